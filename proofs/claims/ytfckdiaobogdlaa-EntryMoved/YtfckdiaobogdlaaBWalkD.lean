/-
  What the library's slices.Grow (of nil), Concat (of two) and Clone return at rows of lines, and talkeep's Within. No condition but those that each theorem names.
-/
import Derived.Test.YtfckdiaobogdlaaBMath
import Derived.Lib.AppendZeros
namespace Go.Proofs.Ytfckdiaobogdlaa
open Go.RowKit Go.WideShapes
set_option linter.unusedVariables false

/-- Some integer from 0 to n-1. -/
def SomeBelow (n : Int) (w : World) (e : Ending) (w' : World) : Prop := ∃ r : Int, 0 ≤ r ∧ r < n ∧ e = .returned (.int .i64 r) ∧ w = w'
theorem wrap_u64_nonneg (k : Int) : 0 ≤ IntKind.u64.wrap k := by
  rw [IntKind.wrap_u64]; omega
theorem within_val (k n : Int) (w : World) (h0 : 1 ≤ n) (h1 : n ≤ 1000000000) : SomeBelow n w (.returned (.int .i64 (wrap64 ((IntKind.u64.wrap k).tmod n)))) w := by
  have h2 : 0 ≤ IntKind.u64.wrap k := wrap_u64_nonneg k
  have h3 : (IntKind.u64.wrap k).tmod n = IntKind.u64.wrap k % n := Int.tmod_eq_emod_of_nonneg h2
  have h4 : 0 ≤ IntKind.u64.wrap k % n := Int.emod_nonneg _ (by omega)
  have h5 : IntKind.u64.wrap k % n < n := Int.emod_lt_of_pos _ (by omega)
  rw [h3]
  refine ⟨IntKind.u64.wrap k % n, h4, h5, ?_, rfl⟩
  rw [show wrap64 (IntKind.u64.wrap k % n) = IntKind.u64.wrap k % n from by unfold wrap64; omega]
set_option maxHeartbeats 400000 in
theorem within_any (k n : Int) (w : World) (h0 : 1 ≤ n) (h1 : n ≤ 1000000000) :
    Calls Try.prog 17 #[.int .i64 k, .int .i64 n] w (SomeBelow n w) := by
  go_enter Try.func17, Try.ntmps17
  go_wp2
  go_ret
  exact within_val k n w h0 h1
/-- A row of pairs, whatever its place. -/
def RowPostP (T : TypeId) (w : World) (l : List Pr) (e : Ending) (w' : World) : Prop := ∃ v, e = .returned v ∧ PGr T w.heap.size w' v l ∧ Kept w w'
theorem run_grow (w : World) (n : Nat) (n1 : 1 ≤ n) (n2 : n ≤ 1000) (ty : TypeId) :
    ∃ G w', (Builtin.append_ #[37, 3] ty #[.slice none 0 0, .int .i64 (n : Int)]).run Try.prog w = .ok (.slice (some ⟨w.heap.size, 0, none⟩) n G) w' ∧ n ≤ G ∧ G ≤ maxLen ∧ PGr 44 w.heap.size w' (.slice (some ⟨w.heap.size, 0, none⟩) 0 G) [] ∧ Kept w w' := by
  obtain ⟨i0, hi, hz0, hz1, hz2⟩ := info_parts pairLine
  have h := Lib.run_append_nil_zeros (P := Try.prog) w 37 3 ty 44 i0 _ .i64 .i64 Try.underlying37 Try.underlying3 hi hz0 n n1 (by rw [hz1]; decide) (by omega) (by rw [hz2]; omega)
  have g1 := grownCap_ge w n 0 44
  have g2 := grownCap_le_maxLen w n 0 44 (by unfold maxLen; omega)
  refine ⟨_, _, h, g1, g2, ⟨?_⟩, ((Kept.refl w).drew).alloc _⟩
  have := World.ownsRow_made (base := w.heap.size) (e := 44) (size := 2) w.drew (Builtin.zeroCells (Value.agg #[.string ⟨#[]⟩, .int .i64 0]).cells n ++ Builtin.zeroCells (Value.agg #[.string ⟨#[]⟩, .int .i64 0]).cells (grownCap w n 0 44 - n)) (grownCap w n 0 44) (Nat.le_refl _) g2 (by
    rw [Array.size_append, size_zeroCells, size_zeroCells]
    simp [Value.cells]
    omega)
  exact this
set_option maxHeartbeats 1000000 in
theorem grow_any (n : Nat) (w : World) (n1 : 1 ≤ n) (n2 : n ≤ 1000) :
    Calls Try.prog 29 #[.slice none 0 0, .int .i64 (n : Int)] w (RowPostP 44 w []) := by
  obtain ⟨G, w1, hr, g1, g2, hG, hK⟩ := run_grow w n n1 n2 37
  have g3 : G ≤ 9223372036854775807 := g2
  go_enter Try.func29, Try.ntmps29
  go_wp2_with (at_builtin; refine Lib.wpList_append_run _ rfl _ _ _ _ rfl _ _ rfl rfl _ _ hr ?_)
  go_ret
  exact ⟨_, rfl, hG, hK⟩
theorem run_append_prs (T S : TypeId) (hT : PairT T) (hS : Try.prog.underlying S = some (.slice T)) (w : World) {B p off c : Nat} {v : Value} {l m : List Pr} (ty : TypeId) (a : PGr T B w v l) (hR : PRow w p off m) (hn : l.length + m.length ≤ 1000000) (hB : B ≤ w.heap.size) :
    ∃ v' w', (Builtin.append_ #[S, S] ty #[v, .slice (some ⟨p, off, none⟩) m.length c]).run Try.prog w = .ok v' w' ∧ PGr T B w' v' (l ++ m) ∧ w.grownBy w' v.ownBlock := by
  obtain ⟨i0, hi, hz0, hz1, hz2⟩ := info_parts hT
  have h63 : l.length + m.length ≤ maxLen := by unfold maxLen; omega
  have hnews : ∀ (j : Nat) (u : Value), (pcs m)[j]? = some u → w.cell? ((⟨p, off, none⟩ : Addr).add j) = some u := by
    intro j u hj
    have jl : j < m.length * 2 := by
      by_cases c : j < (pcs m).length
      · rw [pcs_len] at c; exact c
      · rw [List.getElem?_eq_none (by omega)] at hj; cases hj
    rw [add_plain]
    rcases (show j = j / 2 * 2 ∨ j = j / 2 * 2 + 1 by omega) with e | e
    · have g := (pcs_get m (j / 2) (by omega)).1
      have c0 := hR.c0 (j / 2) (by omega)
      rw [← e] at g c0
      rw [hj] at g
      rw [c0, g]
    · have g := (pcs_get m (j / 2) (by omega)).2
      have c0 := hR.c1 (j / 2) (by omega)
      rw [Nat.add_assoc, ← e] at c0
      rw [← e] at g
      rw [hj] at g
      rw [c0, g]
  obtain ⟨v', w', hr, h2, h3, h4⟩ := run_append_own (P := Try.prog) w B S ty T i0 _ 2 24 hS hi hz0 hz1 hz2 rfl (by decide) v l.length _ a.own ⟨p, off, none⟩ m.length c (pcs m) (pcs_len m) hnews (pcs_one m) h63 (by omega) hB
  refine ⟨v', w', hr, ⟨?_⟩, h3⟩
  rw [List.length_append, pcs_append]
  exact h2
/-- A row of pairs appended. -/
theorem app_prs (T S : TypeId) (hT : PairT T) (hS : Try.prog.underlying S = some (.slice T)) {w : World} {ops : Array Oper} {rest : List Oper} {o : Oper} {a : Act} {Q : Exit → Act → World → Prop} (hgd : o.guard = none) (s x : Operand)
    (ho : o.op = .call { callee := .builtin .append, args := #[s, x], argTypes := #[S, S] }) {B p off c : Nat} {v : Value} {l m : List Pr}
    (hs : a.eval s = v) (hx : a.eval x = .slice (some ⟨p, off, none⟩) m.length c) (ha : PGr T B w v l) (hR : PRow w p off m) (hn : l.length + m.length ≤ 1000000) (hB : B ≤ w.heap.size)
    (h : ∀ v' w', PGr T B w' v' (l ++ m) → w.grownBy w' v.ownBlock → wpList Try.prog ops Q rest (a.put o.dst v') w') : wpList Try.prog ops Q (o :: rest) a w := by
  refine wpList_plain hgd fun _ hK => ?_
  obtain ⟨v', w', hr, h2, h3⟩ := run_append_prs T S hT hS (c := c) w o.type ha hR hn hB
  unfold Oper.wp execOp
  simp only [ho, resolve, invoke, builtin, Sem.run_bind, Sem.run_pure, Result.andThen_ok, List.map_toArray, List.map_cons, List.map_nil, hs, hx, hr]
  exact hK _ _ (h v' w' h2 h3)
theorem PGr.empty (T : TypeId) (w : World) : PGr T w.heap.size (w.alloc (.cells #[] T)) (.slice (some ⟨w.heap.size, 0, none⟩) 0 0) [] :=
  ⟨by have := World.ownsRow_lit (base := w.heap.size) (e := T) (size := 2) w #[] 0 (Nat.le_refl _) (by decide) rfl
      simpa [pcs] using this⟩
set_option maxHeartbeats 1000000 in
theorem lclone_row (p off cap : Nat) (l : List Pr) (w : World) (hn : l.length ≤ 1000) (hR : PRow w p off l) :
    Calls Try.prog 19 #[.slice (some ⟨p, off, none⟩) l.length cap] w (RowPostP 44 w l) := by
  have ne : ∀ w : World, (binOp .eql 37 (.slice (some ⟨p, off, none⟩) l.length cap) (.slice none 0 0)).run Try.prog w = .ok (.bool false) w := fun w => by
    rw [Lib.run_eql_slice_nil w 37 44 _ l.length cap 0 0 Try.underlying37]; rfl
  have hE := PGr.empty 44 w
  have hK := (Kept.refl w).alloc (.cells #[] 44)
  have hR2 := hR.later hK
  clear hR
  go_enter Try.func19, Try.ntmps19
  go_wp2_with (at_builtin; refine app_prs 44 37 pairLine Try.underlying37 rfl _ _ rfl (B := w.heap.size) rfl rfl hE hR2 (by simp; omega) (by have := hK.size; omega) ?_)
  intro v' w1 hG hgrow
  have hK1 := hE.below (Nat.le_refl _) hK hgrow
  go_wp2
  go_ret
  exact ⟨v', rfl, by simpa using hG, hK1⟩
set_option maxHeartbeats 2000000 in
theorem concat_two (b p off c q off' c' : Nat) (l m : List Pr) (w : World) (l1 : 1 ≤ l.length) (l2 : l.length ≤ 100) (m2 : m.length ≤ 100) (hb : b < w.heap.size) (b0 : w.cell? ⟨b, 0, none⟩ = some (.slice (some ⟨p, off, none⟩) l.length c)) (b1 : w.cell? ⟨b, 1, none⟩ = some (.slice (some ⟨q, off', none⟩) m.length c')) (hR : PRow w p off l) (hQ : PRow w q off' m) :
    Calls Try.prog 18 #[.slice (some ⟨b, 0, none⟩) 2 2] w (RowPostP 44 w (l ++ m)) := by
  have HR := Lib.hid hR
  have HQ := Lib.hid hQ
  clear hR hQ
  go_enter Try.func18, Try.ntmps18
  go_wp2
  go_loop [3, 11] (fun s i => (i = .int .i64 0 ∧ s = .int .i64 0) ∨ (i = .int .i64 1 ∧ s = .int .i64 (l.length : Int)) ∨ (i = .int .i64 2 ∧ s = .int .i64 ((l.length : Int) + (m.length : Int)))) (fun _ i => (2 - intOf i).toNat)
  case atStart => exact .inl ⟨rfl, rfl⟩
  case round =>
    rcases hrel with ⟨rfl, rfl⟩ | ⟨rfl, rfl⟩ | ⟨rfl, rfl⟩
    · go_wp2
      go_round
      case rel => exact .inr (.inl ⟨rfl, by simp⟩)
      case measure => simp [intOf]
    · go_wp2
      go_round
      case rel => exact .inr (.inr ⟨rfl, rfl⟩)
      case measure => simp [intOf]
    · rw [show (l.length : Int) + (m.length : Int) = ((l.length + m.length : Nat) : Int) by omega]
      go_wp2_with fail
      refine (grow_any (l.length + m.length) _ (by omega) (by omega)).mono ?_
      rintro e w1 ⟨v1, rfl, hG, hK⟩
      obtain ⟨a1, g1, rfl, _, _⟩ := hG.form
      go_wp2
      go_loopw [6, 27] (fun v i wr => ∃ z, ((i = .int .i64 0 ∧ z = []) ∨ (i = .int .i64 1 ∧ z = l) ∨ (i = .int .i64 2 ∧ z = l ++ m)) ∧ PGr 44 w.heap.size wr v z ∧ Kept w wr) (fun _ i _ => (2 - intOf i).toNat)
      case atStart => exact ⟨[], .inl ⟨rfl, rfl⟩, hG, hK⟩
      case round =>
        clear hG hK
        obtain ⟨z, hz, hG, hK⟩ := hrel
        have c0 := (hK.rd.1 _ _ hb).trans b0
        have c1 := (hK.rd.1 _ _ hb).trans b1
        have hb2 : b < wr.heap.size := Nat.lt_of_lt_of_le hb hK.le
        rcases hz with ⟨rfl, rfl⟩ | ⟨rfl, rfl⟩ | ⟨rfl, rfl⟩
        · go_wp2_with (at_builtin; refine app_prs 44 37 pairLine Try.underlying37 rfl _ _ rfl rfl rfl hG (HR.out.later hK) (by simp; omega) hK.le ?_)
          intro v' w2 hG2 hgr
          have hK2 := hG.below (Nat.le_refl _) hK hgr
          go_wp2
          go_roundw
          case rel => exact ⟨l, .inr (.inl ⟨rfl, rfl⟩), by simpa using hG2, hK2⟩
          case measure => simp [intOf]
        · go_wp2_with (at_builtin; refine app_prs 44 37 pairLine Try.underlying37 rfl _ _ rfl rfl rfl hG (HQ.out.later hK) (by omega) hK.le ?_)
          intro v' w2 hG2 hgr
          have hK2 := hG.below (Nat.le_refl _) hK hgr
          go_wp2
          go_roundw
          case rel => exact ⟨z ++ m, .inr (.inr ⟨rfl, rfl⟩), hG2, hK2⟩
          case measure => simp [intOf]
        · go_wp2
          go_ret
          exact ⟨_, rfl, hG, hK⟩
end Go.Proofs.Ytfckdiaobogdlaa
