/-
  What slices.Concat returns of two slices of moves. No condition but those that each theorem names.
-/
import Derived.Test.YtiilljdeplihoaaLawStockOut
import Derived.Test.YtiilljdeplihoaaPApp
import Derived.Lib.AppendZerosOnto
namespace Go.Proofs.Ytiilljdeplihoaa
open Go.RowKit Go.WideShapes
set_option linter.unusedVariables false

theorem ownsRow_qv {α : Type} {E : Jec α} {w : World} {B : Nat} {T : TypeId} {a : Addr} {n c : Nat} {l : List α} (hl : l.length = n) (h : w.ownsRow B T E.k (.slice (some a) n c) n (E.cat l)) : QRow E B w (.slice (some a) n c) l := by
  subst hl
  rcases h.2 with ⟨h0, _⟩ | ⟨g, cap, cur, e, hb, hg, hn, hm, hs, ht⟩
  · cases h0
  · obtain ⟨rfl, rfl⟩ : a = ⟨g, 0, none⟩ ∧ c = cap := by simpa using e
    refine ⟨_, c, rfl, hn, hm, .inr ⟨g, 0, rfl, hb, ⟨⟨(Array.getElem?_eq_some_iff.1 hg).1, fun j u hj => ?_⟩, fun j hj => ?_⟩⟩⟩
    · have hlt := (List.getElem?_eq_some_iff.1 hj).1
      rw [E.cat_len] at hlt
      rw [Nat.zero_add, h.cellAt j hlt, hj]
    · rw [Nat.zero_add, cell_of_row w g j cur T (0, 0) hg, frozen_of_row w g j cur T hg]
      simp [hs, hj]
/-- A row of moves of the call's own. -/
def MvPost (w : World) (l : List Mv) (e : Ending) (w' : World) : Prop := ∃ v, e = .returned v ∧ QRow eP w.heap.size w' v l ∧ Kept w w'
theorem run_growP (w : World) (n : Nat) (n1 : 1 ≤ n) (n2 : n ≤ 1000000) (ty : TypeId) :
    ∃ G w', (Builtin.append_ #[22, 3] ty #[.slice none 0 0, .int .i64 (n : Int)]).run Try.prog w = .ok (.slice (some ⟨w.heap.size, 0, none⟩) n G) w' ∧ n ≤ G ∧ G ≤ maxLen ∧ QRow eP w.heap.size w' (.slice (some ⟨w.heap.size, 0, none⟩) 0 G) [] ∧ Kept w w' := by
  obtain ⟨i0, hi, hz0, hz1, hz2⟩ := info_parts isMove
  have hz1' : i0.size = 2 := hz1
  have h := Lib.run_append_nil_zeros (P := Try.prog) w 22 3 ty 40 i0 _ .i64 .i64 Try.underlying22 Try.underlying3 hi hz0 n n1 (by rw [hz1']; decide) (by omega) (by rw [hz2]; omega)
  have g1 := grownCap_ge w n 0 40
  have g2 := grownCap_le_maxLen w n 0 40 (by unfold maxLen; omega)
  refine ⟨_, _, h, g1, g2, ?_, ((Kept.refl w).drew).alloc _⟩
  have := World.ownsRow_made (base := w.heap.size) (e := 40) (size := 2) w.drew (Builtin.zeroCells (Value.agg #[.int .i64 0, .int .i64 0]).cells n ++ Builtin.zeroCells (Value.agg #[.int .i64 0, .int .i64 0]).cells (grownCap w n 0 40 - n)) (grownCap w n 0 40) (Nat.le_refl _) g2 (by
    rw [Array.size_append, size_zeroCells, size_zeroCells]
    simp [Value.cells]
    omega)
  exact ownsRow_qv (T := 40) rfl this
set_option maxRecDepth 100000 in
set_option maxHeartbeats 2000000 in
theorem growP_any (n : Nat) (w : World) (n2 : n ≤ 1000000) :
    Calls Try.prog 30 #[.slice none 0 0, .int .i64 (n : Int)] w (MvPost w []) := by
  by_cases n1 : 1 ≤ n
  · obtain ⟨G, w1, hr, g1, g2, hG, hK⟩ := run_growP w n n1 n2 22
    have g3 : G ≤ 9223372036854775807 := g2
    go_enter Try.func30, Try.ntmps30
    go_wp2_with (at_builtin; refine Lib.wpList_append_run _ rfl _ _ _ _ rfl _ _ rfl rfl _ _ hr ?_)
    go_ret
    exact ⟨_, rfl, hG, hK⟩
  · obtain rfl : n = 0 := by omega
    go_enter Try.func30, Try.ntmps30
    go_wp2
    go_ret
    exact ⟨_, rfl, QRow.nil _ _ _, Kept.refl _⟩
set_option maxRecDepth 100000 in
set_option maxHeartbeats 8000000 in
theorem concat_any (bk c c' : Nat) (a b : Option Addr) (l m : List Mv) (w : World) (hn : l.length + m.length ≤ 1000000) (hb : bk < w.heap.size) (b0 : w.cell? ⟨bk, 0, none⟩ = some (.slice a l.length c)) (b1 : w.cell? ⟨bk, 1, none⟩ = some (.slice b m.length c')) (hL : JArg eP w a l) (hM : JArg eP w b m) (z1 : a = none → c = 0) (z2 : b = none → c' = 0) :
    Calls Try.prog 18 #[.slice (some ⟨bk, 0, none⟩) 2 2] w (MvPost w (l ++ m)) := by
  have HR := Lib.hid hL
  have HQ := Lib.hid hM
  have Z1 := Lib.hid z1
  have Z2 := Lib.hid z2
  clear hL hM z1 z2
  go_enter Try.func18, Try.ntmps18
  go_wp2
  go_loop [3, 11] (fun s i => (i = .int .i64 0 ∧ s = .int .i64 0) ∨ (i = .int .i64 1 ∧ s = .int .i64 (l.length : Int)) ∨ (i = .int .i64 2 ∧ s = .int .i64 ((l.length : Int) + (m.length : Int)))) (fun _ i => (2 - intOf i).toNat)
  case atStart => exact .inl ⟨rfl, rfl⟩
  case round =>
    rcases hrel with ⟨rfl, rfl⟩ | ⟨rfl, rfl⟩ | ⟨rfl, rfl⟩
    · go_wp2
      go_round
      case rel => exact .inr (.inl ⟨rfl, by simp⟩)
      case measure => simp [intOf]
    · go_wp2
      go_round
      case rel => exact .inr (.inr ⟨rfl, rfl⟩)
      case measure => simp [intOf]
    · rw [show (l.length : Int) + (m.length : Int) = ((l.length + m.length : Nat) : Int) by omega]
      go_wp2_with fail
      refine (growP_any (l.length + m.length) _ (by omega)).mono ?_
      rintro e w1 ⟨v1, rfl, hG, hK⟩
      go_wp2
      go_loopw [6, 27] (fun v i wr => ∃ z, ((i = .int .i64 0 ∧ z = []) ∨ (i = .int .i64 1 ∧ z = l) ∨ (i = .int .i64 2 ∧ z = l ++ m)) ∧ QRow eP w.heap.size wr v z ∧ Kept w wr) (fun _ i _ => (2 - intOf i).toNat)
      case atStart => exact ⟨[], .inl ⟨rfl, rfl⟩, hG, hK⟩
      case round =>
        clear hG hK
        obtain ⟨z, hz, hG, hK⟩ := hrel
        obtain ⟨az, cz, hv, _⟩ := id hG.is
        have c0 := (hK.rd.1 _ _ hb).trans b0
        have c1 := (hK.rd.1 _ _ hb).trans b1
        have hb2 : bk < wr.heap.size := Nat.lt_of_lt_of_le hb hK.le
        rcases hz with ⟨rfl, rfl⟩ | ⟨rfl, rfl⟩ | ⟨rfl, rfl⟩
        · subst hv
          go_wp2_with (at_builtin; refine app_qs eP 40 22 _ 16 isMove rfl (by decide) Try.underlying22 rfl _ _ rfl (z := l) rfl rfl hG (HR.out.later hK) Z1.out (by simp; omega) hK.le ?_)
          intro v' w2 hG2 hgr hmv
          have hK2 := hG.kept (Nat.le_refl _) hK hgr
          go_wp2
          go_roundw
          case rel => exact ⟨l, .inr (.inl ⟨rfl, rfl⟩), by simpa using hG2, hK2⟩
          case measure => simp [intOf]
        · subst hv
          go_wp2_with (at_builtin; refine app_qs eP 40 22 _ 16 isMove rfl (by decide) Try.underlying22 rfl _ _ rfl (z := m) rfl rfl hG (HQ.out.later hK) Z2.out (by omega) hK.le ?_)
          intro v' w2 hG2 hgr hmv
          have hK2 := hG.kept (Nat.le_refl _) hK hgr
          go_wp2
          go_roundw
          case rel => exact ⟨z ++ m, .inr (.inr ⟨rfl, rfl⟩), hG2, hK2⟩
          case measure => simp [intOf]
        · subst hv
          go_wp2
          go_ret
          exact ⟨_, rfl, hG, hK⟩
end Go.Proofs.Ytiilljdeplihoaa
