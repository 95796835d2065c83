/-
  What the law's own helpers do: a list with room behind it, what stands in that room, a list that is spoilt; slices.Equal of rows of any length. No condition but those that each theorem names.
-/
import Derived.Test.YtcfcbglnmhoknabDoorOWalkA
namespace Go.Proofs.YtcfcbglnmhoknabDoor
open Go.RowKit Go.WideShapes

theorem grown_set {w0 w : World} {b i : Nat} {v : Value} (h : w0.grownBy w (some b)) : w0.grownBy (w.setCell ⟨b, i, none⟩ v) (some b) :=
  ⟨h.os, h.tape, h.output, by simpa using h.size, fun k hk hne => by
    have hk' : k ≠ b := fun e => hne (by rw [e])
    rw [← h.block k hk hne]
    exact Below.heap_setCell _ _ _ _ (fun e => hk' (by simpa using e))⟩
theorem grown_refl (w : World) (r : Option Nat) : w.grownBy w r := ⟨rfl, rfl, rfl, Nat.le_refl _, fun _ _ _ => rfl⟩
/-- Cells that may be written. -/
structure Wr (w : World) (p c : Nat) : Prop where
  lt : p < w.heap.size
  cell : ∀ j, j < c → ∃ u, w.cell? ⟨p, j, none⟩ = some u
  free : ∀ j, j < c → w.frozen? ⟨p, j, none⟩ = false
theorem Wr.set {w : World} {p c i : Nat} {v : Value} (h : Wr w p c) (hi : i < c) : Wr (w.setCell ⟨p, i, none⟩ v) p c := by
  obtain ⟨u, hu⟩ := h.cell i hi
  refine ⟨by simpa using h.lt, fun j hj => ?_, fun j hj => ?_⟩
  · obtain ⟨x, hx⟩ := h.cell j hj
    by_cases e : j = i
    · subst e
      exact ⟨v, by go_simp⟩
    · exact ⟨x, by go_simp⟩
  · have hf := h.free j hj
    go_simp
set_option maxRecDepth 100000 in
set_option maxHeartbeats 1000000 in
theorem spoil_at (p n c : Nat) (x : Int) (w : World) (hc : (c : Int) ≤ 9223372036854775807) (hn : n ≤ c) (hW : Wr w p c) :
    Calls Tryd.prog 35 #[.slice (some ⟨p, 0, none⟩) n c, .int .i64 x] w fun e w' => (∃ v, e = .returned v) ∧ w.grownBy w' (some p) := by
  have H := Lib.hid hW
  clear hW
  go_enter Tryd.func35, Tryd.ntmps35
  go_wp2
  go_loopw [11] (fun i wr => ∃ k : Nat, k ≤ c ∧ i = .int .i64 k ∧ Wr wr p c ∧ w.grownBy wr (some p)) (fun i _ => (c - intOf i).toNat)
  case atStart => exact ⟨0, by omega, rfl, H.out, grown_refl _ _⟩
  case round =>
    obtain ⟨k, hk, rfl, hW, hg⟩ := hrel
    by_cases hlt : k < c
    · obtain ⟨u, hu⟩ := hW.cell k hlt
      have hf := hW.free k hlt
      have lt := hW.lt
      have W' := Lib.hid (hW.set (v := .int .i64 x) hlt)
      have G' := Lib.hid (grown_set (i := k) (v := .int .i64 x) hg)
      have i1 : (k : Int) < (c : Int) := by omega
      clear hW hg
      go_wp2
      go_roundw
      case rel => exact ⟨k + 1, by omega, by go_num, W'.out, G'.out⟩
      case measure => simp [intOf]; omega
    · obtain rfl : k = c := by omega
      clear hlt
      go_wp2
      go_end0
      exact ⟨⟨_, rfl⟩, hg⟩
set_option maxHeartbeats 1000000 in
theorem spoil_nil (x : Int) (w : World) :
    Calls Tryd.prog 35 #[.slice none 0 0, .int .i64 x] w fun e w' => (∃ v, e = .returned v) ∧ w = w' := by
  go_enter Tryd.func35, Tryd.ntmps35
  go_wp2
  go_loopw [11] (fun i wr => i = .int .i64 0 ∧ w = wr) (fun _ _ => 0)
  case atStart => exact ⟨rfl, rfl⟩
  case round =>
    obtain ⟨rfl, rfl⟩ := hrel
    go_wp2
    go_end0
    exact ⟨⟨_, rfl⟩, rfl⟩
/-- A row that is spoilt: all else is as it was. -/
theorem spoil_sp {B n : Nat} {v : Value} {g : Nat → Int} (x : Int) (w : World) (h : Sp B w v n g) :
    Calls Tryd.prog 35 #[v, .int .i64 x] w fun e w' => (∃ u, e = .returned u) ∧ w.grownBy w' v.ownBlock := by
  rcases h with ⟨rfl, _⟩ | ⟨p, c, rfl, _, h2, h3, h4, _, h6, h7⟩
  · refine (spoil_nil x w).mono ?_
    rintro e w' ⟨he, rfl⟩
    exact ⟨he, grown_refl _ _⟩
  · exact spoil_at p n c x w h4 h3 ⟨h2, h6, h7⟩

/-- slices.Equal of rows of any length. -/
def RdN (w : World) (a : Option Addr) (n : Nat) (g : Nat → Int) : Prop := n = 0 ∨ ∃ p off, a = some ⟨p, off, none⟩ ∧ ∀ j, j < n → w.cell? ⟨p, off + j, none⟩ = some (.int .i64 (g j))
set_option maxHeartbeats 1000000 in
theorem equal_big (g : Nat → Int) (a b : Option Addr) (n cap cap' : Nat) (w : World) (hn : (n : Int) ≤ 4611686018427387904) (hR : RdN w a n g) (hQ : RdN w b n g) :
    Calls Tryd.prog 13 #[.slice a n cap, .slice b n cap'] w fun e w' => e = .returned (.bool true) ∧ Drew w w' := by
  have HR := Lib.hid hR
  have HQ := Lib.hid hQ
  clear hR hQ
  go_enter Tryd.func13, Tryd.ntmps13
  go_wp2
  go_loopw [13] (fun i wr => ∃ k m : Nat, k ≤ n ∧ i = .int .i64 k ∧ wr = w.drewN m) (fun i _ => (n - intOf i).toNat)
  case atStart => exact ⟨0, 0, by omega, rfl, rfl⟩
  case round =>
    obtain ⟨k, m, hk, rfl, rfl⟩ := hrel
    by_cases hlt : k < n
    · rcases HR.out with z | ⟨p, off, rfl, hR⟩
      · omega
      rcases HQ.out with z | ⟨q, off', rfl, hQ⟩
      · omega
      have hc := hR k hlt
      have hd := hQ k hlt
      clear hR hQ
      generalize g k = x at *
      have i0 : (0 : Int) ≤ (k : Int) := by omega
      have i1 : (k : Int) < (n : Int) := by omega
      go_wp2_with fail
      go_quiet (fail)
      go_wp2
      go_roundw
      case rel => exact ⟨k + 1, _, by omega, by go_num, rfl⟩
      case measure => simp [intOf]; omega
    · obtain rfl : k = n := by omega
      clear hlt
      go_wp2
      go_ret
      exact ⟨rfl, m, rfl⟩
set_option maxRecDepth 100000 in
set_option maxHeartbeats 1000000 in
/-- What stands in the room behind a list. -/
theorem marked_at (p n : Nat) (x : Int) (w : World) (hn : (n : Int) ≤ 4611686018427387904) (h0 : w.cell? ⟨p, n, none⟩ = some (.int .i64 x)) (h1 : w.cell? ⟨p, n + 1, none⟩ = some (.int .i64 x)) (h2 : w.cell? ⟨p, n + 2, none⟩ = some (.int .i64 x)) :
    Calls Tryd.prog 32 #[.slice (some ⟨p, 0, none⟩) n (n + 3), .int .i64 x] w fun e w' => e = .returned (.bool true) ∧ w = w' := by
  have H := Lib.hid (show ∀ k, k < 3 → w.cell? ⟨p, n + k, none⟩ = some (.int .i64 x) by
    intro k hk
    rcases (show k = 0 ∨ k = 1 ∨ k = 2 by omega) with rfl | rfl | rfl
    · exact h0
    · exact h1
    · exact h2)
  clear h0 h1 h2
  go_enter Tryd.func32, Tryd.ntmps32
  go_wp2
  go_loopw [14] (fun i wr => ∃ k : Nat, k ≤ 3 ∧ i = .int .i64 k ∧ w = wr) (fun i _ => (3 - intOf i).toNat)
  case atStart => exact ⟨0, by omega, rfl, rfl⟩
  case round =>
    obtain ⟨k, hk, rfl, rfl⟩ := hrel
    by_cases hlt : k < 3
    · have hc := H.out k hlt
      have i1 : (k : Int) < 3 := by omega
      have e3 : n + 3 - n = 3 := by omega
      rw [e3]
      clear e3
      go_wp2
      go_roundw
      case rel => exact ⟨k + 1, by omega, by go_num, by first | rfl | trivial⟩
      case measure => simp [intOf]; omega
    · obtain rfl : k = 3 := by omega
      clear hlt
      go_wp2
      go_ret
      exact ⟨rfl, rfl⟩

theorem make_room (n : Nat) (hn : (n : Int) ≤ 20000000000000) (w : World) :
    (Instr.makeSlice 25 (.int .i64 0) (.int .i64 ((n : Int) + 3))).run Tryd.prog w = .ok (.slice (some ⟨w.heap.size, 0, none⟩) 0 (n + 3)) (w.alloc (.cells (zs (n + 3)) 3)) := by
  obtain ⟨i0, hi, hz0, hz1, hz2⟩ := info_parts infoInt
  have h := run_make (P := Tryd.prog) w 25 3 i0 (.int .i64 0) Tryd.underlying25 hi hz0 .i64 .i64 0 ((n : Int) + 3) (by omega) (by omega) (by rw [hz2]; omega) (by omega)
  rw [hz1, show ((n : Int) + 3).toNat = n + 3 by omega] at h
  simpa [zs, Value.cells] using h
/-- A list with room behind it, in which something stands in the first k places. -/
structure Rm (w : World) (g n k : Nat) (wt : Nat → Int) (x : Int) : Prop where
  wr : Wr w g (n + 3)
  c : ∀ j, j < n → w.cell? ⟨g, j, none⟩ = some (.int .i64 (wt j))
  m : ∀ j, j < k → w.cell? ⟨g, n + j, none⟩ = some (.int .i64 x)
theorem Rm.set {w : World} {g n k : Nat} {wt : Nat → Int} {x : Int} (h : Rm w g n k wt x) (hk : k < 3) : Rm (w.setCell ⟨g, n + k, none⟩ (.int .i64 x)) g n (k + 1) wt x := by
  obtain ⟨u, hu⟩ := h.wr.cell (n + k) (by omega)
  refine ⟨h.wr.set (by omega), fun j hj => ?_, fun j hj => ?_⟩
  · have hc := h.c j hj
    have e : j ≠ n + k := by omega
    go_simp
  · by_cases e : j = k
    · subst e; go_simp
    · have hc := h.m j (by omega)
      have e' : n + j ≠ n + k := by omega
      go_simp
theorem Rm.later {w w' : World} {g n k : Nat} {wt : Nat → Int} {x : Int} (h : Rm w g n k wt x) (q : Kept w w') : Rm w' g n k wt x :=
  ⟨⟨Nat.lt_of_lt_of_le h.wr.lt q.le, fun j hj => by obtain ⟨u, hu⟩ := h.wr.cell j hj; exact ⟨u, (q.rd.1 _ _ h.wr.lt).trans hu⟩, fun j hj => (q.rd.2 _ _ h.wr.lt).trans (h.wr.free j hj)⟩,
    fun j hj => (q.rd.1 _ _ h.wr.lt).trans (h.c j hj), fun j hj => (q.rd.1 _ _ h.wr.lt).trans (h.m j hj)⟩
theorem run_room (w : World) {g n cap : Nat} {a : Option Addr} {wt : Nat → Int} (ty : TypeId) (hA : Arg w a n wt) (hz : a = none → cap = 0 ∧ n = 0) (ho : w.ownsRow g 3 1 (.slice (some ⟨g, 0, none⟩) 0 (n + 3)) 0 []) :
    ∃ w', (Builtin.append_ #[25, 25] ty #[.slice (some ⟨g, 0, none⟩) 0 (n + 3), .slice a n cap]).run Tryd.prog w = .ok (.slice (some ⟨g, 0, none⟩) n (n + 3)) w' ∧ Rm w' g n 0 wt 0 ∧ w.grownBy w' (some g) := by
  obtain ⟨i0, hi, hz0, hz1, hz2⟩ := info_parts infoInt
  have key : ∀ w' : World, w'.ownsRow g 3 1 (.slice (some ⟨g, 0, none⟩) n (n + 3)) n ((tab n wt).map (Value.int .i64)) → Rm w' g n 0 wt 0 := by
    intro w' h
    have h0 := h
    rcases h.2 with ⟨e, _⟩ | ⟨q, c, cur, e, hb, hh, hn, hm, hs, _⟩
    · cases e
    · injection e with e1 e2 e3
      injection e1 with e1
      injection e1 with e1
      subst e1 e3
      refine ⟨⟨(h0.lt g rfl).2, fun j hj => ?_, fun j _ => h0.frozenAt j⟩, fun j hj => ?_, fun j hj => by omega⟩
      · have hj' : j < cur.size := by rw [hs]; omega
        exact ⟨cur[j], by simp [World.cell?, hh, hj']⟩
      · rw [h0.cellAt j (by omega), List.getElem?_map, List.getElem?_eq_getElem (by rw [tab_len]; exact hj), tab_get]
        rfl
  cases a with
  | none =>
    obtain ⟨rfl, rfl⟩ := hz rfl
    exact ⟨w, run_append_owned_none w g 25 ty 3 i0 1 Tryd.underlying25 hi _ 0 _ ho, key w (by simpa [tab] using ho), grown_refl _ _⟩
  | some ad =>
    have hnews : ∀ (j : Nat) (u : Value), ((tab n wt).map (Value.int .i64))[j]? = some u → w.cell? (ad.add j) = some u := by
      intro j u hj
      have hl : j < (tab n wt).length := by
        rw [List.getElem?_eq_some_iff] at hj; obtain ⟨q, _⟩ := hj; simpa using q
      rw [List.getElem?_map, List.getElem?_eq_getElem hl] at hj
      rw [tab_len] at hl
      obtain ⟨p, off, e, hR⟩ := hA.at (by omega)
      injection e with e
      subst e
      rw [add_plain, hR.cell j (by rw [tab_len]; exact hl)]
      exact hj
    have h1 : ∀ u ∈ (tab n wt).map (Value.int .i64), u.oneCell' = true := by
      intro u hu
      rw [List.mem_map] at hu
      obtain ⟨z, _, rfl⟩ := hu
      rfl
    obtain ⟨w', hr, h2, h3⟩ := run_append_fits (P := Tryd.prog) w g 25 ty 3 i0 1 Tryd.underlying25 hi hz1 g 0 (n + 3) [] ho ad n cap _ (by rw [List.length_map, tab_len]; omega) hnews h1 (by omega)
    rw [Nat.zero_add, List.nil_append] at h2
    rw [Nat.zero_add] at hr
    exact ⟨w', hr, key w' h2, h3⟩
theorem app_room {w : World} {ops : Array Oper} {rest : List Oper} {o : Oper} {a : Act} {Q : Exit → Act → World → Prop} (hgd : o.guard = none) (s x : Operand)
    (ho : o.op = .call { callee := .builtin .append, args := #[s, x], argTypes := #[25, 25] }) {g n cap : Nat} {b : Option Addr} {wt : Nat → Int}
    (hs : a.eval s = .slice (some ⟨g, 0, none⟩) 0 (n + 3)) (hx : a.eval x = .slice b n cap) (hA : Arg w b n wt) (hz : b = none → cap = 0 ∧ n = 0) (hw : w.ownsRow g 3 1 (.slice (some ⟨g, 0, none⟩) 0 (n + 3)) 0 [])
    (k : ∀ w', Rm w' g n 0 wt 0 → w.grownBy w' (some g) → wpList Tryd.prog ops Q rest (a.put o.dst (.slice (some ⟨g, 0, none⟩) n (n + 3))) w') : wpList Tryd.prog ops Q (o :: rest) a w := by
  refine wpList_plain hgd fun _ hK => ?_
  obtain ⟨w', hr, h2, h3⟩ := run_room w o.type hA hz hw
  unfold Oper.wp execOp
  simp only [ho, resolve, invoke, builtin, Sem.run_bind, Sem.run_pure, Result.andThen_ok, List.map_toArray, List.map_cons, List.map_nil, hs, hx, hr]
  exact hK _ _ (k w' h2 h3)
set_option maxRecDepth 100000 in
set_option maxHeartbeats 1000000 in
theorem roomy_any (a : Option Addr) (n cap : Nat) (x : Int) (wt : Nat → Int) (w : World) (hn : (n : Int) ≤ 20000000000000) (hA : Arg w a n wt) (hz : a = none → cap = 0 ∧ n = 0) :
    Calls Tryd.prog 23 #[.slice a n cap, .int .i64 x] w fun e w' => ∃ g, w.heap.size ≤ g ∧ e = .returned (.slice (some ⟨g, 0, none⟩) n (n + 3)) ∧ Rm w' g n 3 wt x ∧ Kept w w' := by
  have mk := make_room n hn
  have HA := Lib.hid (hA.later ((Kept.refl w).alloc (.cells (zs (n + 3)) 3)))
  have HZ := Lib.hid hz
  have HO := Lib.hid (World.ownsRow_made (base := w.heap.size) (e := 3) (size := 1) w (zs (n + 3)) (n + 3) (Nat.le_refl _) (by unfold maxLen; omega) (by rw [zs_size]; omega))
  have HK := Lib.hid ((Kept.refl w).alloc (.cells (zs (n + 3)) 3))
  clear hA hz
  go_enter Tryd.func23, Tryd.ntmps23
  go_wp2_with (at_builtin; refine app_room rfl _ _ rfl rfl rfl HA.out HZ.out HO.out ?_)
  clear mk
  intro w1 hR hg
  have hK := Below.grown (show Below w.heap.size w _ from HK.out) hg (by simp) (fun k e => by injection e with e; omega)
  clear hg HA HZ HO HK
  generalize hgg : w.heap.size = g at *
  have GE := Lib.hid hgg
  clear hgg
  have hR0 : Rm w1 g n 0 wt x := ⟨hR.wr, hR.c, fun j hj => by omega⟩
  clear hR
  go_wp2
  go_loopw [13] (fun i wr => ∃ k : Nat, k ≤ 3 ∧ i = .int .i64 k ∧ Rm wr g n k wt x ∧ Below g w wr) (fun i _ => (3 - intOf i).toNat)
  case atStart => exact ⟨0, by omega, rfl, hR0, hK⟩
  case round =>
    clear hR0 hK
    obtain ⟨k, hk, rfl, hR, hK⟩ := hrel
    by_cases hlt : k < 3
    · obtain ⟨u, hu⟩ := hR.wr.cell (n + k) (by omega)
      have hf := hR.wr.free (n + k) (by omega)
      have R' := Lib.hid (hR.set hlt)
      have K' := Lib.hid (hK.setCell (p := ⟨g, n + k, none⟩) (Nat.le_refl _) (.int .i64 x))
      have i1 : (k : Int) < 3 := by omega
      have tn : ((n : Int) + (k : Int)).toNat = n + k := by omega
      clear hR hK
      go_wp2
      go_roundw
      case rel => exact ⟨k + 1, by omega, by go_num, R'.out, K'.out⟩
      case measure => simp [intOf]; omega
    · obtain rfl : k = 3 := by omega
      clear hlt
      go_wp2
      go_ret
      exact ⟨g, by rw [GE.out]; exact Nat.le_refl _, rfl, hR, by unfold Kept; rw [GE.out]; exact hK⟩

end Go.Proofs.YtcfcbglnmhoknabDoor
