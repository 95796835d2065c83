/-
  slices.Clone of a row of numbers and of a row of periods, and a row of periods that is spoilt. No condition but those that each theorem names.
-/
import Derived.Test.YtcfcbglnmhoknabDoorOWalkB
namespace Go.Proofs.YtcfcbglnmhoknabDoor
open Go.RowKit Go.WideShapes

set_option maxHeartbeats 1000000 in
theorem clone_row (p n cap : Nat) (g : Nat → Int) (w : World) (hn : n ≤ 1000) (hR : Rd w p 0 (tab n g)) :
    Calls Tryd.prog 33 #[.slice (some ⟨p, 0, none⟩) n cap] w fun e w' => ∃ v, e = .returned v ∧ Sp w.heap.size w' v n g ∧ Kept w w' := by
  have ne : ∀ w : World, (binOp .eql 25 (.slice (some ⟨p, 0, none⟩) n cap) (.slice none 0 0)).run Tryd.prog w = .ok (.bool false) w := fun w => by
    rw [Lib.run_eql_slice_nil w 25 3 _ n cap 0 0 Tryd.underlying25]; rfl
  have hE := Gr.empty w g
  have hK := (Kept.refl w).alloc (.cells #[] 3)
  have hR2 := hR.later hK
  clear hR
  go_enter Tryd.func33, Tryd.ntmps33
  go_wp2_with (at_builtin; refine app_row rfl _ _ rfl (B := w.heap.size) rfl rfl hE hR2 (by omega) (by have := hK.size; omega) ?_)
  intro v' w1 hG hgrow
  have hK1 := hE.below (Nat.le_refl _) hK hgrow
  have hS := Sp.ofGr hG
  clear hE hK hR2 hgrow hG ne
  go_wp2
  go_ret
  exact ⟨_, rfl, hS, hK1⟩
set_option maxHeartbeats 1000000 in
theorem clone_nil (w : World) :
    Calls Tryd.prog 33 #[.slice none 0 0] w fun e w' => e = .returned (.slice none 0 0) ∧ w = w' := by
  have ne : ∀ w : World, (binOp .eql 25 (.slice none 0 0) (.slice none 0 0)).run Tryd.prog w = .ok (.bool true) w := fun w => by
    rw [Lib.run_eql_slice_nil w 25 3 _ 0 0 0 0 Tryd.underlying25]; rfl
  go_enter Tryd.func33, Tryd.ntmps33
  go_wp2
  go_ret
  exact ⟨rfl, rfl⟩
theorem clone_sp {B n : Nat} {v : Value} {g : Nat → Int} (w : World) (hn : n ≤ 1000) (h : Sp B w v n g) :
    Calls Tryd.prog 33 #[v] w fun e w' => ∃ v', e = .returned v' ∧ Sp w.heap.size w' v' n g ∧ Kept w w' := by
  rcases h with ⟨rfl, rfl⟩ | ⟨p, c, rfl, _, h2, h3, h4, h5, h6, h7⟩
  · refine (clone_nil w).mono ?_
    rintro e w' ⟨rfl, rfl⟩
    exact ⟨_, rfl, Sp.nil _ _ _, Kept.refl _⟩
  · exact clone_row p n c g w hn ⟨h2, fun j hj => by rw [tab_get, Nat.zero_add]; rw [tab_len] at hj; exact h5 j hj⟩

/-! Rows of periods. -/
theorem RGr.grown {B n : Nat} {w w' : World} {v : Value} {R : Rw} {row : Option Nat} (h : RGr B w v n R) (k : w.grownBy w' row) (hne : v.ownBlock = none ∨ v.ownBlock ≠ row) : RGr B w' v n R := ⟨h.own.kept k hne⟩
theorem RGr.empty (w : World) (R : Rw) : RGr w.heap.size (w.alloc (.cells #[] 55)) (.slice (some ⟨w.heap.size, 0, none⟩) 0 0) 0 R :=
  ⟨by have := World.ownsRow_lit (base := w.heap.size) (e := 55) (size := 3) w #[] 0 (Nat.le_refl _) (by decide) rfl
      simpa [rlist] using this⟩
theorem run_append_rrow (w : World) {B B' m hp c : Nat} {v : Value} {R S : Rw} (ty : TypeId) (a : RGr B w v 0 S) (hR : RGr B' w (.slice (some ⟨hp, 0, none⟩) m c) m R) (hm : m ≤ 100000) (hB : B ≤ w.heap.size) :
    ∃ v' w', (Builtin.append_ #[47, 47] ty #[v, .slice (some ⟨hp, 0, none⟩) m c]).run Tryd.prog w = .ok v' w' ∧ RGr B w' v' m R ∧ w.grownBy w' v.ownBlock := by
  have h63 : 0 + m ≤ maxLen := by unfold maxLen; omega
  obtain ⟨v', w', hrn, h2, h3, _⟩ := run_append_own (P := Tryd.prog) w B 47 ty 55 infoRw (.agg #[.int .i64 0, .int .i64 0, .int .i64 0]) 3 24 Tryd.underlying47 infoRw_is zeroRw sizeRw bytesRw rfl (by decide) v 0 _ a.own ⟨hp, 0, none⟩ m c (rlist R m) (rlist_len R m) (hR.own.cells (g := hp) rfl) (rlist_one R m) h63 (by omega) hB
  refine ⟨v', w', hrn, ⟨?_⟩, h3⟩
  rw [Nat.zero_add] at h2
  simpa [rlist] using h2
theorem app_rrow {w : World} {ops : Array Oper} {rest : List Oper} {o : Oper} {a : Act} {Q : Exit → Act → World → Prop} (hgd : o.guard = none) (s x : Operand)
    (ho : o.op = .call { callee := .builtin .append, args := #[s, x], argTypes := #[47, 47] }) {B B' m hp c : Nat} {v : Value} {R S : Rw}
    (hs : a.eval s = v) (hx : a.eval x = .slice (some ⟨hp, 0, none⟩) m c) (ha : RGr B w v 0 S) (hR : RGr B' w (.slice (some ⟨hp, 0, none⟩) m c) m R) (hm : m ≤ 100000) (hB : B ≤ w.heap.size)
    (k : ∀ v' w', RGr B w' v' m R → w.grownBy w' v.ownBlock → wpList Tryd.prog ops Q rest (a.put o.dst v') w') : wpList Tryd.prog ops Q (o :: rest) a w := by
  refine wpList_plain hgd fun _ hK => ?_
  obtain ⟨v', w', hr, h2, h3⟩ := run_append_rrow (c := c) w o.type ha hR hm hB
  unfold Oper.wp execOp
  simp only [ho, resolve, invoke, builtin, Sem.run_bind, Sem.run_pure, Result.andThen_ok, List.map_toArray, List.map_cons, List.map_nil, hs, hx, hr]
  exact hK _ _ (k v' w' h2 h3)
set_option maxHeartbeats 1000000 in
theorem rclone_row {B : Nat} (p n cap : Nat) (R : Rw) (w : World) (hn : n ≤ 1000) (hR : RGr B w (.slice (some ⟨p, 0, none⟩) n cap) n R) :
    Calls Tryd.prog 34 #[.slice (some ⟨p, 0, none⟩) n cap] w fun e w' => ∃ v, e = .returned v ∧ RGr w.heap.size w' v n R ∧ Kept w w' := by
  have ne : ∀ w : World, (binOp .eql 47 (.slice (some ⟨p, 0, none⟩) n cap) (.slice none 0 0)).run Tryd.prog w = .ok (.bool false) w := fun w => by
    rw [Lib.run_eql_slice_nil w 47 55 _ n cap 0 0 Tryd.underlying47]; rfl
  have hE := RGr.empty w R
  have hK := (Kept.refl w).alloc (.cells #[] 55)
  have hR2 := hR.later hK
  clear hR
  go_enter Tryd.func34, Tryd.ntmps34
  go_wp2_with (at_builtin; refine app_rrow rfl _ _ rfl (B := w.heap.size) rfl rfl hE hR2 (by omega) (by have := hK.size; omega) ?_)
  intro v' w1 hG hgrow
  have hK1 := hE.below (Nat.le_refl _) hK hgrow
  clear hE hK hR2 hgrow ne
  go_wp2
  go_ret
  exact ⟨_, rfl, hG, hK1⟩
set_option maxHeartbeats 1000000 in
theorem rclone_nil (w : World) :
    Calls Tryd.prog 34 #[.slice none 0 0] w fun e w' => e = .returned (.slice none 0 0) ∧ w = w' := by
  have ne : ∀ w : World, (binOp .eql 47 (.slice none 0 0) (.slice none 0 0)).run Tryd.prog w = .ok (.bool true) w := fun w => by
    rw [Lib.run_eql_slice_nil w 47 55 _ 0 0 0 0 Tryd.underlying47]; rfl
  go_enter Tryd.func34, Tryd.ntmps34
  go_wp2
  go_ret
  exact ⟨rfl, rfl⟩
theorem rclone_any {B n : Nat} {v : Value} {R : Rw} (w : World) (hn : n ≤ 1000) (h : RGr B w v n R) :
    Calls Tryd.prog 34 #[v] w fun e w' => ∃ v', e = .returned v' ∧ RGr w.heap.size w' v' n R ∧ Kept w w' := by
  rcases h.own.2 with ⟨rfl, rfl⟩ | ⟨q, c, cur, rfl, _⟩
  · refine (rclone_nil w).mono ?_
    rintro e w' ⟨rfl, rfl⟩
    exact ⟨_, rfl, RGr.nil _ _ _, Kept.refl _⟩
  · exact rclone_row q n c R w hn h
/-- The period that is written everywhere. -/
structure PB (w : World) (b : Nat) (x y z : Int) : Prop where
  c0 : w.cell? ⟨b, 0, none⟩ = some (.int .i64 x)
  c1 : w.cell? ⟨b, 1, none⟩ = some (.int .i64 y)
  c2 : w.cell? ⟨b, 2, none⟩ = some (.int .i64 z)
theorem PB.other {w : World} {b r i : Nat} {x y z : Int} {v : Value} (h : PB w b x y z) (hr : r ≠ b) : PB (w.setCell ⟨r, i, none⟩ v) b x y z := by
  have hr' : b ≠ r := fun e => hr e.symm
  obtain ⟨c0, c1, c2⟩ := h
  refine ⟨?_, ?_, ?_⟩ <;> go_simp
theorem PB.new (w : World) (x y z : Int) (t : TypeId) : PB (w.alloc (.cells #[.int .i64 x, .int .i64 y, .int .i64 z] t)) w.heap.size x y z := by constructor <;> simp
theorem Wr.alloc {w : World} {p c : Nat} (h : Wr w p c) (o : Obj) : Wr (w.alloc o) p c := by
  have q := (Kept.refl w).alloc o
  exact ⟨Nat.lt_of_lt_of_le h.lt q.le, fun j hj => by obtain ⟨u, hu⟩ := h.cell j hj; exact ⟨u, (q.rd.1 _ _ h.lt).trans hu⟩, fun j hj => (q.rd.2 _ _ h.lt).trans (h.free j hj)⟩
set_option maxRecDepth 100000 in
set_option maxHeartbeats 1000000 in
theorem rspoil_at (p n c : Nat) (x y z : Int) (w : World) (hc : (c : Int) ≤ 9223372036854775807) (hn : n ≤ c) (hW : Wr w p (c * 3)) :
    Calls Tryd.prog 36 #[.slice (some ⟨p, 0, none⟩) n c, .agg #[.int .i64 x, .int .i64 y, .int .i64 z]] w fun e w' => (∃ v, e = .returned v) ∧ w.grownBy w' (some p) := by
  have H := Lib.hid (hW.alloc (.cells #[.int .i64 x, .int .i64 y, .int .i64 z] 55))
  have N := Lib.hid (show p ≠ w.heap.size by have := hW.lt; omega)
  have G := Lib.hid (World.grownBy_alloc w (.cells #[.int .i64 x, .int .i64 y, .int .i64 z] 55) (some p))
  have B := Lib.hid (PB.new w x y z 55)
  clear hW
  go_enter Tryd.func36, Tryd.ntmps36
  go_wp2
  go_loopw [11] (fun i wr => ∃ k : Nat, k ≤ c ∧ i = .int .i64 k ∧ Wr wr p (c * 3) ∧ PB wr w.heap.size x y z ∧ w.grownBy wr (some p)) (fun i _ => (c - intOf i).toNat)
  case atStart => exact ⟨0, by omega, rfl, H.out, B.out, G.out⟩
  case round =>
    obtain ⟨k, hk, rfl, hW, hB, hg⟩ := hrel
    clear H B G
    by_cases hlt : k < c
    · obtain ⟨u0, hu0⟩ := hW.cell (k * 3) (by omega)
      obtain ⟨u1, hu1⟩ := hW.cell (k * 3 + 1) (by omega)
      obtain ⟨u2, hu2⟩ := hW.cell (k * 3 + 2) (by omega)
      have f0 := hW.free (k * 3) (by omega)
      have f1 := hW.free (k * 3 + 1) (by omega)
      have f2 := hW.free (k * 3 + 2) (by omega)
      obtain ⟨b0, b1, b2⟩ := id hB
      have W' := Lib.hid (((hW.set (i := k * 3) (v := .int .i64 x) (by omega)).set (i := k * 3 + 1) (v := .int .i64 y) (by omega)).set (i := k * 3 + 2) (v := .int .i64 z) (by omega))
      have B' := Lib.hid (((hB.other (i := k * 3) (v := .int .i64 x) N.out).other (i := k * 3 + 1) (v := .int .i64 y) N.out).other (i := k * 3 + 2) (v := .int .i64 z) N.out)
      have G' := Lib.hid (grown_set (i := k * 3 + 2) (v := .int .i64 z) (grown_set (i := k * 3 + 1) (v := .int .i64 y) (grown_set (i := k * 3) (v := .int .i64 x) hg)))
      have i1 : (k : Int) < (c : Int) := by omega
      clear hW hg hB
      go_wp2
      go_roundw
      case rel => exact ⟨k + 1, by omega, by go_num, W'.out, B'.out, G'.out⟩
      case measure => simp [intOf]; omega
    · obtain rfl : k = c := by omega
      clear hlt
      go_wp2
      go_end0
      exact ⟨⟨_, rfl⟩, hg⟩
set_option maxHeartbeats 1000000 in
theorem rspoil_nil (x y z : Int) (w : World) :
    Calls Tryd.prog 36 #[.slice none 0 0, .agg #[.int .i64 x, .int .i64 y, .int .i64 z]] w fun e w' => (∃ v, e = .returned v) ∧ w.grownBy w' none := by
  have G := Lib.hid (World.grownBy_alloc w (.cells #[.int .i64 x, .int .i64 y, .int .i64 z] 55) none)
  go_enter Tryd.func36, Tryd.ntmps36
  go_wp2
  go_loopw [11] (fun i wr => i = .int .i64 0 ∧ w.grownBy wr none) (fun _ _ => 0)
  case atStart => exact ⟨rfl, G.out⟩
  case round =>
    obtain ⟨rfl, hg⟩ := hrel
    go_wp2
    go_end0
    exact ⟨⟨_, rfl⟩, hg⟩
theorem rspoil_any {B n : Nat} {v : Value} {R : Rw} (x y z : Int) (w : World) (h : RGr B w v n R) :
    Calls Tryd.prog 36 #[v, .agg #[.int .i64 x, .int .i64 y, .int .i64 z]] w fun e w' => (∃ u, e = .returned u) ∧ w.grownBy w' v.ownBlock := by
  rcases h.own.2 with ⟨rfl, _⟩ | ⟨q, c, cur, rfl, _, hh, hn, hm, hs, _⟩
  · exact rspoil_nil x y z w
  · refine rspoil_at q n c x y z w (by unfold maxLen at hm; omega) hn ⟨(h.own.lt q rfl).2, fun j hj => ?_, fun j _ => h.own.frozenAt j⟩
    have hj' : j < cur.size := by rw [hs]; exact hj
    exact ⟨cur[j], by simp [World.cell?, hh, hj']⟩

end Go.Proofs.YtcfcbglnmhoknabDoor
