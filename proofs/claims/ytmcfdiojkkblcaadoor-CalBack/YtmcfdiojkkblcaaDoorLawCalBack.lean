/-
  The law CalBack returns true: dates and day numbers go to and fro, and a later date has a greater number. Condition: the table of the months' lengths reads as the program lays it (Tab).
-/
import Derived.Test.YtmcfdiojkkblcaaDoorWalkD
namespace Go.Proofs.YtmcfdiojkkblcaaDoor
open Go.RowKit

theorem of_date (n : Int) (n0 : 0 ≤ n) (n1 : n ≤ 292193) : ofV (Cal.Y n) (Cal.M n) (Cal.D n) = n ∧ ofE (Cal.Y n) (Cal.M n) (Cal.D n) = 0 := by
  obtain ⟨v, e⟩ := Cal.date n n0 n1
  obtain ⟨a, b⟩ := of_ok v
  rw [a, b, e]; exact ⟨rfl, rfl⟩
theorem later_iff {y m d y' m' d' : Int} (h : Cal.Vld y m d) (h' : Cal.Vld y' m' d') : (y' < y ∨ y = y' ∧ (m' < m ∨ m = m' ∧ d' < d)) ↔ Cal.num y' m' d' < Cal.num y m d := by
  have k := Cal.num_le_iff h h'
  omega

set_option maxHeartbeats 4000000 in
theorem calBack_walk (n y m d y' m' d' : Int) (w : World) (hT : Tab w) :
    Calls Tryd.prog 6 #[.int .i64 n, day3 y m d, day3 y' m' d'] w fun e w' => e = .returned (.bool true) ∧ Kept w w' := by
  go_enter Tryd.func6, Tryd.ntmps6
  go_wp2_with fail
  obtain ⟨s1, f0, f1, f2⟩ := box_later ((Kept.refl (w.alloc (Obj.cells #[.int .i64 y, .int .i64 m, .int .i64 d] 23))).alloc (Obj.cells #[.int .i64 y', .int .i64 m', .int .i64 d'] 23))
  obtain ⟨s2, t0, t1, t2⟩ := box_later (Kept.refl ((w.alloc (Obj.cells #[.int .i64 y, .int .i64 m, .int .i64 d] 23)).alloc (Obj.cells #[.int .i64 y', .int .i64 m', .int .i64 d'] 23)))
  have hK : Kept w ((w.alloc (Obj.cells #[.int .i64 y, .int .i64 m, .int .i64 d] 23)).alloc (Obj.cells #[.int .i64 y', .int .i64 m', .int .i64 d'] 23)) := ((Kept.refl w).alloc _).alloc _
  have hTW : Tab ((w.alloc (Obj.cells #[.int .i64 y, .int .i64 m, .int .i64 d] 23)).alloc (Obj.cells #[.int .i64 y', .int .i64 m', .int .i64 d'] 23)) := (hT.alloc _).alloc _
  generalize ((w.alloc (Obj.cells #[.int .i64 y, .int .i64 m, .int .i64 d] 23)).alloc (Obj.cells #[.int .i64 y', .int .i64 m', .int .i64 d'] 23)) = W at *
  simp only [World.size_alloc] at s2 t0 t1 t2
  generalize w.heap.size = p at *
  refine (begun_any _ hTW).mono ?_
  rintro e w1 ⟨rfl, hk1⟩
  go_wp2_with fail
  refine (day_any _ _).mono ?_
  rintro e w2 ⟨r, r0, r1, rfl, rfl⟩
  go_wp2_with fail
  refine (date_yes _ _ (hTW.kept hk1) r0 (by omega)).mono ?_
  rintro e w2 ⟨rfl, hk2⟩
  have O := Lib.hid (of_date r r0 (by omega))
  go_wp2_with fail
  refine (of_any _ _ _ _ (((hTW.kept hk1).kept hk2).alloc _)).mono ?_
  rintro e w3 ⟨rfl, hk3⟩
  rw [O.out.1, O.out.2]
  clear O
  have hk := ((hk1.trans hk2).alloc _).trans hk3
  have h3 := two_later s1 s2 f0 f1 f2 t0 t1 t2 hk
  obtain ⟨_, a0, a1, a2, b0, b1, b2⟩ := h3
  clear hk1 hk2 hk3
  go_wp2_with fail
  refine (of_any _ _ _ _ (hTW.kept hk)).mono ?_
  rintro e w4 ⟨rfl, hk4⟩
  clear a0 a1 a2 b0 b1 b2
  obtain ⟨hk5, a0, a1, a2, b0, b1, b2⟩ := two_later s1 s2 f0 f1 f2 t0 t1 t2 (hk.trans hk4)
  clear hk4 hk
  go_wp2_with fail
  refine (of_any _ _ _ _ (hTW.kept hk5)).mono ?_
  rintro e w5 ⟨rfl, hk6⟩
  clear a0 a1 a2 b0 b1 b2
  obtain ⟨hk7, a0, a1, a2, b0, b1, b2⟩ := two_later s1 s2 f0 f1 f2 t0 t1 t2 (hk5.trans hk6)
  have hs5 : p < w5.heap.size := Nat.lt_of_lt_of_le s1 hk7.le
  have hs6 : p + 1 < w5.heap.size := Nat.lt_of_lt_of_le s2 hk7.le
  clear hk5 hk6
  by_cases v : Cal.Vld y m d
  · have V := Lib.hid (of_ok v)
    have nb := Cal.num_bd v
    have B := Lib.hid (Cal.back _ _ _ v)
    rw [V.out.1, V.out.2]
    clear a0 a1 a2 b0 b1 b2
    go_wp2_with fail
    refine (date_yes _ _ (hTW.kept hk7) nb.1 nb.2).mono ?_
    rintro e w6 ⟨rfl, hk8⟩
    rw [B.out.1, B.out.2.1, B.out.2.2]
    obtain ⟨hk9, a0, a1, a2, b0, b1, b2⟩ := two_later s1 s2 f0 f1 f2 t0 t1 t2 (hk7.trans hk8)
    have hs7 : p < w6.heap.size := Nat.lt_of_lt_of_le s1 hk9.le
    have hs8 : p + 1 < w6.heap.size := Nat.lt_of_lt_of_le s2 hk9.le
    by_cases v' : Cal.Vld y' m' d'
    · have V' := Lib.hid (of_ok v')
      have G := Lib.hid (later_iff v v')
      rw [V'.out.1, V'.out.2]
      clear V V' B f0 f1 f2 t0 t1 t2 s1 s2 hs5 hs6 hk7 hk8 v v' nb
      generalize Cal.num y m d = A at *
      generalize Cal.num y' m' d' = B at *
      go_wp2
      all_goals go_ret
      all_goals exact ⟨ret_bool (by have := G.out; simp <;> omega), (hK.trans hk9).alloc _⟩
    · have V' := Lib.hid (of_bad v')
      rw [V'.out.1, V'.out.2]
      go_wp2
      go_ret
      exact ⟨rfl, (hK.trans hk9).alloc _⟩
  · have V := Lib.hid (of_bad v)
    rw [V.out.1, V.out.2]
    go_wp2
    go_ret
    exact ⟨rfl, hK.trans hk7⟩

end Go.Proofs.YtmcfdiojkkblcaaDoor
