/-
  The law CalYears returns true: a year has 366 days just if it has a 29th of February, and twelve months later it is the same date, but for the end of February. Condition: the table of the months' lengths reads as the program lays it (Tab).
-/
import Derived.Test.YtmcfdiojkkblcaaDoorWalkD
namespace Go.Proofs.YtmcfdiojkkblcaaDoor
open Go.RowKit

theorem first_of (y : Int) (h0 : 1600 ≤ y) (h1 : y ≤ 2399) : ofV y 1 1 = Cal.ys y ∧ ofE y 1 1 = 0 := by
  have v : Cal.Vld y 1 1 := ⟨h0, h1, by omega, by omega, by omega, by have := Cal.dim_bd y 1; omega⟩
  obtain ⟨a, b⟩ := of_ok v
  rw [a, b]
  refine ⟨?_, rfl⟩
  have := Cal.cum_one y
  unfold Cal.num; omega
theorem leap_of (y : Int) (h0 : 1600 ≤ y) (h1 : y ≤ 2399) : ofE y 2 29 = 1 - Cal.lp y := by
  have d : Cal.dim y 2 = 28 + Cal.lp y := by simp [Cal.dim]
  have l := Cal.lp_01 y
  by_cases c : Cal.lp y = 1
  · rw [(of_ok (y := y) (m := 2) (d := 29) ⟨h0, h1, by omega, by omega, by omega, by omega⟩).2]; omega
  · rw [(of_bad (y := y) (m := 2) (d := 29) (by unfold Cal.Vld; omega)).2]; omega
/-- Twelve months later. -/
theorem year_later (n : Int) (n0 : 0 ≤ n) (n1 : n < 291000) : 0 ≤ idx n 12 ∧ idx n 12 < 9600 ∧ Cal.Y (addV n 12) = Cal.Y n + 1 ∧ Cal.M (addV n 12) = Cal.M n ∧ (Cal.D (addV n 12) = Cal.D n ∨ Cal.M n = 2 ∧ Cal.D n = 29 ∧ Cal.D (addV n 12) = 28) ∧ 0 ≤ addV n 12 ∧ addV n 12 ≤ 292193 := by
  have d := dbd n n0 (by omega)
  obtain ⟨v, e⟩ := Cal.date n n0 (by omega)
  have hy : Cal.Y n ≤ 2398 := by
    have k := Cal.num_lt_year v
    rw [e] at k
    by_cases z : Cal.Y n ≤ 2398
    · exact z
    · have := Cal.ys_mono 2399 (Cal.Y n) (by omega)
      have e2 : Cal.ys 2399 = 291829 := by decide
      omega
  have i2 : 0 ≤ idx n 12 := by unfold idx; omega
  have i3 : idx n 12 < 9600 := by unfold idx; omega
  obtain ⟨a, b, c, p, q⟩ := add_date n 12 n0 (by omega) i2 i3
  have ey : 1600 + idx n 12 / 12 = Cal.Y n + 1 := by unfold idx; omega
  have em : idx n 12 % 12 + 1 = Cal.M n := by unfold idx; omega
  refine ⟨i2, i3, by omega, by omega, ?_, p, q⟩
  rw [c]
  unfold addD
  rw [ey, em]
  have l := Cal.lp_01 (Cal.Y n + 1)
  have l' := Cal.lp_01 (Cal.Y n)
  by_cases hm : Cal.M n = 2
  · have d1 : Cal.dim (Cal.Y n + 1) (Cal.M n) = 28 + Cal.lp (Cal.Y n + 1) := by rw [hm]; simp [Cal.dim]
    have d2 : Cal.dim (Cal.Y n) (Cal.M n) = 28 + Cal.lp (Cal.Y n) := by rw [hm]; simp [Cal.dim]
    have hll : ¬ (Cal.lp (Cal.Y n) = 1 ∧ Cal.lp (Cal.Y n + 1) = 1) := by
      unfold Cal.lp; split <;> split <;> omega
    omega
  · have d1 : Cal.dim (Cal.Y n + 1) (Cal.M n) = Cal.dim (Cal.Y n) (Cal.M n) := by simp [Cal.dim, hm]
    rw [d1]; omega

set_option maxHeartbeats 2000000 in
theorem calYears_walk (n y : Int) (w : World) (hT : Tab w) :
    Calls Tryd.prog 14 #[.int .i64 n, .int .i64 y] w fun e w' => e = .returned (.bool true) ∧ Kept w w' := by
  go_enter Tryd.func14, Tryd.ntmps14
  go_wp2_with fail
  refine (begun_any _ hT).mono ?_
  rintro e w1 ⟨rfl, hk1⟩
  have hT1 := hT.kept hk1
  clear hT
  go_wp2_with fail
  refine (within_any _ _ _ (by omega) (by omega)).mono ?_
  rintro e w2 ⟨r, r0, r1, rfl, rfl⟩
  have F1 := Lib.hid (first_of (1600 + r) (by omega) (by omega))
  have F2 := Lib.hid (first_of (1600 + r + 1) (by omega) (by omega))
  have F3 := Lib.hid (leap_of (1600 + r) (by omega) (by omega))
  have F4 := Lib.hid (Cal.ys_succ (1600 + r))
  have l := Cal.lp_01 (1600 + r)
  have yb := Cal.ys_bd (1600 + r) (by omega) (by omega)
  go_wp2_with fail
  refine (of_any _ _ _ _ hT1).mono ?_
  rintro e w2 ⟨rfl, hk2⟩
  rw [F1.out.1, F1.out.2]
  go_wp2_with fail
  refine (of_any _ _ _ _ (hT1.kept hk2)).mono ?_
  rintro e w3 ⟨rfl, hk3⟩
  rw [F2.out.1, F2.out.2, F4.out]
  go_wp2_with fail
  refine (of_any _ _ _ _ ((hT1.kept hk2).kept hk3)).mono ?_
  rintro e w4 ⟨rfl, hk4⟩
  rw [F3.out]
  have hT4 := ((hT1.kept hk2).kept hk3).kept hk4
  have hK4 := ((hk1.trans hk2).trans hk3).trans hk4
  clear F1 F2 F3 F4 hT1 hk1 hk2 hk3 hk4
  generalize Cal.ys (1600 + r) = A at *
  generalize Cal.lp (1600 + r) = L at *
  rcases (show L = 0 ∨ L = 1 by omega) with rfl | rfl
  all_goals
    have z1 : (A + 365 + 0 - A == 365) = true := by rw [beq_iff_eq]; omega
    go_wp2_with fail
    refine (within_any _ _ _ (by omega) (by omega)).mono ?_
    rintro e w5 ⟨t, t0, t1, rfl, rfl⟩
    obtain ⟨i2, i3, G1, G2, g3, g4, g5⟩ := year_later t t0 t1
    have dt := dbd t t0 (by omega)
    have G1 := Lib.hid G1
    have G2 := Lib.hid G2
    have G3 := Lib.hid g3
    clear g3
    go_wp2_with fail
    refine (add_yes _ _ _ hT4 t0 (by omega) (by omega) (by omega) i2 i3).mono ?_
    rintro e w5 ⟨rfl, hk5⟩
    go_wp2_with fail
    refine (date_yes _ _ (hT4.kept hk5) t0 (by omega)).mono ?_
    rintro e w6 ⟨rfl, hk6⟩
    go_wp2_with fail
    refine (date_yes _ _ (((hT4.kept hk5).kept hk6).alloc _) g4 g5).mono ?_
    rintro e w7 ⟨rfl, hk7⟩
    rw [G1.out, G2.out]
    obtain ⟨hz, x0, x1, x2⟩ := box_later hk7
    have hK7 := (((hK4.trans hk5).trans hk6).alloc _).trans hk7
    clear hT4 hK4 hk5 hk6 hk7 G1 G2
    go_wp2
    all_goals go_ret
    all_goals exact ⟨ret_bool (by have := G3.out; simp <;> omega), hK7.alloc _⟩

end Go.Proofs.YtmcfdiojkkblcaaDoor
