/-
  The law CountNear returns true: a whole number of years is that number times 360 under Euro30, and from 365 to 366 times that number under Act365. Condition: the table of the months' lengths reads as the program lays it (Tab).
-/
import Derived.Test.YtmcfdiojkkblcaaDoorWalkD
namespace Go.Proofs.YtmcfdiojkkblcaaDoor
open Go.RowKit

theorem early (n : Int) (n0 : 0 ≤ n) (n1 : n < 200000) : Cal.Y n ≤ 2147 := by
  obtain ⟨v, e⟩ := Cal.date n n0 (by omega)
  have k := Cal.num_lt_year v
  rw [e] at k
  by_cases z : Cal.Y n ≤ 2147
  · exact z
  · have := Cal.ys_mono 2148 (Cal.Y n) (by omega)
    have e2 : Cal.ys 2148 = 200153 := by decide
    omega

set_option maxHeartbeats 4000000 in
theorem countNear_walk (n y : Int) (w : World) (hT : Tab w) :
    Calls Tryd.prog 16 #[.int .i64 n, .int .i64 y] w fun e w' => e = .returned (.bool true) ∧ Kept w w' := by
  have H30 := Lib.hid (show euN 0 31 = 30 by decide)
  go_enter Tryd.func16, Tryd.ntmps16
  go_wp2_with fail
  refine (between_euro _ _ _ hT (by omega) (by omega) (by omega)).mono ?_
  rintro e w1 ⟨rfl, hk1⟩
  rw [H30.out]
  have hT1 := (hT.kept hk1).alloc (Obj.cells #[.int .i64 30, .int .i64 360] 39)
  have hK1 := hk1.alloc (Obj.cells #[.int .i64 30, .int .i64 360] 39)
  clear hT hk1 H30
  go_wp2_with fail
  refine (within_any _ _ _ (by omega) (by omega)).mono ?_
  rintro e w2 ⟨r, r0, r1, rfl, rfl⟩
  have hy := early r r0 r1
  have hm := dbd r r0 (by omega)
  go_wp2_with fail
  refine (date_yes _ _ hT1 r0 (by omega)).mono ?_
  rintro e w2 ⟨rfl, hk2⟩
  have hT2 := (hT1.kept hk2)
  have hK2 := hK1.trans hk2
  clear hT1 hK1 hk2
  by_cases hD : 28 < Cal.D r
  · have F := of_cut_eq r 28 r0 (by omega) (by omega)
    have F1 := Lib.hid F.1
    have F2 := Lib.hid F.2.1
    have F5 := F.2.2.2.2.1
    have F6 := F.2.2.2.2.2.1
    obtain ⟨_, _, F3, F4, _, _, F7⟩ := F
    go_wp2_with fail
    refine (of_any _ _ _ _ (hT2.alloc _)).mono ?_
    rintro e w3 ⟨rfl, hk3⟩
    rw [F1.out, F2.out]
    have hT3 := (hT2.alloc _).kept hk3
    have hK3 := (hK2.alloc _).trans hk3
    clear F1 F2 hT2 hK2 hk3
    generalize Cal.num (Cal.Y r) (Cal.M r) 28 = k at *
    clear hD
    go_wp2_with fail
    refine (within_any _ _ _ (by omega) (by omega)).mono ?_
    rintro e w4 ⟨t, t0, t1, rfl, rfl⟩
    have ik := idx_bd k F3 F4
    have c1 : idx k (12 * t) < 9600 := by unfold idx; omega
    have c0 : 0 ≤ idx k (12 * t) := by have := idx_add k (12 * t); omega
    obtain ⟨_, _, _, v4, v5⟩ := add_date k (12 * t) F3 F4 c0 c1
    have E1 := Lib.hid (euro_add k (12 * t) F3 F4 F7 c0 c1)
    have v6 := add_pos k (12 * t) F3 F4 (by omega) c1
    obtain ⟨q1, q2⟩ := years_add k t t0 F3 F4 F7
    clear F5 F6 hy
    go_wp2_with fail
    refine (add_yes _ _ _ hT3 F3 F4 (by omega) (by omega) c0 c1).mono ?_
    rintro e w4 ⟨rfl, hk4⟩
    go_wp2_with fail
    refine (between_euro _ _ _ (hT3.kept hk4) F3 v6 v5).mono ?_
    rintro e w5 ⟨rfl, hk5⟩
    rw [E1.out]
    have hT5 := ((hT3.kept hk4).kept hk5).alloc (Obj.cells #[.int .i64 (30 * (12 * t)), .int .i64 360] 39)
    have hK5 := ((hK3.trans hk4).trans hk5).alloc (Obj.cells #[.int .i64 (30 * (12 * t)), .int .i64 360] 39)
    go_wp2_with fail
    refine (between_365 _ _ _ hT5 F3 v6 v5).mono ?_
    rintro e w6 ⟨rfl, hk6⟩
    obtain ⟨z8, x0, x1⟩ := fr_later hk6
    have hK6 := hK5.trans hk6
    have e1 : (30 * (12 * t) == 360 * t) = true := by rw [beq_iff_eq]; omega
    clear hT3 hK3 hk4 hk5 E1 hT5 hK5 hk6
    go_wp2
    go_ret
    exact ⟨ret_bool (by simp <;> omega), hK6.alloc _⟩
  · have F := of_cut_eq r (Cal.D r) r0 (by omega) (by omega)
    have F1 := Lib.hid F.1
    have F2 := Lib.hid F.2.1
    have F5 := F.2.2.2.2.1
    have F6 := F.2.2.2.2.2.1
    obtain ⟨_, _, F3, F4, _, _, F7⟩ := F
    go_wp2_with fail
    refine (of_any _ _ _ _ (hT2.alloc _)).mono ?_
    rintro e w3 ⟨rfl, hk3⟩
    rw [F1.out, F2.out]
    have hT3 := (hT2.alloc _).kept hk3
    have hK3 := (hK2.alloc _).trans hk3
    clear F1 F2 hT2 hK2 hk3
    generalize Cal.num (Cal.Y r) (Cal.M r) (Cal.D r) = k at *
    clear hD
    go_wp2_with fail
    refine (within_any _ _ _ (by omega) (by omega)).mono ?_
    rintro e w4 ⟨t, t0, t1, rfl, rfl⟩
    have ik := idx_bd k F3 F4
    have c1 : idx k (12 * t) < 9600 := by unfold idx; omega
    have c0 : 0 ≤ idx k (12 * t) := by have := idx_add k (12 * t); omega
    obtain ⟨_, _, _, v4, v5⟩ := add_date k (12 * t) F3 F4 c0 c1
    have E1 := Lib.hid (euro_add k (12 * t) F3 F4 F7 c0 c1)
    have v6 := add_pos k (12 * t) F3 F4 (by omega) c1
    obtain ⟨q1, q2⟩ := years_add k t t0 F3 F4 F7
    clear F5 F6 hy
    go_wp2_with fail
    refine (add_yes _ _ _ hT3 F3 F4 (by omega) (by omega) c0 c1).mono ?_
    rintro e w4 ⟨rfl, hk4⟩
    go_wp2_with fail
    refine (between_euro _ _ _ (hT3.kept hk4) F3 v6 v5).mono ?_
    rintro e w5 ⟨rfl, hk5⟩
    rw [E1.out]
    have hT5 := ((hT3.kept hk4).kept hk5).alloc (Obj.cells #[.int .i64 (30 * (12 * t)), .int .i64 360] 39)
    have hK5 := ((hK3.trans hk4).trans hk5).alloc (Obj.cells #[.int .i64 (30 * (12 * t)), .int .i64 360] 39)
    go_wp2_with fail
    refine (between_365 _ _ _ hT5 F3 v6 v5).mono ?_
    rintro e w6 ⟨rfl, hk6⟩
    obtain ⟨z8, x0, x1⟩ := fr_later hk6
    have hK6 := hK5.trans hk6
    have e1 : (30 * (12 * t) == 360 * t) = true := by rw [beq_iff_eq]; omega
    clear hT3 hK3 hk4 hk5 E1 hT5 hK5 hk6
    go_wp2
    go_ret
    exact ⟨ret_bool (by simp <;> omega), hK6.alloc _⟩

end Go.Proofs.YtmcfdiojkkblcaaDoor
