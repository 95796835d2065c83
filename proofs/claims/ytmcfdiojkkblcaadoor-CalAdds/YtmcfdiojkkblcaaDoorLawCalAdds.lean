/-
  The law CalAdds returns true: of days up to the 28th, months are added in parts as at once, and taken away again. Condition: the table of the months' lengths reads as the program lays it (Tab).
-/
import Derived.Test.YtmcfdiojkkblcaaDoorWalkD
namespace Go.Proofs.YtmcfdiojkkblcaaDoor
open Go.RowKit

theorem add_back (n k : Int) (n0 : 0 ≤ n) (n1 : n ≤ 292193) (h28 : Cal.D n ≤ 28) (h2 : 0 ≤ idx n k) (h3 : idx n k < 9600) : addV (addV n k) (-k) = n := by
  rw [add_add n k (-k) n0 n1 h28 h2 h3, show k + -k = 0 by omega, add_zero n n0 n1]

set_option maxHeartbeats 1000000 in
theorem calAdds_walk (n a b : Int) (w : World) (hT : Tab w) :
    Calls Tryd.prog 8 #[.int .i64 n, .int .i64 a, .int .i64 b] w fun e w' => e = .returned (.bool true) ∧ Kept w w' := by
  have H31 := Lib.hid (show addV 30 1 = 59 by decide)
  go_enter Tryd.func8, Tryd.ntmps8
  go_wp2_with fail
  refine (add_yes _ _ _ hT (by omega) (by omega) (by omega) (by omega) (by decide) (by decide)).mono ?_
  rintro e w1 ⟨rfl, hk1⟩
  rw [H31.out]
  clear H31
  have hT1 := hT.kept hk1
  clear hT
  go_wp2_with fail
  refine (day_any _ _).mono ?_
  rintro e w2 ⟨r, r0, r1, rfl, rfl⟩
  go_wp2_with fail
  refine (date_yes _ _ hT1 r0 (by omega)).mono ?_
  rintro e w2 ⟨rfl, hk2⟩
  have hT2 := (hT1.kept hk2)
  have hK2 := hk1.trans hk2
  clear hT1 hk1 hk2
  by_cases hD : 28 < Cal.D r
  · have F := of_cut_eq r 28 r0 (by omega) (by omega)
    have F1 := Lib.hid F.1
    have F2 := Lib.hid F.2.1
    obtain ⟨_, _, F3, F4, _, _, F7⟩ := F
    go_wp2_with fail
    refine (of_any _ _ _ _ (hT2.alloc _)).mono ?_
    rintro e w3 ⟨rfl, hk3⟩
    rw [F1.out, F2.out]
    have hT3 := (hT2.alloc _).kept hk3
    have hK3 := (hK2.alloc _).trans hk3
    clear F1 F2 hT2 hK2 hk3
    generalize Cal.num (Cal.Y r) (Cal.M r) 28 = k at *
    go_wp2_with fail
    refine (within_any _ _ _ (by omega) (by omega)).mono ?_
    rintro e w4 ⟨t, t0, t1, rfl, rfl⟩
    go_wp2_with fail
    refine (within_any _ _ _ (by omega) (by omega)).mono ?_
    rintro e w4 ⟨u, u0, u1, rfl, rfl⟩
    have j1 := idx_add k (t - 1000)
    have j2 := idx_add k (t - 1000 + (u - 1000))
    have J1 := Lib.hid j1
    have J2 := Lib.hid j2
    clear j1 j2
    by_cases c1 : 0 ≤ idx k (t - 1000) ∧ idx k (t - 1000) < 9600
    · go_wp2_with fail
      refine (add_yes _ _ _ hT3 F3 F4 (by omega) (by omega) c1.1 c1.2).mono ?_
      rintro e w4 ⟨rfl, hk4⟩
      have hT4 := hT3.kept hk4
      have hK4 := hK3.trans hk4
      clear hk4
      by_cases c2 : 0 ≤ idx k (t - 1000 + (u - 1000)) ∧ idx k (t - 1000 + (u - 1000)) < 9600
      · go_wp2_with fail
        refine (add_yes _ _ _ hT4 F3 F4 (by omega) (by omega) c2.1 c2.2).mono ?_
        rintro e w5 ⟨rfl, hk5⟩
        have hT5 := hT4.kept hk5
        have hK5 := hK4.trans hk5
        obtain ⟨_, _, _, v4, v5⟩ := add_date k (t - 1000) F3 F4 c1.1 c1.2
        have i1 := add_idx k (t - 1000) (u - 1000) F3 F4 c1.1 c1.2
        have i2 := add_idx k (t - 1000) (-(t - 1000)) F3 F4 c1.1 c1.2
        have I1 := Lib.hid i1
        have I2 := Lib.hid i2
        have e1 := Lib.hid (add_add k (t - 1000) (u - 1000) F3 F4 F7 c1.1 c1.2)
        have e2 := Lib.hid (add_back k (t - 1000) F3 F4 F7 c1.1 c1.2)
        have ib := idx_bd k F3 F4
        clear i1 i2
        go_wp2_with fail
        refine (add_yes _ _ _ hT5 v4 v5 (by omega) (by omega) (by have := I1.out; have := J1.out; have := J2.out; omega) (by have := I1.out; have := J1.out; have := J2.out; omega)).mono ?_
        rintro e w6 ⟨rfl, hk6⟩
        rw [e1.out]
        have hT6 := hT5.kept hk6
        have hK6 := hK5.trans hk6
        go_wp2_with fail
        refine (add_yes _ _ _ hT6 v4 v5 (by omega) (by omega) (by have := I2.out; have := J1.out; omega) (by have := I2.out; have := J1.out; omega)).mono ?_
        rintro e w7 ⟨rfl, hk7⟩
        rw [e2.out]
        go_wp2
        go_ret
        exact ⟨rfl, hK6.trans hk7⟩
      · go_wp2_with fail
        refine (add_large _ _ _ hT4 F3 F4 (by omega) (by omega) (by omega)).mono ?_
        rintro e w5 ⟨rfl, hk5⟩
        go_wp2
        go_ret
        exact ⟨rfl, hK4.trans hk5⟩
    · go_wp2_with fail
      refine (add_large _ _ _ hT3 F3 F4 (by omega) (by omega) (by omega)).mono ?_
      rintro e w4 ⟨rfl, hk4⟩
      have hT4 := hT3.kept hk4
      have hK4 := hK3.trans hk4
      by_cases c2 : 0 ≤ idx k (t - 1000 + (u - 1000)) ∧ idx k (t - 1000 + (u - 1000)) < 9600
      · go_wp2_with fail
        refine (add_yes _ _ _ hT4 F3 F4 (by omega) (by omega) c2.1 c2.2).mono ?_
        rintro e w5 ⟨rfl, hk5⟩
        go_wp2
        go_ret
        exact ⟨rfl, hK4.trans hk5⟩
      · go_wp2_with fail
        refine (add_large _ _ _ hT4 F3 F4 (by omega) (by omega) (by omega)).mono ?_
        rintro e w5 ⟨rfl, hk5⟩
        go_wp2
        go_ret
        exact ⟨rfl, hK4.trans hk5⟩
  · have F := of_cut_eq r (Cal.D r) r0 (by omega) (by omega)
    have F1 := Lib.hid F.1
    have F2 := Lib.hid F.2.1
    obtain ⟨_, _, F3, F4, _, _, F7⟩ := F
    go_wp2_with fail
    refine (of_any _ _ _ _ (hT2.alloc _)).mono ?_
    rintro e w3 ⟨rfl, hk3⟩
    rw [F1.out, F2.out]
    have hT3 := (hT2.alloc _).kept hk3
    have hK3 := (hK2.alloc _).trans hk3
    clear F1 F2 hT2 hK2 hk3
    generalize Cal.num (Cal.Y r) (Cal.M r) (Cal.D r) = k at *
    go_wp2_with fail
    refine (within_any _ _ _ (by omega) (by omega)).mono ?_
    rintro e w4 ⟨t, t0, t1, rfl, rfl⟩
    go_wp2_with fail
    refine (within_any _ _ _ (by omega) (by omega)).mono ?_
    rintro e w4 ⟨u, u0, u1, rfl, rfl⟩
    have j1 := idx_add k (t - 1000)
    have j2 := idx_add k (t - 1000 + (u - 1000))
    have J1 := Lib.hid j1
    have J2 := Lib.hid j2
    clear j1 j2
    by_cases c1 : 0 ≤ idx k (t - 1000) ∧ idx k (t - 1000) < 9600
    · go_wp2_with fail
      refine (add_yes _ _ _ hT3 F3 F4 (by omega) (by omega) c1.1 c1.2).mono ?_
      rintro e w4 ⟨rfl, hk4⟩
      have hT4 := hT3.kept hk4
      have hK4 := hK3.trans hk4
      clear hk4
      by_cases c2 : 0 ≤ idx k (t - 1000 + (u - 1000)) ∧ idx k (t - 1000 + (u - 1000)) < 9600
      · go_wp2_with fail
        refine (add_yes _ _ _ hT4 F3 F4 (by omega) (by omega) c2.1 c2.2).mono ?_
        rintro e w5 ⟨rfl, hk5⟩
        have hT5 := hT4.kept hk5
        have hK5 := hK4.trans hk5
        obtain ⟨_, _, _, v4, v5⟩ := add_date k (t - 1000) F3 F4 c1.1 c1.2
        have i1 := add_idx k (t - 1000) (u - 1000) F3 F4 c1.1 c1.2
        have i2 := add_idx k (t - 1000) (-(t - 1000)) F3 F4 c1.1 c1.2
        have I1 := Lib.hid i1
        have I2 := Lib.hid i2
        have e1 := Lib.hid (add_add k (t - 1000) (u - 1000) F3 F4 F7 c1.1 c1.2)
        have e2 := Lib.hid (add_back k (t - 1000) F3 F4 F7 c1.1 c1.2)
        have ib := idx_bd k F3 F4
        clear i1 i2
        go_wp2_with fail
        refine (add_yes _ _ _ hT5 v4 v5 (by omega) (by omega) (by have := I1.out; have := J1.out; have := J2.out; omega) (by have := I1.out; have := J1.out; have := J2.out; omega)).mono ?_
        rintro e w6 ⟨rfl, hk6⟩
        rw [e1.out]
        have hT6 := hT5.kept hk6
        have hK6 := hK5.trans hk6
        go_wp2_with fail
        refine (add_yes _ _ _ hT6 v4 v5 (by omega) (by omega) (by have := I2.out; have := J1.out; omega) (by have := I2.out; have := J1.out; omega)).mono ?_
        rintro e w7 ⟨rfl, hk7⟩
        rw [e2.out]
        go_wp2
        go_ret
        exact ⟨rfl, hK6.trans hk7⟩
      · go_wp2_with fail
        refine (add_large _ _ _ hT4 F3 F4 (by omega) (by omega) (by omega)).mono ?_
        rintro e w5 ⟨rfl, hk5⟩
        go_wp2
        go_ret
        exact ⟨rfl, hK4.trans hk5⟩
    · go_wp2_with fail
      refine (add_large _ _ _ hT3 F3 F4 (by omega) (by omega) (by omega)).mono ?_
      rintro e w4 ⟨rfl, hk4⟩
      have hT4 := hT3.kept hk4
      have hK4 := hK3.trans hk4
      by_cases c2 : 0 ≤ idx k (t - 1000 + (u - 1000)) ∧ idx k (t - 1000 + (u - 1000)) < 9600
      · go_wp2_with fail
        refine (add_yes _ _ _ hT4 F3 F4 (by omega) (by omega) c2.1 c2.2).mono ?_
        rintro e w5 ⟨rfl, hk5⟩
        go_wp2
        go_ret
        exact ⟨rfl, hK4.trans hk5⟩
      · go_wp2_with fail
        refine (add_large _ _ _ hT4 F3 F4 (by omega) (by omega) (by omega)).mono ?_
        rintro e w5 ⟨rfl, hk5⟩
        go_wp2
        go_ret
        exact ⟨rfl, hK4.trans hk5⟩

end Go.Proofs.YtmcfdiojkkblcaaDoor
