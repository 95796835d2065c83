/-
  The law CountYears returns true: under Euro30 a month has 30 days for days up to the 28th, and Act365 and Act360 tell the same days. Condition: the table of the months' lengths reads as the program lays it (Tab).
-/
import Derived.Test.YtmcfdiojkkblcaaDoorWalkD
namespace Go.Proofs.YtmcfdiojkkblcaaDoor
open Go.RowKit

set_option maxHeartbeats 4000000 in
theorem countYears_walk (a m b : Int) (w : World) (hT : Tab w) :
    Calls Tryd.prog 13 #[.int .i64 a, .int .i64 m, .int .i64 b] w fun e w' => e = .returned (.bool true) ∧ Kept w w' := by
  go_enter Tryd.func13, Tryd.ntmps13
  go_wp2_with fail
  refine (between_365 _ _ _ hT (by omega) (by omega) (by omega)).mono ?_
  rintro e w1 ⟨rfl, hk1⟩
  have hT1 := (hT.kept hk1).alloc (Obj.cells #[.int .i64 7, .int .i64 365] 39)
  have hK1 := hk1.alloc (Obj.cells #[.int .i64 7, .int .i64 365] 39)
  clear hT hk1
  go_wp2_with fail
  refine (day_any _ _).mono ?_
  rintro e w2 ⟨r, r0, r1, rfl, rfl⟩
  go_wp2_with fail
  refine (date_yes _ _ hT1 r0 (by omega)).mono ?_
  rintro e w2 ⟨rfl, hk2⟩
  have hT2 := (hT1.kept hk2)
  have hK2 := hK1.trans hk2
  clear hT1 hK1 hk2
  by_cases hD : 28 < Cal.D r
  · have F := of_cut_eq r 28 r0 (by omega) (by omega)
    have F1 := Lib.hid F.1
    have F2 := Lib.hid F.2.1
    obtain ⟨_, _, F3, F4, _, _, F7⟩ := F
    go_wp2_with fail
    refine (of_any _ _ _ _ (hT2.alloc _)).mono ?_
    rintro e w3 ⟨rfl, hk3⟩
    rw [F1.out, F2.out]
    have hT3 := (hT2.alloc _).kept hk3
    have hK3 := (hK2.alloc _).trans hk3
    clear F1 F2 hT2 hK2 hk3
    generalize Cal.num (Cal.Y r) (Cal.M r) 28 = k at *
    clear hD
    go_wp2_with fail
    refine (within_any _ _ _ (by omega) (by omega)).mono ?_
    rintro e w4 ⟨t, t0, t1, rfl, rfl⟩
    have ik := idx_bd k F3 F4
    have J1 := Lib.hid (idx_add k t)
    by_cases c1 : idx k t < 9600
    · have c0 : 0 ≤ idx k t := by have := J1.out; omega
      obtain ⟨_, _, _, v4, v5⟩ := add_date k t F3 F4 c0 c1
      have E1 := Lib.hid (euro_add k t F3 F4 F7 c0 c1)
      have v6 := add_pos k t F3 F4 t0 c1
      go_wp2_with fail
      refine (add_yes _ _ _ hT3 F3 F4 (by omega) (by omega) c0 c1).mono ?_
      rintro e w4 ⟨rfl, hk4⟩
      go_wp2_with fail
      refine (between_euro _ _ _ (hT3.kept hk4) F3 v6 v5).mono ?_
      rintro e w5 ⟨rfl, hk5⟩
      rw [E1.out]
      have hT5 := ((hT3.kept hk4).kept hk5).alloc (Obj.cells #[.int .i64 (30 * t), .int .i64 360] 39)
      have hK5 := ((hK3.trans hk4).trans hk5).alloc (Obj.cells #[.int .i64 (30 * t), .int .i64 360] 39)
      clear hT3 hK3 hk4 hk5 E1 J1
      go_wp2_with fail
      refine (day_any _ _).mono ?_
      rintro e w7 ⟨u, u0, u1, rfl, rfl⟩
      rcases (show k < u ∨ k = u ∨ u < k by omega) with ho | ho | ho
      · go_wp2_with fail
        refine (between_360 _ _ _ hT5 F3 (by omega) (by omega)).mono ?_
        rintro e w7 ⟨rfl, hk7⟩
        go_wp2_with fail
        refine (between_365 _ _ _ ((hT5.kept hk7).alloc _) F3 (by omega) (by omega)).mono ?_
        rintro e w8 ⟨rfl, hk8⟩
        obtain ⟨z8, x0, x1⟩ := fr_later hk8
        have hK8 := ((hK5.trans hk7).alloc _).trans hk8
        clear hk7 hk8
        go_wp2
        go_ret
        exact ⟨rfl, hK8.alloc _⟩
      · subst ho
        go_wp2_with fail
        refine (between_360 _ _ _ hT5 F3 (by omega) (by omega)).mono ?_
        rintro e w7 ⟨rfl, hk7⟩
        go_wp2_with fail
        refine (between_365 _ _ _ ((hT5.kept hk7).alloc _) F3 (by omega) (by omega)).mono ?_
        rintro e w8 ⟨rfl, hk8⟩
        obtain ⟨z8, x0, x1⟩ := fr_later hk8
        have hK8 := ((hK5.trans hk7).alloc _).trans hk8
        clear hk7 hk8
        go_wp2
        go_ret
        exact ⟨rfl, hK8.alloc _⟩
      · go_wp2_with fail
        refine (between_360 _ _ _ hT5 F3 (by omega) (by omega)).mono ?_
        rintro e w7 ⟨rfl, hk7⟩
        go_wp2_with fail
        refine (between_365 _ _ _ ((hT5.kept hk7).alloc _) F3 (by omega) (by omega)).mono ?_
        rintro e w8 ⟨rfl, hk8⟩
        obtain ⟨z8, x0, x1⟩ := fr_later hk8
        have hK8 := ((hK5.trans hk7).alloc _).trans hk8
        clear hk7 hk8
        go_wp2
        go_ret
        exact ⟨rfl, hK8.alloc _⟩
    · go_wp2_with fail
      refine (add_large _ _ _ hT3 F3 F4 (by omega) (by omega) (by omega)).mono ?_
      rintro e w4 ⟨rfl, hk4⟩
      have hT5 := hT3.kept hk4
      have hK5 := hK3.trans hk4
      clear hT3 hK3 hk4 J1
      go_wp2_with fail
      refine (day_any _ _).mono ?_
      rintro e w7 ⟨u, u0, u1, rfl, rfl⟩
      rcases (show k < u ∨ k = u ∨ u < k by omega) with ho | ho | ho
      · go_wp2_with fail
        refine (between_360 _ _ _ hT5 F3 (by omega) (by omega)).mono ?_
        rintro e w7 ⟨rfl, hk7⟩
        go_wp2_with fail
        refine (between_365 _ _ _ ((hT5.kept hk7).alloc _) F3 (by omega) (by omega)).mono ?_
        rintro e w8 ⟨rfl, hk8⟩
        obtain ⟨z8, x0, x1⟩ := fr_later hk8
        have hK8 := ((hK5.trans hk7).alloc _).trans hk8
        clear hk7 hk8
        go_wp2
        go_ret
        exact ⟨rfl, hK8.alloc _⟩
      · subst ho
        go_wp2_with fail
        refine (between_360 _ _ _ hT5 F3 (by omega) (by omega)).mono ?_
        rintro e w7 ⟨rfl, hk7⟩
        go_wp2_with fail
        refine (between_365 _ _ _ ((hT5.kept hk7).alloc _) F3 (by omega) (by omega)).mono ?_
        rintro e w8 ⟨rfl, hk8⟩
        obtain ⟨z8, x0, x1⟩ := fr_later hk8
        have hK8 := ((hK5.trans hk7).alloc _).trans hk8
        clear hk7 hk8
        go_wp2
        go_ret
        exact ⟨rfl, hK8.alloc _⟩
      · go_wp2_with fail
        refine (between_360 _ _ _ hT5 F3 (by omega) (by omega)).mono ?_
        rintro e w7 ⟨rfl, hk7⟩
        go_wp2_with fail
        refine (between_365 _ _ _ ((hT5.kept hk7).alloc _) F3 (by omega) (by omega)).mono ?_
        rintro e w8 ⟨rfl, hk8⟩
        obtain ⟨z8, x0, x1⟩ := fr_later hk8
        have hK8 := ((hK5.trans hk7).alloc _).trans hk8
        clear hk7 hk8
        go_wp2
        go_ret
        exact ⟨rfl, hK8.alloc _⟩
  · have F := of_cut_eq r (Cal.D r) r0 (by omega) (by omega)
    have F1 := Lib.hid F.1
    have F2 := Lib.hid F.2.1
    obtain ⟨_, _, F3, F4, _, _, F7⟩ := F
    go_wp2_with fail
    refine (of_any _ _ _ _ (hT2.alloc _)).mono ?_
    rintro e w3 ⟨rfl, hk3⟩
    rw [F1.out, F2.out]
    have hT3 := (hT2.alloc _).kept hk3
    have hK3 := (hK2.alloc _).trans hk3
    clear F1 F2 hT2 hK2 hk3
    generalize Cal.num (Cal.Y r) (Cal.M r) (Cal.D r) = k at *
    clear hD
    go_wp2_with fail
    refine (within_any _ _ _ (by omega) (by omega)).mono ?_
    rintro e w4 ⟨t, t0, t1, rfl, rfl⟩
    have ik := idx_bd k F3 F4
    have J1 := Lib.hid (idx_add k t)
    by_cases c1 : idx k t < 9600
    · have c0 : 0 ≤ idx k t := by have := J1.out; omega
      obtain ⟨_, _, _, v4, v5⟩ := add_date k t F3 F4 c0 c1
      have E1 := Lib.hid (euro_add k t F3 F4 F7 c0 c1)
      have v6 := add_pos k t F3 F4 t0 c1
      go_wp2_with fail
      refine (add_yes _ _ _ hT3 F3 F4 (by omega) (by omega) c0 c1).mono ?_
      rintro e w4 ⟨rfl, hk4⟩
      go_wp2_with fail
      refine (between_euro _ _ _ (hT3.kept hk4) F3 v6 v5).mono ?_
      rintro e w5 ⟨rfl, hk5⟩
      rw [E1.out]
      have hT5 := ((hT3.kept hk4).kept hk5).alloc (Obj.cells #[.int .i64 (30 * t), .int .i64 360] 39)
      have hK5 := ((hK3.trans hk4).trans hk5).alloc (Obj.cells #[.int .i64 (30 * t), .int .i64 360] 39)
      clear hT3 hK3 hk4 hk5 E1 J1
      go_wp2_with fail
      refine (day_any _ _).mono ?_
      rintro e w7 ⟨u, u0, u1, rfl, rfl⟩
      rcases (show k < u ∨ k = u ∨ u < k by omega) with ho | ho | ho
      · go_wp2_with fail
        refine (between_360 _ _ _ hT5 F3 (by omega) (by omega)).mono ?_
        rintro e w7 ⟨rfl, hk7⟩
        go_wp2_with fail
        refine (between_365 _ _ _ ((hT5.kept hk7).alloc _) F3 (by omega) (by omega)).mono ?_
        rintro e w8 ⟨rfl, hk8⟩
        obtain ⟨z8, x0, x1⟩ := fr_later hk8
        have hK8 := ((hK5.trans hk7).alloc _).trans hk8
        clear hk7 hk8
        go_wp2
        go_ret
        exact ⟨rfl, hK8.alloc _⟩
      · subst ho
        go_wp2_with fail
        refine (between_360 _ _ _ hT5 F3 (by omega) (by omega)).mono ?_
        rintro e w7 ⟨rfl, hk7⟩
        go_wp2_with fail
        refine (between_365 _ _ _ ((hT5.kept hk7).alloc _) F3 (by omega) (by omega)).mono ?_
        rintro e w8 ⟨rfl, hk8⟩
        obtain ⟨z8, x0, x1⟩ := fr_later hk8
        have hK8 := ((hK5.trans hk7).alloc _).trans hk8
        clear hk7 hk8
        go_wp2
        go_ret
        exact ⟨rfl, hK8.alloc _⟩
      · go_wp2_with fail
        refine (between_360 _ _ _ hT5 F3 (by omega) (by omega)).mono ?_
        rintro e w7 ⟨rfl, hk7⟩
        go_wp2_with fail
        refine (between_365 _ _ _ ((hT5.kept hk7).alloc _) F3 (by omega) (by omega)).mono ?_
        rintro e w8 ⟨rfl, hk8⟩
        obtain ⟨z8, x0, x1⟩ := fr_later hk8
        have hK8 := ((hK5.trans hk7).alloc _).trans hk8
        clear hk7 hk8
        go_wp2
        go_ret
        exact ⟨rfl, hK8.alloc _⟩
    · go_wp2_with fail
      refine (add_large _ _ _ hT3 F3 F4 (by omega) (by omega) (by omega)).mono ?_
      rintro e w4 ⟨rfl, hk4⟩
      have hT5 := hT3.kept hk4
      have hK5 := hK3.trans hk4
      clear hT3 hK3 hk4 J1
      go_wp2_with fail
      refine (day_any _ _).mono ?_
      rintro e w7 ⟨u, u0, u1, rfl, rfl⟩
      rcases (show k < u ∨ k = u ∨ u < k by omega) with ho | ho | ho
      · go_wp2_with fail
        refine (between_360 _ _ _ hT5 F3 (by omega) (by omega)).mono ?_
        rintro e w7 ⟨rfl, hk7⟩
        go_wp2_with fail
        refine (between_365 _ _ _ ((hT5.kept hk7).alloc _) F3 (by omega) (by omega)).mono ?_
        rintro e w8 ⟨rfl, hk8⟩
        obtain ⟨z8, x0, x1⟩ := fr_later hk8
        have hK8 := ((hK5.trans hk7).alloc _).trans hk8
        clear hk7 hk8
        go_wp2
        go_ret
        exact ⟨rfl, hK8.alloc _⟩
      · subst ho
        go_wp2_with fail
        refine (between_360 _ _ _ hT5 F3 (by omega) (by omega)).mono ?_
        rintro e w7 ⟨rfl, hk7⟩
        go_wp2_with fail
        refine (between_365 _ _ _ ((hT5.kept hk7).alloc _) F3 (by omega) (by omega)).mono ?_
        rintro e w8 ⟨rfl, hk8⟩
        obtain ⟨z8, x0, x1⟩ := fr_later hk8
        have hK8 := ((hK5.trans hk7).alloc _).trans hk8
        clear hk7 hk8
        go_wp2
        go_ret
        exact ⟨rfl, hK8.alloc _⟩
      · go_wp2_with fail
        refine (between_360 _ _ _ hT5 F3 (by omega) (by omega)).mono ?_
        rintro e w7 ⟨rfl, hk7⟩
        go_wp2_with fail
        refine (between_365 _ _ _ ((hT5.kept hk7).alloc _) F3 (by omega) (by omega)).mono ?_
        rintro e w8 ⟨rfl, hk8⟩
        obtain ⟨z8, x0, x1⟩ := fr_later hk8
        have hK8 := ((hK5.trans hk7).alloc _).trans hk8
        clear hk7 hk8
        go_wp2
        go_ret
        exact ⟨rfl, hK8.alloc _⟩

end Go.Proofs.YtmcfdiojkkblcaaDoor
