/-
  The law LineSum returns true: the whole depreciable amount is written off by the line and by digits, and no depreciation is negative. No condition.
-/
import Derived.Test.YtcelkgbpgpgpjabLWalkB
namespace Go.Proofs.Ytcelkgbpgpgpjab
open Go.RowKit

theorem st_104 : tab 4 (dif (stC (10 - 0) 4)) = [3, 2, 3, 2] := by decide
theorem dg_603 : tab 3 (dif (dgC (60 - 0) 3)) = [30, 20, 10] := by decide

set_option maxRecDepth 100000 in
set_option maxHeartbeats 4000000 in
theorem lineSum_walk (c r m : Int) (w : World) :
    Calls Try.prog 4 #[.int .i64 c, .int .i64 r, .int .i64 m] w fun e w' => e = .returned (.bool true) ∧ Kept w w' := by
  go_enter Try.func4, Try.ntmps4
  go_wp2_with fail
  refine (straight_yes 10 0 4 _ (by decide)).mono ?_
  rintro e w1 ⟨p, hp, rfl, hO, hK⟩
  go_wp2_with fail
  have hQ := (Own.lit (w := w1) (l := [3, 2, 3, 2]) (t := 3) rfl).rd
  rw [← st_104] at hQ
  refine (equal_yes (dif (stC (10 - 0) 4)) _ _ _ _ _ _ 4 _ (by omega) (hO.rd.later ((Kept.refl w1).alloc _)) hQ).mono ?_
  rintro e w2 ⟨rfl, hd⟩
  have hK2 := (hK.alloc _).trans hd.kept
  clear hO hK hd hQ hp
  go_wp2_with fail
  refine (digits_yes 60 0 3 _ (by decide)).mono ?_
  rintro e w3 ⟨p, hp, rfl, hO, hK⟩
  go_wp2_with fail
  have hQ := (Own.lit (w := w3) (l := [30, 20, 10]) (t := 3) rfl).rd
  rw [← dg_603] at hQ
  refine (equal_yes (dif (dgC (60 - 0) 3)) _ _ _ _ _ _ 3 _ (by omega) (hO.rd.later ((Kept.refl w3).alloc _)) hQ).mono ?_
  rintro e w4 ⟨rfl, hd⟩
  have hK4 := hK2.trans ((hK.alloc _).trans hd.kept)
  clear hO hK hd hQ hp hK2
  cases h : okA c r m
  · have H := Lib.hid h
    clear h
    go_wp2_with fail
    refine (straight_no _ _ _ _ H.out).mono ?_
    rintro e w5 ⟨rfl, hK5⟩
    go_wp2_with fail
    refine (digits_no _ _ _ _ H.out).mono ?_
    rintro e w6 ⟨rfl, hK6⟩
    go_wp2
    go_ret
    exact ⟨rfl, hK4.trans (hK5.trans hK6)⟩
  · obtain ⟨h1, h2, h3, h4, h5, h6⟩ := (okA_iff c r m).1 h
    obtain ⟨n, rfl⟩ := Int.eq_ofNat_of_zero_le (show 0 ≤ m by omega)
    have H := Lib.hid h
    clear h
    have XB := Lib.hid (fun i (hi : i < n) => stP_bd (c - r) n (by omega) (by omega) i hi)
    have YB := Lib.hid (fun i (hi : i < n) => dgP_bd (c - r) n (by omega) (by omega) i hi)
    have XS := Lib.hid (show sumTo (dif (stC (c - r) n)) n = c - r by rw [sum_dif, stC_all _ _ (by omega), stC_zero _ _ (by omega)]; omega)
    have YS := Lib.hid (show sumTo (dif (dgC (c - r) n)) n = c - r by rw [sum_dif, dgC_all _ _ (by omega), dgC_zero _ _ (by omega)]; omega)
    go_wp2_with fail
    refine (straight_yes _ _ _ _ H.out).mono ?_
    rintro e w5 ⟨p, hp, rfl, hX, hK5⟩
    generalize dif (stC (c - r) n) = x at *
    go_wp2_with fail
    refine (digits_yes _ _ _ _ H.out).mono ?_
    rintro e w6 ⟨q, hq, rfl, hY, hK6⟩
    generalize dif (dgC (c - r) n) = y at *
    have hX6 := hX.later hK6
    have hK7 := hK4.trans (hK5.trans hK6)
    clear hX hK4 hK5 hK6 hp hq
    go_wp2_with fail
    refine (sum_any x _ _ n _ _ (by omega) (fun j hj => by have := XB.out j hj; omega) hX6.rd).mono ?_
    rintro e w7 ⟨rfl, rfl⟩
    rw [XS.out]
    go_wp2_with fail
    refine (sum_any y _ _ n _ _ (by omega) (fun j hj => by have := YB.out j hj; omega) hY.rd).mono ?_
    rintro e w7 ⟨rfl, rfl⟩
    rw [YS.out]
    go_wp2_with fail
    refine (min_any x _ _ _ n _ (by omega) (by omega) hX6.rd).mono ?_
    rintro e w7 ⟨i, hi, rfl, rfl⟩
    have bi := XB.out i hi
    go_wp2_with fail
    refine (min_any y _ _ _ n _ (by omega) (by omega) hY.rd).mono ?_
    rintro e w7 ⟨j, hj, rfl, rfl⟩
    have bj := YB.out j hj
    go_wp2
    go_ret
    exact ⟨ret_bool (by simp <;> omega), hK7⟩

end Go.Proofs.Ytcelkgbpgpgpjab
