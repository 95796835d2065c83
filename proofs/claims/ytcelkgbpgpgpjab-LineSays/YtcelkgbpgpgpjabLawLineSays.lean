/-
  The law LineSays returns true: Straight and Digits answer what the reference says. No condition.
-/
import Derived.Test.YtcelkgbpgpgpjabLWalkS
namespace Go.Proofs.Ytcelkgbpgpgpjab
open Go.RowKit

set_option maxRecDepth 100000 in
set_option maxHeartbeats 4000000 in
theorem lineSays_walk (c r m : Int) (w : World) :
    Calls Try.prog 3 #[.int .i64 c, .int .i64 r, .int .i64 m] w fun e w' => e = .returned (.bool true) ∧ Kept w w' := by
  cases h : okA c r m
  · have H := Lib.hid h
    have E := Lib.hid (erA_no h)
    clear h
    go_enter Try.func3, Try.ntmps3
    go_wp2_with fail
    refine (straight_no _ _ _ _ H.out).mono ?_
    rintro e w5 ⟨rfl, hK5⟩
    go_wp2_with fail
    refine (digits_no _ _ _ _ H.out).mono ?_
    rintro e w6 ⟨rfl, hK6⟩
    go_wp2_with fail
    refine (roff_any _ _ _ _).mono ?_
    rintro e w7 ⟨rfl, rfl⟩
    rw [E.out]
    go_wp2
    go_ret
    exact ⟨rfl, hK5.trans hK6⟩
  · obtain ⟨h1, h2, h3, h4, h5, h6⟩ := (okA_iff c r m).1 h
    obtain ⟨n, rfl⟩ := Int.eq_ofNat_of_zero_le (show 0 ≤ m by omega)
    have H := Lib.hid h
    have E := Lib.hid (erA_yes h)
    clear h
    go_enter Try.func3, Try.ntmps3
    go_wp2_with fail
    refine (straight_yes _ _ _ _ H.out).mono ?_
    rintro e w5 ⟨p, hp, rfl, hX, hK5⟩
    go_wp2_with fail
    refine (digits_yes _ _ _ _ H.out).mono ?_
    rintro e w6 ⟨q, hq, rfl, hY, hK6⟩
    have hX6 := hX.later hK6
    have hK7 := hK5.trans hK6
    clear hX hK5 hK6 hp hq
    go_wp2_with fail
    refine (roff_any _ _ _ _).mono ?_
    rintro e w7 ⟨rfl, rfl⟩
    rw [E.out]
    go_wp2_with fail
    refine (rparts_st n (c - r) _ (by omega) (by omega) (by omega) (by omega)).mono ?_
    rintro e w8 ⟨ad, cp, rfl, hA, hK⟩
    obtain ⟨p', off', rfl, hR⟩ := hA.at (by omega)
    have hX8 := hX6.later hK
    have hY8 := hY.later hK
    have hK8 := hK7.trans hK
    clear hX6 hY hK hK7 hA
    go_wp2_with fail
    refine (equal_yes (dif (stC (c - r) n)) _ _ _ _ _ _ n _ (by omega) hX8.rd hR).mono ?_
    rintro e w9 ⟨rfl, hd⟩
    have hY9 := hY8.later hd.kept
    have hK9 := hK8.trans hd.kept
    clear hX8 hY8 hK8 hR hd
    go_wp2_with fail
    refine (rparts_dg n (c - r) _ (by omega) (by omega) (by omega) (by omega)).mono ?_
    rintro e w10 ⟨ad, cp, rfl, hA, hK⟩
    obtain ⟨p', off', rfl, hR⟩ := hA.at (by omega)
    have hY10 := hY9.later hK
    have hK10 := hK9.trans hK
    clear hY9 hK hK9 hA
    go_wp2_with fail
    refine (equal_yes (dif (dgC (c - r) n)) _ _ _ _ _ _ n _ (by omega) hY10.rd hR).mono ?_
    rintro e w11 ⟨rfl, hd⟩
    have hK11 := hK10.trans hd.kept
    clear hY10 hK10 hR hd
    go_wp2
    go_ret
    exact ⟨ret_bool (by simp), hK11⟩

end Go.Proofs.Ytcelkgbpgpgpjab
