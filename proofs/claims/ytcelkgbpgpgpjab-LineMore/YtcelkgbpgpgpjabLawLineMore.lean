/-
  The law LineMore returns true: of an asset that costs more no less is written off by any time. No condition.
-/
import Derived.Test.YtcelkgbpgpgpjabLWalkB
namespace Go.Proofs.Ytcelkgbpgpgpjab
open Go.RowKit

theorem st_772 : tab 2 (dif (stC (7 - 7) 2)) = [0, 0] := by decide
theorem st_more (a b : Int) (n k : Nat) (n1 : 1 ≤ n) (h : a ≤ b) : sumTo (dif (stC a n)) k ≤ sumTo (dif (stC b n)) k := by
  rw [sum_dif, sum_dif, stC_zero _ _ n1, stC_zero _ _ n1]
  have := stC_mono a b n k k n1 (Int.mul_le_mul_of_nonneg_right h (by omega))
  omega
theorem dg_more (a b : Int) (n k : Nat) (n1 : 1 ≤ n) (h : a ≤ b) : sumTo (dif (dgC a n)) k ≤ sumTo (dif (dgC b n)) k := by
  rw [sum_dif, sum_dif, dgC_zero _ _ n1, dgC_zero _ _ n1]
  have := dgC_mono a b n k k n1 (Int.mul_le_mul_of_nonneg_right h (dgK_bd n k).1)
  omega

set_option maxRecDepth 100000 in
set_option maxHeartbeats 4000000 in
theorem lineMore_walk (c0 o0 r0 m0 k0 : Int) (w : World) :
    Calls Try.prog 6 #[.int .i64 c0, .int .i64 o0, .int .i64 r0, .int .i64 m0, .int .i64 k0] w fun e w' => e = .returned (.bool true) ∧ Kept w w' := by
  go_enter Try.func6, Try.ntmps6
  go_wp2_with fail
  refine (straight_yes 7 7 2 _ (by decide)).mono ?_
  rintro e w1 ⟨p, hp, rfl, hO, hK⟩
  go_wp2_with fail
  have hQ := (Own.lit (w := w1) (l := [0, 0]) (t := 3) rfl).rd
  rw [← st_772] at hQ
  refine (equal_yes (dif (stC (7 - 7) 2)) _ _ _ _ _ _ 2 _ (by omega) (hO.rd.later ((Kept.refl w1).alloc _)) hQ).mono ?_
  rintro e w2 ⟨rfl, hd⟩
  have hK2 := (hK.alloc _).trans hd.kept
  clear hO hK hd hQ hp
  go_wp2_with fail
  refine (within_any _ _ _ (by omega) (by omega)).mono ?_
  rintro e w3 ⟨c, c1, c2, rfl, rfl⟩
  go_wp2_with fail
  refine (within_any _ _ _ (by omega) (by omega)).mono ?_
  rintro e w3 ⟨r, r1, r2, rfl, rfl⟩
  go_wp2_with fail
  refine (within_any _ _ _ (by omega) (by omega)).mono ?_
  rintro e w3 ⟨o, o1, o2, rfl, rfl⟩
  go_wp2_with fail
  refine (within_any _ _ _ (by omega) (by omega)).mono ?_
  rintro e w3 ⟨t, t1, t2, rfl, rfl⟩
  obtain ⟨n, hn⟩ := Int.eq_ofNat_of_zero_le (show 0 ≤ 1 + t by omega)
  obtain rfl : t = (n : Int) - 1 := by omega
  clear hn
  have n1 : 1 ≤ n := by omega
  go_wp2_with fail
  rw [show (1 + ((n : Int) - 1)) = (n : Int) by omega]
  refine (within_any _ _ _ (by omega) (by omega)).mono ?_
  rintro e w4 ⟨s, s0, s1, rfl, rfl⟩
  obtain ⟨k, rfl⟩ := Int.eq_ofNat_of_zero_le s0
  have hkn : k ≤ n := by omega
  have H1 := Lib.hid ((okA_iff c r n).2 ⟨by omega, by omega, by omega, by omega, by omega, by omega⟩)
  have H2 := Lib.hid ((okA_iff (c + o) r n).2 ⟨by omega, by omega, by omega, by omega, by omega, by omega⟩)
  have XB := Lib.hid (fun i (hi : i < n) => stP_bd (c - r) n n1 (by omega) i hi)
  have UB := Lib.hid (fun i (hi : i < n) => dgP_bd (c - r) n n1 (by omega) i hi)
  have YB := Lib.hid (fun i (hi : i < n) => stP_bd (c + o - r) n n1 (by omega) i hi)
  have VB := Lib.hid (fun i (hi : i < n) => dgP_bd (c + o - r) n n1 (by omega) i hi)
  have XY := Lib.hid (st_more (c - r) (c + o - r) n k n1 (by omega))
  have UV := Lib.hid (dg_more (c - r) (c + o - r) n k n1 (by omega))
  go_wp2_with fail
  refine (straight_yes _ _ _ _ H1.out).mono ?_
  rintro e w5 ⟨p, hp, rfl, hX5, hK5⟩
  generalize dif (stC (c - r) n) = x at *
  go_wp2_with fail
  refine (straight_yes _ _ _ _ H2.out).mono ?_
  rintro e w6 ⟨q, hq, rfl, hY6, hK6⟩
  generalize dif (stC (c + o - r) n) = y at *
  go_wp2_with fail
  refine (digits_yes _ _ _ _ H1.out).mono ?_
  rintro e w7 ⟨p', hp', rfl, hU7, hK7⟩
  generalize dif (dgC (c - r) n) = u at *
  go_wp2_with fail
  refine (digits_yes _ _ _ _ H2.out).mono ?_
  rintro e w8 ⟨q', hq', rfl, hV, hK8⟩
  generalize dif (dgC (c + o - r) n) = v at *
  have hX := ((hX5.later hK6).later hK7).later hK8
  have hY := (hY6.later hK7).later hK8
  have hU := hU7.later hK8
  have hKd := (((hK2.trans hK5).trans hK6).trans hK7).trans hK8
  clear hX5 hY6 hU7 hK2 hK5 hK6 hK7 hK8 hp hq hp' hq' H1 H2
  have SX := Lib.hid (fun m => sum_any x p 0 k n (w8.drewN m) (by omega) (fun i hi => by have := XB.out i (by omega); omega) ((hX.rd.take k hkn).drewN m))
  have SY := Lib.hid (fun m => sum_any y q 0 k n (w8.drewN m) (by omega) (fun i hi => by have := YB.out i (by omega); omega) ((hY.rd.take k hkn).drewN m))
  have SU := Lib.hid (fun m => sum_any u p' 0 k n (w8.drewN m) (by omega) (fun i hi => by have := UB.out i (by omega); omega) ((hU.rd.take k hkn).drewN m))
  have SV := Lib.hid (fun m => sum_any v q' 0 k n (w8.drewN m) (by omega) (fun i hi => by have := VB.out i (by omega); omega) ((hV.rd.take k hkn).drewN m))
  have xy := XY.out
  have uv := UV.out
  clear hX hY hU hV XB YB UB VB XY UV
  generalize sumTo x k = P at *
  generalize sumTo y k = Q at *
  generalize sumTo u k = P' at *
  generalize sumTo v k = Q' at *
  have d1 : decide (P ≤ Q) = true := by simpa using xy
  have d2 : decide (P' ≤ Q') = true := by simpa using uv
  go_wp2_with fail
  go_quiet (first | (go_at_call 12; first | with_reducible exact quiet_same (SX.out _) | with_reducible exact quiet_same (SY.out _) | with_reducible exact quiet_same (SU.out _) | with_reducible exact quiet_same (SV.out _)))
  go_wp2
  go_ret
  exact ⟨ret_bool (by simp <;> omega), hKd.drewN _⟩

end Go.Proofs.Ytcelkgbpgpgpjab
