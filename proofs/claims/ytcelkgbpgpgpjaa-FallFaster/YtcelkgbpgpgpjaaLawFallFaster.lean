/-
  The law FallFaster returns true: a greater rate or a smaller residual value never reduces accumulated depreciation. No condition.
-/
import Derived.Test.YtcelkgbpgpgpjaaNWalkA
namespace Go.Proofs.Ytcelkgbpgpgpjaa
open Go.RowKit

theorem fl_90 : tab 3 (flP 90 0 0 3) = [30, 30, 30] := by decide
theorem fl_more (c r r' rate rate' : Int) (n k : Nat) (h0 : 0 ≤ r) (hr : r ≤ r') (h1 : r' ≤ c) (r0 : 0 ≤ rate') (r1 : rate' ≤ rate) (r2 : rate ≤ 1000000) (hk : k ≤ n) : sumTo (flP c r' rate' n) k ≤ sumTo (flP c r rate n) k := by
  rw [flP_sum, flP_sum]
  have := flV_mono c r r' rate rate' n k h0 hr h1 r0 r1 r2 hk
  omega

set_option maxRecDepth 100000 in
set_option maxHeartbeats 4000000 in
theorem fallFaster_walk (c0 r0 t0 o0 l0 m0 k0 : Int) (w : World) :
    Calls Try.prog 5 #[.int .i64 c0, .int .i64 r0, .int .i64 t0, .int .i64 o0, .int .i64 l0, .int .i64 m0, .int .i64 k0] w fun e w' => e = .returned (.bool true) ∧ Kept w w' := by
  go_enter Try.func5, Try.ntmps5
  go_wp2_with fail
  refine (falling_yes 90 0 0 3 _ (by decide) (by decide)).mono ?_
  rintro e w1 ⟨p, hp, rfl, hO, hK⟩
  go_wp2_with fail
  have hQ := (Own.lit (w := w1) (l := [30, 30, 30]) (t := 3) rfl).rd
  rw [← fl_90] at hQ
  refine (equal_yes (flP 90 0 0 3) _ _ _ _ _ _ 3 _ (by omega) (hO.rd.later ((Kept.refl w1).alloc _)) hQ).mono ?_
  rintro e w2 ⟨rfl, hd⟩
  have hK2 := (hK.alloc _).trans hd.kept
  clear hO hK hd hQ hp
  go_wp2_with fail
  refine (within_any _ _ _ (by omega) (by omega)).mono ?_
  rintro e w3 ⟨c, c1, c2, rfl, rfl⟩
  go_wp2_with fail
  refine (within_any _ _ _ (by omega) (by omega)).mono ?_
  rintro e w3 ⟨r, r1, r2, rfl, rfl⟩
  go_wp2_with fail
  refine (within_any _ _ _ (by omega) (by omega)).mono ?_
  rintro e w3 ⟨y, y1, y2, rfl, rfl⟩
  go_wp2_with fail
  refine (within_any _ _ _ (by omega) (by omega)).mono ?_
  rintro e w3 ⟨t, t1, t2, rfl, rfl⟩
  obtain ⟨n, hn⟩ := Int.eq_ofNat_of_zero_le (show 0 ≤ 1 + t by omega)
  obtain rfl : t = (n : Int) - 1 := by omega
  clear hn
  have n1 : 1 ≤ n := by omega
  go_wp2_with fail
  rw [show (1 + ((n : Int) - 1)) = (n : Int) by omega]
  refine (within_any _ _ _ (by omega) (by omega)).mono ?_
  rintro e w4 ⟨s, s0, s1, rfl, rfl⟩
  obtain ⟨k, rfl⟩ := Int.eq_ofNat_of_zero_le s0
  have hkn : k ≤ n := by omega
  have H := Lib.hid ((okA_iff c r n).2 ⟨by omega, by omega, by omega, by omega, by omega, by omega⟩)
  have R := Lib.hid ((rtB_iff y).2 ⟨by omega, by omega⟩)
  go_wp2_with fail
  refine (falling_yes _ _ _ _ _ H.out R.out).mono ?_
  rintro e w5 ⟨p, hp, rfl, hX5, hK5⟩
  go_wp2_with fail
  refine (within_any _ _ _ (by omega) (by omega)).mono ?_
  rintro e w6 ⟨o, o1, o2, rfl, rfl⟩
  have R2 := Lib.hid ((rtB_iff (y + o)).2 ⟨by omega, by omega⟩)
  go_wp2_with fail
  refine (falling_yes _ _ _ _ _ H.out R2.out).mono ?_
  rintro e w6 ⟨q, hq, rfl, hY6, hK6⟩
  go_wp2_with fail
  refine (within_any _ _ _ (by omega) (by omega)).mono ?_
  rintro e w7 ⟨l, l1, l2, rfl, rfl⟩
  have H2 := Lib.hid ((okA_iff c (r - l) n).2 ⟨by omega, by omega, by omega, by omega, by omega, by omega⟩)
  go_wp2_with fail
  refine (falling_yes _ _ _ _ _ H2.out R.out).mono ?_
  rintro e w8 ⟨q', hq', rfl, hZ, hK8⟩
  have XB := Lib.hid (fun i => flP_bd c r y n i (by omega) (by omega) (by omega))
  have YB := Lib.hid (fun i => flP_bd c r (y + o) n i (by omega) (by omega) (by omega))
  have ZB := Lib.hid (fun i => flP_bd c (r - l) y n i (by omega) (by omega) (by omega))
  have XY := Lib.hid (fl_more c r r (y + o) y n k (by omega) (by omega) (by omega) (by omega) (by omega) (by omega) hkn)
  have XZ := Lib.hid (fl_more c (r - l) r y y n k (by omega) (by omega) (by omega) (by omega) (by omega) (by omega) hkn)
  have hX := (hX5.later hK6).later hK8
  have hY := hY6.later hK8
  have hKd := ((hK2.trans hK5).trans hK6).trans hK8
  clear hX5 hY6 hK2 hK5 hK6 hK8 hp hq hq' H H2 R R2
  generalize flP c r y n = x at *
  generalize flP c r (y + o) n = y' at *
  generalize flP c (r - l) y n = z at *
  have SX := Lib.hid (fun m => sum_any x p 0 k n (w8.drewN m) (by omega) (fun i hi => by have := XB.out i; omega) ((hX.rd.take k hkn).drewN m))
  have SY := Lib.hid (fun m => sum_any y' q 0 k n (w8.drewN m) (by omega) (fun i hi => by have := YB.out i; omega) ((hY.rd.take k hkn).drewN m))
  have SZ := Lib.hid (fun m => sum_any z q' 0 k n (w8.drewN m) (by omega) (fun i hi => by have := ZB.out i; omega) ((hZ.rd.take k hkn).drewN m))
  have xy := XY.out
  have xz := XZ.out
  clear hX hY hZ XB YB ZB XY XZ
  generalize sumTo x k = P at *
  generalize sumTo y' k = Q at *
  generalize sumTo z k = Q' at *
  have d1 : decide (P ≤ Q) = true := by simpa using xy
  have d2 : decide (P ≤ Q') = true := by simpa using xz
  go_wp2_with fail
  go_quiet (first | (go_at_call 20; first | with_reducible exact quiet_same (SX.out _) | with_reducible exact quiet_same (SY.out _) | with_reducible exact quiet_same (SZ.out _)))
  go_wp2
  go_ret
  exact ⟨ret_bool (by simp <;> omega), hKd.drewN _⟩

end Go.Proofs.Ytcelkgbpgpgpjaa
