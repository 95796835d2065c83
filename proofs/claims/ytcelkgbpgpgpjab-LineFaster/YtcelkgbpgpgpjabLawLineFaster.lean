/-
  The law LineFaster returns true: by digits no less is written off by any time; by the line no two amounts differ by more than one; by digits none is more than one above the one ahead. No condition.
-/
import Derived.Test.YtcelkgbpgpgpjabLWalkB
namespace Go.Proofs.Ytcelkgbpgpgpjab
open Go.RowKit

theorem dg_101 : tab 1 (dif (dgC (10 - 0) 1)) = [10] := by decide

set_option maxRecDepth 100000 in
set_option maxHeartbeats 4000000 in
theorem lineFaster_walk (c0 r0 m0 k0 : Int) (w : World) :
    Calls Try.prog 5 #[.int .i64 c0, .int .i64 r0, .int .i64 m0, .int .i64 k0] w fun e w' => e = .returned (.bool true) ∧ Kept w w' := by
  go_enter Try.func5, Try.ntmps5
  go_wp2_with fail
  refine (digits_yes 10 0 1 _ (by decide)).mono ?_
  rintro e w1 ⟨p, hp, rfl, hO, hK⟩
  go_wp2_with fail
  have hQ := (Own.lit (w := w1) (l := [10]) (t := 3) rfl).rd
  rw [← dg_101] at hQ
  refine (equal_yes (dif (dgC (10 - 0) 1)) _ _ _ _ _ _ 1 _ (by omega) (hO.rd.later ((Kept.refl w1).alloc _)) hQ).mono ?_
  rintro e w2 ⟨rfl, hd⟩
  have hK2 := (hK.alloc _).trans hd.kept
  clear hO hK hd hQ hp
  go_wp2_with fail
  refine (within_any _ _ _ (by omega) (by omega)).mono ?_
  rintro e w3 ⟨c, c1, c2, rfl, rfl⟩
  go_wp2_with fail
  refine (within_any _ _ _ (by omega) (by omega)).mono ?_
  rintro e w3 ⟨r, r1, r2, rfl, rfl⟩
  go_wp2_with fail
  refine (within_any _ _ _ (by omega) (by omega)).mono ?_
  rintro e w3 ⟨t, t1, t2, rfl, rfl⟩
  obtain ⟨n, hn⟩ := Int.eq_ofNat_of_zero_le (show 0 ≤ 1 + t by omega)
  obtain rfl : t = (n : Int) - 1 := by omega
  clear hn
  have n1 : 1 ≤ n := by omega
  have H := Lib.hid ((okA_iff c r n).2 ⟨by omega, by omega, by omega, by omega, by omega, by omega⟩)
  have XB := Lib.hid (fun i (hi : i < n) => stP_bd (c - r) n n1 (by omega) i hi)
  have YB := Lib.hid (fun i (hi : i < n) => dgP_bd (c - r) n n1 (by omega) i hi)
  have YN := Lib.hid (fun i (hi : i + 1 < n) => dgP_next (c - r) n n1 (by omega) i hi)
  have XN := Lib.hid (fun i j => stP_near (c - r) n n1 (by omega) i j)
  have XY := Lib.hid (fun k (hk : k ≤ n) => show sumTo (dif (stC (c - r) n)) k ≤ sumTo (dif (dgC (c - r) n)) k by
    rw [sum_dif, sum_dif, stC_zero _ _ n1, dgC_zero _ _ n1]
    have := dg_st (c - r) n k n1 (by omega) hk
    omega)
  go_wp2_with fail
  rw [show (1 + ((n : Int) - 1)) = (n : Int) by omega]
  refine (straight_yes _ _ _ _ H.out).mono ?_
  rintro e w5 ⟨p, hp, rfl, hX, hK5⟩
  generalize dif (stC (c - r) n) = x at *
  go_wp2_with fail
  refine (digits_yes _ _ _ _ H.out).mono ?_
  rintro e w6 ⟨q, hq, rfl, hY, hK6⟩
  generalize dif (dgC (c - r) n) = y at *
  have hX6 := hX.later hK6
  have hK7 := hK2.trans (hK5.trans hK6)
  clear hX hK2 hK5 hK6 hp hq
  go_wp2_with fail
  refine (within_any _ _ _ (by omega) (by omega)).mono ?_
  rintro e w4 ⟨s, s0, s1, rfl, rfl⟩
  obtain ⟨k, rfl⟩ := Int.eq_ofNat_of_zero_le s0
  have hkn : k ≤ n := by omega
  go_wp2_with fail
  go_loopw [15] (fun i wr => ∃ j : Nat, 1 ≤ j ∧ j ≤ n ∧ i = .int .i64 j ∧ Drew w6 wr) (fun i _ => (n - intOf i).toNat)
  case atStart => exact ⟨1, by omega, by omega, rfl, Drew.refl _⟩
  case round =>
    obtain ⟨j, j1, hj, rfl, hD⟩ := hrel
    have hYd := hY.later hD.kept
    have hXd := hX6.later hD.kept
    have hKd := hK7.trans hD.kept
    by_cases hlt : j < n
    · obtain ⟨i, rfl⟩ : ∃ i, j = i + 1 := ⟨j - 1, by omega⟩
      have ca := hYd.cell i (by rw [tab_len]; omega)
      have cb := hYd.cell (i + 1) (by rw [tab_len]; omega)
      rw [tab_get] at ca cb
      have ba := YB.out i (by omega)
      have bb := YB.out (i + 1) (by omega)
      have nx := YN.out i hlt
      have d1 : decide (y i + 1 < y (i + 1)) = false := by simp; omega
      generalize y i = u at *
      generalize y (i + 1) = v at *
      clear hX6 hY hK7 hXd hKd nx
      go_wp2_with fail
      go_quiet (fail)
      go_wp2
      go_roundw
      case rel => exact ⟨i + 2, by omega, by omega, by go_num, hD.drewN _⟩
      case measure => simp [intOf]; omega
    · obtain rfl : j = n := by omega
      clear hlt
      have SX := Lib.hid (fun m => sum_any x p 0 k j (wr.drewN m) (by omega) (fun i hi => by have := XB.out i (by omega); omega) ((hXd.rd.take k hkn).drewN m))
      have SY := Lib.hid (fun m => sum_any y q 0 k j (wr.drewN m) (by omega) (fun i hi => by have := YB.out i (by omega); omega) ((hYd.rd.take k hkn).drewN m))
      have MX := Lib.hid (fun m => max_val x p 0 j j (wr.drewN m) n1 (by omega) (hXd.rd.drewN m))
      have MN := Lib.hid (fun m => min_val x p 0 j j (wr.drewN m) n1 (by omega) (hXd.rd.drewN m))
      have xy := XY.out k hkn
      have sx := sumTo_bd x 1000000000000 k (fun i hi => by have := XB.out i (by omega); omega)
      have sy := sumTo_bd y 1000000000000 k (fun i hi => by have := YB.out i (by omega); omega)
      obtain ⟨a, ha, ea⟩ := mxV_one x j n1
      obtain ⟨b, hb, eb⟩ := mnV_one x j n1
      have ba := XB.out a ha
      have bb := XB.out b hb
      have nr := XN.out a b
      rw [← ea] at ba nr
      rw [← eb] at bb nr
      clear ea eb ha hb hX6 hY hK7 hXd hYd H XB YB XY XN YN
      generalize mxV x j = A at *
      generalize mnV x j = B at *
      generalize sumTo x k = P at *
      generalize sumTo y k = Q at *
      have d1 : decide (P ≤ Q) = true := by simpa using xy
      have d2 : decide (A - B ≤ 1) = true := by simp; omega
      go_wp2_with fail
      go_quiet (first | (go_at_call 12; first | with_reducible exact quiet_same (SX.out _) | with_reducible exact quiet_same (SY.out _)) | (go_at_call 15; exact quiet_same (MX.out _)) | (go_at_call 13; exact quiet_same (MN.out _)))
      go_wp2
      go_ret
      exact ⟨ret_bool (by simp <;> omega), hKd.drewN _⟩

end Go.Proofs.Ytcelkgbpgpgpjab
