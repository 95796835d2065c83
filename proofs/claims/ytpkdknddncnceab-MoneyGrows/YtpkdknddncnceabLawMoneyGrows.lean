/-
  The law MoneyGrows returns true: of more there is no lesser share; by a greater rate neither; what is within is never more than all. No condition.
-/
import Derived.Test.YtpkdknddncnceabMWalkA
namespace Go.Proofs.Ytpkdknddncnceab
open Go.RowKit

theorem shV_mono {a b r way : Int} (h : a ≤ b) (r0 : 0 ≤ r) (w0 : 0 ≤ way) (w3 : way ≤ 3) : shV a r way ≤ shV b r way := by
  unfold shV
  exact rnd_mono _ _ _ _ way (by omega) (by omega) (Int.mul_le_mul_of_nonneg_right (Int.mul_le_mul_of_nonneg_right h r0) (by omega)) w0 w3
theorem shV_rate {a r s way : Int} (a0 : 0 ≤ a) (h : r ≤ s) (w0 : 0 ≤ way) (w3 : way ≤ 3) : shV a r way ≤ shV a s way := by
  unfold shV
  exact rnd_mono _ _ _ _ way (by omega) (by omega) (Int.mul_le_mul_of_nonneg_right (Int.mul_le_mul_of_nonneg_left h a0) (by omega)) w0 w3
theorem inV_le {b r way : Int} (b0 : 0 ≤ b) (r0 : 0 ≤ r) (w0 : 0 ≤ way) (w3 : way ≤ 3) : 0 ≤ inV b r way ∧ inV b r way ≤ b := by
  unfold inV
  refine ⟨rnd_nonneg _ _ _ (by omega) (by omega) w0 w3, rnd_le _ _ _ _ (by omega) ?_ w0 w3⟩
  exact Int.mul_le_mul_of_nonneg_left (by omega) b0
set_option maxRecDepth 100000 in
set_option maxHeartbeats 4000000 in
theorem moneyGrows_walk (A B R M W : Int) (w : World) :
    Calls Try.prog 5 #[.int .i64 A, .int .i64 B, .int .i64 R, .int .i64 M, .int .i64 W] w fun e w' => e = .returned (.bool true) ∧ Kept w w' := by
  have T := Lib.hid (show shV 150 10000 3 = 2 by decide)
  go_enter Try.func5, Try.ntmps5
  go_wp2_with fail
  refine (share_yes _ _ _ _ (by decide)).mono ?_
  rintro e w1 ⟨rfl, hK1⟩
  rw [T.out]
  clear T
  go_wp2_with fail
  refine (within_any _ _ _ (by omega) (by omega)).mono ?_
  rintro e w2 ⟨a, a0, a1, rfl, rfl⟩
  go_wp2_with fail
  refine (within_any _ _ _ (by omega) (by omega)).mono ?_
  rintro e w2 ⟨b, b0, b1, rfl, rfl⟩
  go_wp2_with fail
  refine (within_any _ _ _ (by omega) (by omega)).mono ?_
  rintro e w2 ⟨r, r0, r1, rfl, rfl⟩
  go_wp2_with fail
  refine (within_any _ _ _ (by omega) (by omega)).mono ?_
  rintro e w2 ⟨y, y0, y1, rfl, rfl⟩
  go_upto_region 5 with (fail)
  go_cut [0, 1] (fun s0 s1 wx => ∃ a b : Int, s0 = .int .i64 a ∧ s1 = .int .i64 b ∧ 0 ≤ a ∧ a ≤ b ∧ b ≤ 1000000000000 ∧ wx = w1)
  case first =>
    go_wp2
    all_goals go_meet
    all_goals exact ⟨_, _, rfl, rfl, by (try split) <;> (try split) <;> omega, by (try split) <;> (try split) <;> omega, by (try split) <;> (try split) <;> omega, rfl⟩
  case rest =>
    clear a0 a1 b0 b1
    obtain ⟨p, q, rfl, rfl, p0, pq, q1, rfl⟩ := hcut
    have OP := Lib.hid ((okM_iff p r y).2 ⟨by omega, by omega, by omega, by omega⟩)
    have OQ := Lib.hid ((okM_iff q r y).2 ⟨by omega, by omega, by omega, by omega⟩)
    have m1 := shV_mono (way := y) pq r0 y0 (by omega)
    have i1 := inV_le (b := q) (r := r) (way := y) (by omega) r0 y0 (by omega)
    go_wp2_with fail
    refine (share_yes _ _ _ _ OP.out).mono ?_
    rintro e w2 ⟨rfl, hK⟩
    have hK2 := hK1.trans hK
    clear hK1 hK
    go_wp2_with fail
    refine (share_yes _ _ _ _ OQ.out).mono ?_
    rintro e w3 ⟨rfl, hK⟩
    have hK3 := hK2.trans hK
    clear hK2 hK
    go_wp2_with fail
    refine (within_any _ _ _ (by omega) (by omega)).mono ?_
    rintro e w4 ⟨m, m0, m3, rfl, rfl⟩
    have OM := Lib.hid ((okM_iff p (r + m) y).2 ⟨by omega, by omega, by omega, by omega⟩)
    have m2 := shV_rate (way := y) p0 (show r ≤ r + m by omega) y0 (by omega)
    go_wp2_with fail
    refine (share_yes _ _ _ _ OM.out).mono ?_
    rintro e w4 ⟨rfl, hK⟩
    have hK4 := hK3.trans hK
    clear hK3 hK
    go_wp2_with fail
    refine (within_yes _ _ _ _ OQ.out).mono ?_
    rintro e w5 ⟨rfl, hK⟩
    have hK5 := hK4.trans hK
    clear hK4 hK
    generalize shV p r y = s1 at *
    generalize shV q r y = s2 at *
    generalize shV p (r + m) y = s3 at *
    generalize inV q r y = n at *
    have d1 : decide (s1 ≤ s2) = true := by simpa using m1
    have d2 : decide (s1 ≤ s3) = true := by simpa using m2
    have d3 : decide (0 ≤ n) = true := by simpa using i1.1
    have d4 : decide (0 ≤ q - n) = true := by simp; omega
    have d5 : (n + (q - n) == q) = true := by rw [beq_iff_eq]; omega
    go_wp2
    go_ret
    exact ⟨ret_bool (by simp), hK5⟩

end Go.Proofs.Ytpkdknddncnceab
