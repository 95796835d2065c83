/-
  The law MoneyTwice returns true: a share, and a share of what is left, are no more than all. No condition.
-/
import Derived.Test.YtpkdknddncnceabMWalkA
namespace Go.Proofs.Ytpkdknddncnceab
open Go.RowKit

theorem shV_in {a r way : Int} (a0 : 0 ≤ a) (r0 : 0 ≤ r) (r1 : r ≤ 1000000) (w0 : 0 ≤ way) (w3 : way ≤ 3) : 0 ≤ shV a r way ∧ shV a r way ≤ a := by
  unfold shV
  exact ⟨rnd_nonneg _ _ _ (by omega) (Int.mul_nonneg a0 r0) w0 w3, rnd_le _ _ _ _ (by omega) (Int.mul_le_mul_of_nonneg_left r1 a0) w0 w3⟩
set_option maxRecDepth 100000 in
set_option maxHeartbeats 4000000 in
theorem moneyTwice_walk (P A B W : Int) (w : World) :
    Calls Try.prog 8 #[.int .i64 P, .int .i64 A, .int .i64 B, .int .i64 W] w fun e w' => e = .returned (.bool true) ∧ Kept w w' := by
  have T := Lib.hid (show shV (-5) 500000 0 = -3 by decide)
  go_enter Try.func8, Try.ntmps8
  go_wp2_with fail
  refine (share_yes _ _ _ _ (by decide)).mono ?_
  rintro e w1 ⟨rfl, hK1⟩
  rw [T.out]
  clear T
  go_wp2_with fail
  refine (within_any _ _ _ (by omega) (by omega)).mono ?_
  rintro e w2 ⟨p, p0, p1, rfl, rfl⟩
  go_wp2_with fail
  refine (within_any _ _ _ (by omega) (by omega)).mono ?_
  rintro e w2 ⟨a, a0, a1, rfl, rfl⟩
  go_wp2_with fail
  refine (within_any _ _ _ (by omega) (by omega)).mono ?_
  rintro e w2 ⟨b, b0, b1, rfl, rfl⟩
  go_wp2_with fail
  refine (within_any _ _ _ (by omega) (by omega)).mono ?_
  rintro e w2 ⟨y, y0, y1, rfl, rfl⟩
  have O1 := Lib.hid ((okM_iff p a y).2 ⟨by omega, by omega, by omega, by omega⟩)
  have s1 := shV_in (way := y) p0 a0 (by omega) y0 (by omega)
  go_wp2_with fail
  refine (share_yes _ _ _ _ O1.out).mono ?_
  rintro e w2 ⟨rfl, hK⟩
  have hK2 := hK1.trans hK
  clear hK1 hK
  generalize shV p a y = s at *
  have O2 := Lib.hid ((okM_iff (p - s) b y).2 ⟨by omega, by omega, by omega, by omega⟩)
  have s2 := shV_in (a := p - s) (r := b) (way := y) (by omega) b0 (by omega) y0 (by omega)
  go_wp2_with fail
  refine (share_yes _ _ _ _ O2.out).mono ?_
  rintro e w3 ⟨rfl, hK⟩
  have hK3 := hK2.trans hK
  clear hK2 hK
  generalize shV (p - s) b y = t at *
  have d1 : decide (0 ≤ s) = true := by simpa using s1.1
  have d2 : decide (s ≤ p) = true := by simpa using s1.2
  have d3 : decide (0 ≤ t) = true := by simpa using s2.1
  have d4 : decide (s + t ≤ p) = true := by simp; omega
  go_wp2
  go_ret
  exact ⟨ret_bool (by simp), hK3⟩

end Go.Proofs.Ytpkdknddncnceab
