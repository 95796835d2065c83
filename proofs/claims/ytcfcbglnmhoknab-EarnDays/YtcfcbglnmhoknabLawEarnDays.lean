/-
  The law EarnDays returns true: an amount that is a multiple of the number of days is earned in equal daily parts. No condition.
-/
import Derived.Test.YtcfcbglnmhoknabEWalkA
namespace Go.Proofs.Ytcfcbglnmhoknab
open Go.RowKit

theorem ok_d0 : okE 30 0 9 4 = true := by decide
theorem ea_d0 : eaV 30 0 9 4 = 15 := by decide
theorem nl_bd {n l : Int} (n0 : 0 ≤ n) (n1 : n < 1000000) (l0 : 0 ≤ l) (l1 : l ≤ 1000) : 0 ≤ n * l ∧ n * l ≤ 1000000000 := by
  have := Int.mul_nonneg n0 l0
  have : n * l ≤ 1000000 * 1000 := Int.mul_le_mul (by omega) (by omega) (by omega) (by omega)
  omega
set_option maxRecDepth 100000 in
set_option maxHeartbeats 4000000 in
theorem earnDays_walk (x0 x1 x2 x3 : Int) (w : World) :
    Calls Try.prog 5 #[.int .i64 x0, .int .i64 x1, .int .i64 x2, .int .i64 x3] w fun e w' => e = .returned (.bool true) ∧ Kept w w' := by
  go_enter Try.func5, Try.ntmps5
  go_wp2_with fail
  refine (eby_yes _ _ _ _ _ ok_d0).mono ?_
  rintro e w1 ⟨rfl, hK1⟩
  rw [ea_d0]
  go_wp2_with fail
  refine (within_any _ _ _ (by omega) (by omega)).mono ?_
  rintro e w2 ⟨f, f0, f1, rfl, rfl⟩
  go_wp2_with fail
  refine (within_any _ _ _ (by omega) (by omega)).mono ?_
  rintro e w2 ⟨l, l0, l1, rfl, rfl⟩
  go_wp2_with fail
  refine (within_any _ _ _ (by omega) (by omega)).mono ?_
  rintro e w2 ⟨n, n0, n1, rfl, rfl⟩
  go_wp2_with fail
  refine (within_any _ _ _ (by omega) (by omega)).mono ?_
  rintro e w2 ⟨d, d0, d1, rfl, rfl⟩
  have nb := nl_bd n0 n1 (show 0 ≤ 1 + l by omega) (by omega)
  have mb := nl_bd n0 n1 (show 0 ≤ d + 1 by omega) (by omega)
  have Y := Lib.hid (eby_yes (n * (1 + l)) f (f + (1 + l) - 1) (f + d) w1 ((okE_iff _ _ _ _).2 (by omega)))
  have E := Lib.hid (eaV_days (n := n) (f := f) (long := 1 + l) (at_ := d) d0 d1)
  go_wp2_with fail
  refine Y.out.mono ?_
  rintro e w2 ⟨rfl, hK2⟩
  rw [E.out]
  go_wp2
  go_ret
  exact ⟨rfl, hK1.trans hK2⟩

end Go.Proofs.Ytcfcbglnmhoknab
