/-
  What package age's two closures return, and cmp.Compare at integers. No condition but those that each theorem names.
-/
import Derived.Test.YtdgiljndoeldcaaGBase
namespace Go.Proofs.Ytdgiljndoeldcaa
open Go.RowKit Go.Sort
set_option linter.unusedVariables false

set_option maxHeartbeats 2000000 in
theorem cmp_any (x y : Int) (w : World) : Calls Try.prog 39 #[.int .i64 x, .int .i64 y] w fun e w' => e = .returned (.int .i64 (cmpV x y)) ∧ w = w' := by
  have nan : ∀ (z : Int), Calls Try.prog 70 #[.int .i64 z] w fun e w' => e = .returned (.bool false) ∧ w = w' := by
    intro z
    go_enter Try.func70, Try.ntmps70
    go_wp2
    go_ret
    exact ⟨rfl, rfl⟩
  have N1 := Lib.hid (nan x)
  have N2 := Lib.hid (nan y)
  clear nan
  have E := Lib.hid (show cmpV x y = if x < y then -1 else if y < x then 1 else 0 from rfl)
  generalize cmpV x y = c at *
  by_cases h : x < y
  · go_enter Try.func39, Try.ntmps39
    go_wp2_with fail
    refine N1.out.mono ?_
    rintro e w1 ⟨rfl, rfl⟩
    go_wp2_with fail
    refine N2.out.mono ?_
    rintro e w1 ⟨rfl, rfl⟩
    go_wp2
    go_ret
    exact ⟨ret_int (by rw [E.out, if_pos h]), rfl⟩
  · by_cases h2 : y < x
    · have hb : decide (x < y) = false := by simpa using h
      have H := Lib.hid h
      clear h
      go_enter Try.func39, Try.ntmps39
      go_wp2_with fail
      refine N1.out.mono ?_
      rintro e w1 ⟨rfl, rfl⟩
      go_wp2_with fail
      refine N2.out.mono ?_
      rintro e w1 ⟨rfl, rfl⟩
      go_wp2
      go_ret
      exact ⟨ret_int (by rw [E.out, if_neg (Int.not_lt.2 H.out), if_pos h2]), rfl⟩
    · obtain rfl : x = y := by omega
      have hb : decide (x < x) = false := by simp
      clear h h2
      go_enter Try.func39, Try.ntmps39
      go_wp2_with fail
      refine N1.out.mono ?_
      rintro e w1 ⟨rfl, rfl⟩
      go_wp2_with fail
      refine N2.out.mono ?_
      rintro e w1 ⟨rfl, rfl⟩
      go_wp2
      go_ret
      exact ⟨ret_int (by rw [E.out, if_neg (by omega), if_neg (by omega)]), rfl⟩

set_option maxHeartbeats 2000000 in
/-- The order of Pay. -/
theorem pay1_any (x y : Mv) (w : World) : Calls Try.prog 38 #[.agg #[.int .i64 x.1, .int .i64 x.2], .agg #[.int .i64 y.1, .int .i64 y.2]] w fun e w' => e = .returned (.int .i64 (cmpV x.1 y.1)) ∧ ∃ q os, w' = grow (w.drewN q) os := by
  go_enter Try.func38, Try.ntmps38
  go_wp2_with fail
  refine (cmp_any _ _ _).mono ?_
  rintro e w1 ⟨rfl, rfl⟩
  go_wp2
  go_ret
  exact ⟨rfl, 0, #[.cells #[.int .i64 x.1, .int .i64 x.2] 31, .cells #[.int .i64 y.1, .int .i64 y.2] 31], by
    rw [alloc_eq_grow, alloc_eq_grow, grow_grow]; rfl⟩
set_option maxHeartbeats 2000000 in
/-- What Pay leaves out. -/
theorem pay2_any (x : Mv) (w : World) : Calls Try.prog 41 #[.agg #[.int .i64 x.1, .int .i64 x.2]] w fun e w' => e = .returned (.bool (x.2 == 0)) ∧ Kept w w' := by
  go_enter Try.func41, Try.ntmps41
  go_wp2
  all_goals
    go_ret
    exact ⟨by simp_all, (Kept.refl w).alloc _⟩
theorem mixedP : Try.prog.follows .mixedOrders = true := by kernel_rfl
end Go.Proofs.Ytdgiljndoeldcaa
