/-
  The law EarnTurned returns true: negating the amount negates the earnings. No condition.
-/
import Derived.Test.YtcfcbglnmhoknabEWalkA
namespace Go.Proofs.Ytcfcbglnmhoknab
open Go.RowKit

theorem ok_t0 : okE (-3) 0 1 0 = true := by decide
theorem ea_t0 : eaV (-3) 0 1 0 = -2 := by decide
set_option maxRecDepth 100000 in
set_option maxHeartbeats 4000000 in
/-- .. the days in their order. -/
theorem earnTurned_at (x0 x1 x2 x3 F T : Int) (w : World) (hF : 0 ≤ F) (hT : T ≤ 292193) (ft : F ≤ T) (h1 : (dV x1 = F ∧ dV x2 = T) ∨ (dV x1 = T ∧ dV x2 = F)) :
    Calls Try.prog 4 #[.int .i64 x0, .int .i64 x1, .int .i64 x2, .int .i64 x3] w fun e w' => e = .returned (.bool true) ∧ Kept w w' := by
  have D1 := Lib.hid (fun w => kday_any x1 w)
  have D2 := Lib.hid (fun w => kday_any x2 w)
  have D3 := Lib.hid (fun w => kday_any x3 w)
  have D0 := Lib.hid (fun w => wN_any x0 2000000000001 w (by omega) (by omega))
  have b3 := dV_bd x3
  have b0 := wN_bd x0 2000000000001 (by omega)
  have r1 : (dV x1 < dV x2 ∧ dV x1 = F ∧ dV x2 = T) ∨ (dV x1 = dV x2 ∧ dV x2 = F ∧ F = T) ∨ (dV x2 < dV x1 ∧ dV x1 = T ∧ dV x2 = F) := by omega
  clear h1
  generalize dV x1 = P1 at *
  generalize dV x2 = P2 at *
  generalize dV x3 = D at *
  generalize wN x0 2000000000001 = A0 at *
  obtain ⟨A, hA⟩ : ∃ A, A0 - 1000000000000 = A := ⟨_, rfl⟩
  obtain rfl : A0 = A + 1000000000000 := by omega
  clear hA
  have Y := Lib.hid (fun w => eby_yes A F T D w ((okE_iff _ _ _ _).2 (by omega)))
  have Z := Lib.hid (fun w => eby_yes (-A) F T D w ((okE_iff _ _ _ _).2 (by omega)))
  have vb := eaV_bd (a := A) (f := F) (t := T) (d := D) ft 1000000000000 (by omega) (by omega)
  rw [eaV_neg ft] at Z
  generalize eaV A F T D = V at *
  rcases r1 with ⟨k1, rfl, rfl⟩ | ⟨rfl, rfl, k1⟩ | ⟨k1, rfl, rfl⟩
  all_goals
    try subst k1
    go_enter Try.func4, Try.ntmps4
    go_wp2_with fail
    refine (eby_yes _ _ _ _ _ ok_t0).mono ?_
    rintro e w1 ⟨rfl, hK1⟩
    rw [ea_t0]
    go_wp2_with fail
    refine (D1.out _).mono ?_
    rintro e w2 ⟨rfl, rfl⟩
    go_wp2_with fail
    refine (D2.out _).mono ?_
    rintro e w2 ⟨rfl, rfl⟩
    go_wp2_with fail
    refine (D1.out _).mono ?_
    rintro e w2 ⟨rfl, rfl⟩
    go_wp2_with fail
    refine (D2.out _).mono ?_
    rintro e w2 ⟨rfl, rfl⟩
    go_wp2_with fail
    refine (D0.out _).mono ?_
    rintro e w2 ⟨rfl, rfl⟩
    go_wp2_with fail
    refine (D3.out _).mono ?_
    rintro e w2 ⟨rfl, rfl⟩
    go_wp2_with fail
    refine (Y.out _).mono ?_
    rintro e w2 ⟨rfl, hK2⟩
    go_wp2_with fail
    refine (Z.out _).mono ?_
    rintro e w3 ⟨rfl, hK3⟩
    go_wp2
    go_ret
    exact ⟨rfl, (hK1.trans hK2).trans hK3⟩
theorem earnTurned_walk (x0 x1 x2 x3 : Int) (w : World) :
    Calls Try.prog 4 #[.int .i64 x0, .int .i64 x1, .int .i64 x2, .int .i64 x3] w fun e w' => e = .returned (.bool true) ∧ Kept w w' := by
  have b1 := dV_bd x1
  have b2 := dV_bd x2
  by_cases c : dV x1 ≤ dV x2
  · exact earnTurned_at x0 x1 x2 x3 (dV x1) (dV x2) w (by omega) (by omega) c (.inl ⟨rfl, rfl⟩)
  · exact earnTurned_at x0 x1 x2 x3 (dV x2) (dV x1) w (by omega) (by omega) (by omega) (.inr ⟨rfl, rfl⟩)

end Go.Proofs.Ytcfcbglnmhoknab
