/-
  The law EarnWhole returns true: nothing is earned before the first day, everything by the last day, and earnings are monotonic. No condition.
-/
import Derived.Test.YtcfcbglnmhoknabEWalkA
namespace Go.Proofs.Ytcfcbglnmhoknab
open Go.RowKit

theorem ok_w0 : okE 100 10 13 11 = true := by decide
theorem ea_w0 : eaV 100 10 13 11 = 50 := by decide
theorem okE_same {a f t c d : Int} (hc : 0 ≤ c ∧ c ≤ 292193) (hd : 0 ≤ d ∧ d ≤ 292193) : okE a f t c = okE a f t d := by
  unfold okE; rw [(dyB_iff c).2 hc, (dyB_iff d).2 hd]
/-- What the law asks at the end. -/
structure Whole (a f t c d x y : Int) : Prop where
  none : c < f → x = 0
  all : t ≤ d → y = a
  pos : 0 ≤ a → x ≤ y ∧ 0 ≤ x ∧ y ≤ a
  neg : a < 0 → y ≤ x ∧ x ≤ 0 ∧ a ≤ y
theorem whole_of {a f t c d : Int} (k : f ≤ t) (h : c ≤ d) : Whole a f t c d (eaV a f t c) (eaV a f t d) := by
  refine ⟨fun z => eaV_none z k, fun z => eaV_all z k, fun z => ⟨eaV_mono k h z, eaV_nonneg k z, eaV_le k z⟩, fun z => ?_⟩
  have p1 := eaV_mono (a := -a) k h (by omega)
  have p2 := eaV_nonneg (a := -a) (d := c) k (by omega)
  have p3 := eaV_le (a := -a) (d := d) k (by omega)
  rw [eaV_turn (a := a) (d := c) k, eaV_turn (a := a) (d := d) k]
  omega
set_option maxRecDepth 100000 in
set_option maxHeartbeats 8000000 in
/-- .. the days in their order. -/
theorem earnWhole_at (x0 x1 x2 x3 x4 F T C D : Int) (w : World) (hT : T ≤ 292193) (hC : 0 ≤ C) (hD : D ≤ 292193) (ft : F ≤ T) (cd : C ≤ D)
    (h1 : (dV x1 = F ∧ dV x2 = T) ∨ (dV x1 = T ∧ dV x2 = F)) (h2 : (dV x3 = C ∧ dV x4 = D) ∨ (dV x3 = D ∧ dV x4 = C)) :
    Calls Try.prog 3 #[.int .i64 x0, .int .i64 x1, .int .i64 x2, .int .i64 x3, .int .i64 x4] w fun e w' => e = .returned (.bool true) ∧ Kept w w' := by
  have D1 := Lib.hid (fun w => kday_any x1 w)
  have D2 := Lib.hid (fun w => kday_any x2 w)
  have D3 := Lib.hid (fun w => kday_any x3 w)
  have D4 := Lib.hid (fun w => kday_any x4 w)
  have YC := Lib.hid (fun w => eby_any x0 F T C w)
  have YD := Lib.hid (fun w => eby_any x0 F T D w)
  unfold ebV ebE at YC YD
  rw [okE_same (a := x0) (f := F) (t := T) (c := C) (d := D) ⟨hC, by omega⟩ ⟨by omega, hD⟩] at YC
  obtain ⟨q1, q2, q3, q4⟩ := whole_of (a := x0) (f := F) (t := T) (c := C) (d := D) ft cd
  generalize eaV x0 F T C = X at *
  generalize eaV x0 F T D = Z at *
  generalize okE x0 F T D = O at *
  have s1 := Lib.hid (show (C < F ∧ X = 0) ∨ F ≤ C by
    by_cases z : C < F
    · exact .inl ⟨z, q1 z⟩
    · exact .inr (by omega))
  have s2 := Lib.hid (show (T ≤ D ∧ Z = x0) ∨ D < T by
    by_cases z : T ≤ D
    · exact .inl ⟨z, q2 z⟩
    · exact .inr (by omega))
  have s3 := Lib.hid (show (0 ≤ x0 ∧ X ≤ Z ∧ 0 ≤ X ∧ Z ≤ x0) ∨ (x0 < 0 ∧ Z ≤ X ∧ X ≤ 0 ∧ x0 ≤ Z) by
    by_cases z : 0 ≤ x0
    · exact .inl ⟨z, q3 z⟩
    · exact .inr ⟨by omega, q4 (by omega)⟩)
  clear q1 q2 q3 q4
  have mn : ∀ a b c d : Int, (a = c ∧ b = d) ∨ (a = d ∧ b = c) → c ≤ d → (a < b ∧ c = a ∧ d = b) ∨ (a = b ∧ c = b ∧ c = d) ∨ (b < a ∧ d = a ∧ c = b) := by omega
  have r1 := mn _ _ _ _ h1 ft
  have r2 := mn _ _ _ _ h2 cd
  clear h1 h2 mn
  generalize dV x1 = P1 at *
  generalize dV x2 = P2 at *
  generalize dV x3 = P3 at *
  generalize dV x4 = P4 at *
  cases O
  · simp only [Bool.false_eq_true, if_false] at YC YD
    rcases r1 with ⟨k1, rfl, rfl⟩ | ⟨rfl, rfl, k1⟩ | ⟨k1, rfl, rfl⟩ <;> rcases r2 with ⟨k2, rfl, rfl⟩ | ⟨rfl, rfl, k2⟩ | ⟨k2, rfl, rfl⟩
    all_goals
      try subst k1
      try subst k2
      go_enter Try.func3, Try.ntmps3
      go_wp2_with fail
      refine (eby_yes _ _ _ _ _ ok_w0).mono ?_
      rintro e w1 ⟨rfl, hK1⟩
      rw [ea_w0]
      go_wp2_with fail
      refine (D1.out _).mono ?_
      rintro e w2 ⟨rfl, rfl⟩
      go_wp2_with fail
      refine (D2.out _).mono ?_
      rintro e w2 ⟨rfl, rfl⟩
      go_wp2_with fail
      refine (D1.out _).mono ?_
      rintro e w2 ⟨rfl, rfl⟩
      go_wp2_with fail
      refine (D2.out _).mono ?_
      rintro e w2 ⟨rfl, rfl⟩
      go_wp2_with fail
      refine (D3.out _).mono ?_
      rintro e w2 ⟨rfl, rfl⟩
      go_wp2_with fail
      refine (D4.out _).mono ?_
      rintro e w2 ⟨rfl, rfl⟩
      go_wp2_with fail
      refine (D3.out _).mono ?_
      rintro e w2 ⟨rfl, rfl⟩
      go_wp2_with fail
      refine (D4.out _).mono ?_
      rintro e w2 ⟨rfl, rfl⟩
      go_wp2_with fail
      refine (YC.out _).mono ?_
      rintro e w2 ⟨rfl, hK2⟩
      go_wp2_with fail
      refine (YD.out _).mono ?_
      rintro e w3 ⟨rfl, hK3⟩
      have hK := (hK1.trans hK2).trans hK3
      clear hK1 hK2 hK3 YC YD D1 D2 D3 D4
      go_wp2
      go_ret
      exact ⟨rfl, hK⟩
  · simp only [if_true] at YC YD
    rcases r1 with ⟨k1, rfl, rfl⟩ | ⟨rfl, rfl, k1⟩ | ⟨k1, rfl, rfl⟩ <;> rcases r2 with ⟨k2, rfl, rfl⟩ | ⟨rfl, rfl, k2⟩ | ⟨k2, rfl, rfl⟩
    all_goals
      try subst k1
      try subst k2
      go_enter Try.func3, Try.ntmps3
      go_wp2_with fail
      refine (eby_yes _ _ _ _ _ ok_w0).mono ?_
      rintro e w1 ⟨rfl, hK1⟩
      rw [ea_w0]
      go_wp2_with fail
      refine (D1.out _).mono ?_
      rintro e w2 ⟨rfl, rfl⟩
      go_wp2_with fail
      refine (D2.out _).mono ?_
      rintro e w2 ⟨rfl, rfl⟩
      go_wp2_with fail
      refine (D1.out _).mono ?_
      rintro e w2 ⟨rfl, rfl⟩
      go_wp2_with fail
      refine (D2.out _).mono ?_
      rintro e w2 ⟨rfl, rfl⟩
      go_wp2_with fail
      refine (D3.out _).mono ?_
      rintro e w2 ⟨rfl, rfl⟩
      go_wp2_with fail
      refine (D4.out _).mono ?_
      rintro e w2 ⟨rfl, rfl⟩
      go_wp2_with fail
      refine (D3.out _).mono ?_
      rintro e w2 ⟨rfl, rfl⟩
      go_wp2_with fail
      refine (D4.out _).mono ?_
      rintro e w2 ⟨rfl, rfl⟩
      go_wp2_with fail
      refine (YC.out _).mono ?_
      rintro e w2 ⟨rfl, hK2⟩
      go_wp2_with fail
      refine (YD.out _).mono ?_
      rintro e w3 ⟨rfl, hK3⟩
      have hK := (hK1.trans hK2).trans hK3
      clear hK1 hK2 hK3 YC YD D1 D2 D3 D4
      have u1 := s1.out
      have u2 := s2.out
      have u3 := s3.out
      clear s1 s2 s3
      rcases u1 with ⟨u1, rfl⟩ | u1 <;> rcases u2 with ⟨u2, rfl⟩ | u2 <;> rcases u3 with ⟨u3, u4, u5, u6⟩ | ⟨u3, u4, u5, u6⟩
      all_goals
        go_wp2
        all_goals
          go_ret
          exact ⟨rfl, hK⟩
theorem earnWhole_walk (x0 x1 x2 x3 x4 : Int) (w : World) :
    Calls Try.prog 3 #[.int .i64 x0, .int .i64 x1, .int .i64 x2, .int .i64 x3, .int .i64 x4] w fun e w' => e = .returned (.bool true) ∧ Kept w w' := by
  have b1 := dV_bd x1
  have b2 := dV_bd x2
  have b3 := dV_bd x3
  have b4 := dV_bd x4
  obtain ⟨F, T, _, t1, ft, h1⟩ : ∃ F T, 0 ≤ F ∧ T ≤ 292193 ∧ F ≤ T ∧ ((dV x1 = F ∧ dV x2 = T) ∨ (dV x1 = T ∧ dV x2 = F)) := by
    by_cases c : dV x1 ≤ dV x2
    · exact ⟨_, _, b1.1, b2.2, c, .inl ⟨rfl, rfl⟩⟩
    · exact ⟨_, _, b2.1, b1.2, by omega, .inr ⟨rfl, rfl⟩⟩
  obtain ⟨C, D, c0, d1, cd, h2⟩ : ∃ F T, 0 ≤ F ∧ T ≤ 292193 ∧ F ≤ T ∧ ((dV x3 = F ∧ dV x4 = T) ∨ (dV x3 = T ∧ dV x4 = F)) := by
    by_cases c : dV x3 ≤ dV x4
    · exact ⟨_, _, b3.1, b4.2, c, .inl ⟨rfl, rfl⟩⟩
    · exact ⟨_, _, b4.1, b3.2, by omega, .inr ⟨rfl, rfl⟩⟩
  exact earnWhole_at x0 x1 x2 x3 x4 F T C D w t1 c0 d1 ft cd h1 h2

end Go.Proofs.Ytcfcbglnmhoknab
