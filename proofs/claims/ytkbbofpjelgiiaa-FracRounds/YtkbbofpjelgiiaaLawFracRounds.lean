/-
  The law FracRounds returns true: whatever is handed in, Cmp and Round answer what the document says. No condition.
-/
import Derived.Test.YtkbbofpjelgiiaaFWalkU
import Derived.Test.YtkbbofpjelgiiaaFWalkT
import Derived.Test.YtkbbofpjelgiiaaFMathC
namespace Go.Proofs.Ytkbbofpjelgiiaa
open Go.RowKit

/-- Whatever is handed in, Round returns a number and an error. -/
def rV (n d way : Int) : Int := if okB n d = true ∧ 0 ≤ way ∧ way ≤ 3 then rnd n d way else 0
def rE (n d way : Int) : Int := if okB n d = true then (if 0 ≤ way ∧ way ≤ 3 then 0 else 1) else chk n d
theorem round_all (n d way : Int) (w : World) :
    Calls Try.prog 21 #[fr2 n d, .int .i64 way] w fun e w' => e = .returned (.tuple #[.int .i64 (rV n d way), .int .i64 (rE n d way)]) ∧ Kept w w' := by
  unfold rV rE
  cases h : okB n d
  · simpa using round_no n d way w h
  · by_cases hw : 0 ≤ way ∧ way ≤ 3
    · rw [if_pos ⟨rfl, hw⟩, if_pos rfl, if_pos hw]
      exact round_yes n d way w h hw.1 hw.2
    · rw [if_neg (fun z => hw z.2), if_pos rfl, if_neg hw]
      exact round_bad n d way w h (by omega)

set_option maxRecDepth 100000 in
set_option maxHeartbeats 4000000 in
theorem fracRounds_walk (a b c d v : Int) (w : World) :
    Calls Try.prog 4 #[fr2 a b, fr2 c d, .int .i64 v] w fun e w' => e = .returned (.bool true) ∧ Kept w w' := by
  go_enter Try.func4, Try.ntmps4
  go_wp2_with fail
  obtain ⟨hA, hB, hK⟩ := two_new w a b c d 23
  generalize ((w.alloc (.cells #[.int .i64 a, .int .i64 b] 23)).alloc (.cells #[.int .i64 c, .int .i64 d] 23)) = W at *
  obtain ⟨lt_f, c0_f, c1_f, f0_f, f1_f⟩ := id hA
  obtain ⟨lt_g, c0_g, c1_g, f0_g, f1_g⟩ := id hB
  refine (cmp_any _ _ _ _ _).mono ?_
  rintro e w1 ⟨rfl, hk1⟩
  clear lt_f c0_f c1_f f0_f f1_f lt_g c0_g c1_g f0_g f1_g
  have h_f1 := hA.later hk1
  have h_g1 := hB.later hk1
  have hK1 := hK.trans hk1
  clear hA hB hK hk1
  generalize hX : (if chk2 a b c d = 0 then cmpV (a * d) (c * b) else 0) = X
  have HX := Lib.hid hX
  clear hX
  obtain ⟨lt_f, c0_f, c1_f, f0_f, f1_f⟩ := id h_f1
  go_wp2_with fail
  refine (round_all _ _ _ _).mono ?_
  rintro e w2 ⟨rfl, hk2⟩
  clear lt_f c0_f c1_f f0_f f1_f
  have h_f2 := h_f1.later hk2
  have h_g2 := h_g1.later hk2
  have hK2 := hK1.trans hk2
  clear h_f1 h_g1 hK1 hk2
  obtain ⟨lt_f, c0_f, c1_f, f0_f, f1_f⟩ := id h_f2
  obtain ⟨lt_g, c0_g, c1_g, f0_g, f1_g⟩ := id h_g2
  go_wp2_with fail
  clear lt_f c0_f c1_f f0_f f1_f lt_g c0_g c1_g f0_g f1_g
  go_cut [11, 12] (fun one two wx => Two w a b c d one two wx)
  case first =>
    go_region_held3 (fun w' => Kept w2 w' ∧ w'.cell? ⟨w.heap.size, 0, none⟩ = some (.int .i64 a) ∧ w'.cell? ⟨w.heap.size, 1, none⟩ = some (.int .i64 b) ∧ w'.cell? ⟨w.heap.size + 1, 0, none⟩ = some (.int .i64 c) ∧ w'.cell? ⟨w.heap.size + 1, 1, none⟩ = some (.int .i64 d))
      (first | exact two_keep h_f2 h_g2 (Kept.refl _).drew | exact two_keep h_f2 h_g2 ((Kept.refl _).alloc _).drew | exact two_keep h_f2 h_g2 (((Kept.refl _).alloc _).alloc _).drew | exact two_keep h_f2 h_g2 hKx | exact two_keep h_f2 h_g2 (hKx.alloc _) | exact two_keep h_f2 h_g2 (Kept.alloc (And.left (by assumption)) _))
      (first | (go_at_call 15; (first | ((with_reducible refine (rfrac_at1 a b _ _ ?_).mono ?_); (first | exact (rowfr_1p (by simp)).drew | exact ((rowfr_1p (by simp)).later ((Kept.refl _).alloc _)).drew); rintro e w' ⟨rfl, hk9⟩; have hKx := Kept.trans (a := w2) (by first | exact ((Kept.refl _).alloc _).drew | exact (((Kept.refl _).alloc _).alloc _).drew) hk9) | ((with_reducible refine (rfrac_at2 a b c d _ _ ?_).mono ?_); (first | exact rowfr_2p (by simp) | exact RowFr.later (rowfr_2p (by simp)).drew hk9 | exact RowFr.later ((rowfr_2p (by simp)).later ((Kept.refl _).alloc _)).drew hk9); rintro e w' ⟨rfl, hk9⟩; have hKx := Kept.trans (a := w2) (by first | exact hKx | exact hKx.alloc _) hk9))))
    all_goals go_wp2_with fail
    all_goals go_meet
    all_goals exact ⟨rfl, rfl, h_f2.later hKx, h_g2.later hKx, hK2.trans hKx⟩
  case rest =>
    obtain ⟨rfl, rfl, hA5, hB5, hK5⟩ := hcut
    obtain ⟨V, rfl⟩ : ∃ V : World, V = wc := ⟨_, rfl⟩
    clear h_f2 h_g2 hK2
    cases ho : okB a b
    · have cz : (chk2 a b c d == 0) = false := by rw [beq_eq_false_iff_ne]; exact chk2_ne (.inl ho)
      have c1 : (chk a b == 0) = false := by have := chk_ne ho; simpa using this
      have c2 := chk_ne ho
      have hx : X = 0 := by rw [← HX.out, if_neg (chk2_ne (.inl ho))]
      have hv : rV a b v = 0 := by unfold rV; rw [ho]; simp
      have he : rE a b v = chk a b := by unfold rE; rw [ho]; simp
      subst hx
      rw [hv, he]
      clear ho hv he HX
      go_wp2
      go_ret
      exact ⟨rfl, hK5⟩
    · obtain ⟨h1, h2, h3, h4⟩ := (ok_iff a b).1 ho
      rw [chk_ok ho]
      have HR : Hid (rV a b v = (if 0 ≤ v ∧ v ≤ 3 then rnd a b v else 0) ∧ rE a b v = (if 0 ≤ v ∧ v ≤ 3 then 0 else 1)) := by
        refine ⟨?_, ?_⟩
        · unfold rV; rw [ho]; simp
        · unfold rE; rw [ho]; simp
      rw [HR.out.1, HR.out.2]
      clear HR
      obtain ⟨lt_f, c0_f, c1_f, f0_f, f1_f⟩ := id hA5
      obtain ⟨lt_g, c0_g, c1_g, f0_g, f1_g⟩ := id hB5
      cases hp : okB c d
      · have e2 : chk2 a b c d = chk c d := chk2_yes ho
        have cz : (chk c d == 0) = false := by have := chk_ne hp; simpa using this
        have c2 := chk_ne hp
        have hx : X = 0 := by rw [← HX.out, if_neg (chk2_ne (.inr hp))]
        subst hx
        rw [e2]
        clear ho hp HX e2
        by_cases hw : 0 ≤ v ∧ v ≤ 3
        · obtain ⟨w0, w3⟩ := hw
          rw [if_pos ⟨w0, w3⟩, if_pos ⟨w0, w3⟩]
          go_wp2_with fail
          refine (rround_any _ _ _ _ h1 h2 h3 h4 w0 w3).mono ?_
          rintro e w9 ⟨rfl, rfl⟩
          go_wp2
          go_ret
          exact ⟨ret_bool (by simp), hK5⟩
        · rw [if_neg hw, if_neg hw]
          rcases (show v < 0 ∨ (¬ v < 0 ∧ 3 < v) by omega) with u | ⟨u, u'⟩
          · clear hw
            go_wp2
            go_ret
            exact ⟨rfl, hK5⟩
          · have ub : decide (v < 0) = false := by simpa using u
            clear hw u
            go_wp2
            go_ret
            exact ⟨rfl, hK5⟩
      · obtain ⟨h5, h6, h7, h8⟩ := (ok_iff c d).1 hp
        have e2 : chk2 a b c d = 0 := (chk2_iff a b c d).2 ⟨ho, hp⟩
        have hx := HX.out
        rw [if_pos e2] at hx
        rw [e2]
        have m1 := mul_abs a d _ _ h1 h2 (show -1000000 ≤ d by omega) h8
        have m2 := mul_abs c b _ _ h5 h6 (show -1000000 ≤ b by omega) h4
        have CX : Hid ((a * d - c * b < 0 ∧ X = -1) ∨ (¬ a * d - c * b < 0 ∧ 0 < a * d - c * b ∧ X = 1) ∨ (¬ a * d - c * b < 0 ∧ ¬ 0 < a * d - c * b ∧ X = 0)) := by
          rw [← hx]; unfold cmpV
          show _ ∨ _ ∨ _
          by_cases z1 : a * d < c * b
          · left; rw [if_pos z1]; omega
          · rw [if_neg z1]
            by_cases z2 : c * b < a * d
            · right; left; rw [if_pos z2]; omega
            · right; right; rw [if_neg z2]; omega
        clear ho hp HX e2 hx
        rcases CX.out with ⟨x1, rfl⟩ | ⟨x1, x2, rfl⟩ | ⟨x1, x2, rfl⟩
        all_goals try (have y1 : decide (a * d - c * b < 0) = false := by simpa using x1)
        all_goals try (have y2 : decide (0 < a * d - c * b) = false := by simpa using x2)
        all_goals clear CX
        all_goals
          by_cases hw : 0 ≤ v ∧ v ≤ 3
          · obtain ⟨w0, w3⟩ := hw
            rw [if_pos ⟨w0, w3⟩, if_pos ⟨w0, w3⟩]
            go_wp2_with fail
            refine (rround_any _ _ _ _ h1 h2 h3 h4 w0 w3).mono ?_
            rintro e w9 ⟨rfl, rfl⟩
            go_wp2
            go_ret
            exact ⟨ret_bool (by simp), hK5⟩
          · rw [if_neg hw, if_neg hw]
            rcases (show v < 0 ∨ (¬ v < 0 ∧ 3 < v) by omega) with u | ⟨u, u'⟩
            · clear hw
              go_wp2
              go_ret
              exact ⟨rfl, hK5⟩
            · have ub : decide (v < 0) = false := by simpa using u
              clear hw u
              go_wp2
              go_ret
              exact ⟨rfl, hK5⟩

end Go.Proofs.Ytkbbofpjelgiiaa
