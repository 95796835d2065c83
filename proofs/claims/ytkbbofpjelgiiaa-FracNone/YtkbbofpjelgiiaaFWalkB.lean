/-
  What Norm, Add and Mul of package frac return: in lowest terms, if these may be. No condition.
-/
import Derived.Test.YtkbbofpjelgiiaaFWalkA
import Derived.Deep.DeepCutAuto
namespace Go.Proofs.Ytkbbofpjelgiiaa
open Go.RowKit

set_option maxHeartbeats 400000 in
theorem norm_no (n d : Int) (w : World) (h : okB n d = false) :
    Calls Try.prog 12 #[fr2 n d] w fun e w' => e = .returned (.tuple #[fr2 0 0, .int .i64 (chk n d)]) ∧ Kept w w' := by
  have hn : (chk n d != 0) = true := by
    rw [bne_iff_ne]; intro e; rw [chk_iff, h] at e; cases e
  clear h
  go_enter Try.func12, Try.ntmps12
  go_wp2_with fail
  refine (check_any _ _ _).mono ?_
  rintro e w1 ⟨rfl, hk1⟩
  obtain ⟨hA, hB, hK⟩ := two_new w n d 0 0 23
  obtain ⟨lt', z0, z1, g0, g1⟩ := hB.later hk1
  have hk := hK.trans hk1
  clear hA hB hK hk1
  go_wp2
  exact bodyPost_ret (v := .tuple #[fr2 0 0, .int .i64 (chk n d)]) (by simp [results, Try.results12, go_sem, z0, z1]) rfl ⟨rfl, (hk.setAt (by omega) _).setAt (by omega) _⟩

set_option maxHeartbeats 400000 in
theorem norm_yes (n d : Int) (w : World) (h : okB n d = true) :
    Calls Try.prog 12 #[fr2 n d] w fun e w' => e = .returned (.tuple #[fr2 (lN n d) (lD n d), .int .i64 0]) ∧ Kept w w' := by
  have H := Lib.hid (chk_ok h)
  obtain ⟨h1, h2, h3, h4⟩ := (ok_iff n d).1 h
  clear h
  go_enter Try.func12, Try.ntmps12
  go_wp2_with fail
  refine (check_any _ _ _).mono ?_
  rintro e w1 ⟨rfl, hk1⟩
  rw [H.out]
  obtain ⟨hA, hB, hK⟩ := two_new w n d 0 0 23
  obtain ⟨lt, c0, c1, f0, f1⟩ := hA.later hk1
  have hB1 := hB.later hk1
  have hk := hK.trans hk1
  clear hA hB hK hk1
  go_wp2_with fail
  refine (lowest_any _ _ _ (by omega) (by omega) (by omega) (by omega)).mono ?_
  rintro e w2 ⟨rfl, hk2⟩
  clear lt c0 c1 f0 f1
  obtain ⟨lt', z0, z1, g0, g1⟩ := hB1.later hk2
  have hk' := hk.trans hk2
  clear hB1 hk hk2
  go_wp2
  exact bodyPost_ret (v := .tuple #[fr2 (lN n d) (lD n d), .int .i64 0]) (by simp [results, Try.results12, go_sem, z0, z1]) rfl ⟨rfl, (hk'.setAt (by omega) _).setAt (by omega) _⟩

/-- Three boxes: two that came in, and the result's. -/
theorem three_new (w : World) (a b c d e f : Int) (t : TypeId) :
    Box2 (((w.alloc (.cells #[.int .i64 a, .int .i64 b] t)).alloc (.cells #[.int .i64 c, .int .i64 d] t)).alloc (.cells #[.int .i64 e, .int .i64 f] t)) w.heap.size a b ∧ Box2 (((w.alloc (.cells #[.int .i64 a, .int .i64 b] t)).alloc (.cells #[.int .i64 c, .int .i64 d] t)).alloc (.cells #[.int .i64 e, .int .i64 f] t)) (w.heap.size + 1) c d ∧ Box2 (((w.alloc (.cells #[.int .i64 a, .int .i64 b] t)).alloc (.cells #[.int .i64 c, .int .i64 d] t)).alloc (.cells #[.int .i64 e, .int .i64 f] t)) (w.heap.size + 2) e f ∧ Kept w (((w.alloc (.cells #[.int .i64 a, .int .i64 b] t)).alloc (.cells #[.int .i64 c, .int .i64 d] t)).alloc (.cells #[.int .i64 e, .int .i64 f] t)) :=
  ⟨((Box2.new rfl).alloc _).alloc _, (Box2.new (by simp)).alloc _, Box2.new (by simp), (((Kept.refl w).alloc _).alloc _).alloc _⟩

set_option maxHeartbeats 400000 in
theorem add_no (a b c d : Int) (w : World) (h : chk2 a b c d ≠ 0) :
    Calls Try.prog 13 #[fr2 a b, fr2 c d] w fun e w' => e = .returned (.tuple #[fr2 0 0, .int .i64 (chk2 a b c d)]) ∧ Kept w w' := by
  have hn : (chk2 a b c d != 0) = true := by simpa using h
  clear h
  go_enter Try.func13, Try.ntmps13
  go_wp2_with fail
  refine (checkBoth_any _ _ _ _ _).mono ?_
  rintro e w1 ⟨rfl, hk1⟩
  obtain ⟨hA, hB, hC, hK⟩ := three_new w a b c d 0 0 23
  obtain ⟨lt', z0, z1, g0, g1⟩ := hC.later hk1
  have hk := hK.trans hk1
  clear hA hB hC hK hk1
  go_wp2
  exact bodyPost_ret (v := .tuple #[fr2 0 0, .int .i64 (chk2 a b c d)]) (by simp [results, Try.results13, go_sem, z0, z1]) rfl ⟨rfl, (hk.setAt (by omega) _).setAt (by omega) _⟩

set_option maxHeartbeats 1000000 in
theorem add_yes (a b c d : Int) (w : World) (h : okB a b = true) (h' : okB c d = true) :
    Calls Try.prog 13 #[fr2 a b, fr2 c d] w fun e w' => e = .returned (.tuple #[fr2 (bN (sN a b c d) (sD a b c d)) (bD (sN a b c d) (sD a b c d)), .int .i64 (bE (sN a b c d) (sD a b c d))]) ∧ Kept w w' := by
  have H := Lib.hid ((chk2_iff a b c d).2 ⟨h, h'⟩)
  obtain ⟨h1, h2, h3, h4⟩ := (ok_iff a b).1 h
  obtain ⟨h5, h6, h7, h8⟩ := (ok_iff c d).1 h'
  have m1 := mul_abs a d _ _ h1 h2 (show -1000000 ≤ d by omega) h8
  have m2 := mul_abs c b _ _ h5 h6 (show -1000000 ≤ b by omega) h4
  have m3 := mul_abs b d _ _ (show -1000000 ≤ b by omega) h4 (show -1000000 ≤ d by omega) h8
  have m4 : 1 * 1 ≤ b * d := Int.mul_le_mul h3 h7 (by omega) (by omega)
  have S := Lib.hid (sum_low a b c d h3 h7)
  clear h h'
  go_enter Try.func13, Try.ntmps13
  go_wp2_with fail
  refine (checkBoth_any _ _ _ _ _).mono ?_
  rintro e w1 ⟨rfl, hk1⟩
  rw [H.out]
  obtain ⟨hA, hB, hC, hK⟩ := three_new w a b c d 0 0 23
  obtain ⟨lt, c0, c1, f0, f1⟩ := hA.later hk1
  obtain ⟨lt', d0, d1, f0', f1'⟩ := hB.later hk1
  have hC1 := hC.later hk1
  have hk := hK.trans hk1
  clear hA hB hC hK hk1
  go_wp2_with fail
  refine (lowest_any _ _ _ (by omega) (by omega) (by omega) (by omega)).mono ?_
  rintro e w2 ⟨rfl, hk2⟩
  rw [S.out.1, S.out.2]
  clear lt c0 c1 f0 f1 lt' d0 d1 f0' f1'
  have hC2 := hC1.later hk2
  have hk' := hk.trans hk2
  clear hC1 hk hk2 m1 m2 m3 m4 S
  go_wp2_with fail
  refine (bounded_any _ _ _).mono ?_
  rintro e w3 ⟨rfl, hk3⟩
  obtain ⟨lt', z0, z1, g0, g1⟩ := hC2.later hk3
  have hk4 := hk'.trans hk3
  clear hC2 hk' hk3
  go_wp2
  exact bodyPost_ret (v := .tuple #[fr2 (bN (sN a b c d) (sD a b c d)) (bD (sN a b c d) (sD a b c d)), .int .i64 (bE (sN a b c d) (sD a b c d))]) (by simp [results, Try.results13, go_sem, z0, z1]) rfl ⟨rfl, (hk4.setAt (by omega) _).setAt (by omega) _⟩

set_option maxHeartbeats 400000 in
theorem mul_no (a b c d : Int) (w : World) (h : chk2 a b c d ≠ 0) :
    Calls Try.prog 14 #[fr2 a b, fr2 c d] w fun e w' => e = .returned (.tuple #[fr2 0 0, .int .i64 (chk2 a b c d)]) ∧ Kept w w' := by
  have hn : (chk2 a b c d != 0) = true := by simpa using h
  clear h
  go_enter Try.func14, Try.ntmps14
  go_wp2_with fail
  refine (checkBoth_any _ _ _ _ _).mono ?_
  rintro e w1 ⟨rfl, hk1⟩
  obtain ⟨hA, hB, hC, hK⟩ := three_new w a b c d 0 0 23
  obtain ⟨lt', z0, z1, g0, g1⟩ := hC.later hk1
  have hk := hK.trans hk1
  clear hA hB hC hK hk1
  go_wp2
  exact bodyPost_ret (v := .tuple #[fr2 0 0, .int .i64 (chk2 a b c d)]) (by simp [results, Try.results14, go_sem, z0, z1]) rfl ⟨rfl, (hk.setAt (by omega) _).setAt (by omega) _⟩

/-- The three boxes of Mul, behind its first lines. -/
def Mul3 (w : World) (a b c d : Int) (s6 : Value) (wx : World) : Prop :=
  s6 = .int .i64 0 ∧ Box2 wx w.heap.size a b ∧ Box2 wx (w.heap.size + 1) c d ∧ Box2 wx (w.heap.size + 2) 0 0 ∧ Kept w wx

theorem mul3_set {w w' : World} {a b c d a' b' c' d' : Int} (hA : Box2 w' w.heap.size a b) (hB : Box2 w' (w.heap.size + 1) c d) (hC : Box2 w' (w.heap.size + 2) 0 0) (hK : Kept w w') :
    Mul3 w a' b' c' d' (.int .i64 0) ((((w'.setCell ⟨w.heap.size, 0, none⟩ (.int .i64 a')).setCell ⟨w.heap.size, 1, none⟩ (.int .i64 b')).setCell ⟨w.heap.size + 1, 0, none⟩ (.int .i64 c')).setCell ⟨w.heap.size + 1, 1, none⟩ (.int .i64 d')) :=
  ⟨rfl, (hA.set.other (by omega)).other (by omega), ((hB.other (by omega)).other (by omega)).set, (((hC.other (by omega)).other (by omega)).other (by omega)).other (by omega), (((hK.setAt (by omega) _).setAt (by omega) _).setAt (by omega) _).setAt (by omega) _⟩
/-- The four numbers of a product, crosswise, under names. -/
theorem cross_low' (a b c d : Int) : ∃ X XD Y YD : Int, (lN (lN a b) (lD c d) = X ∧ lD (lN a b) (lD c d) = XD) ∧ (lN (lN c d) (lD a b) = Y ∧ lD (lN c d) (lD a b) = YD) ∧ X * Y = pN a b c d ∧ XD * YD = pD a b c d :=
  ⟨_, _, _, _, ⟨rfl, rfl⟩, ⟨rfl, rfl⟩, (cross_low a b c d).1, (cross_low a b c d).2⟩

set_option maxHeartbeats 4000000 in
theorem mul_yes (a b c d : Int) (w : World) (h : okB a b = true) (h' : okB c d = true) :
    Calls Try.prog 14 #[fr2 a b, fr2 c d] w fun e w' => e = .returned (.tuple #[fr2 (bN (pN a b c d) (pD a b c d)) (bD (pN a b c d) (pD a b c d)), .int .i64 (bE (pN a b c d) (pD a b c d))]) ∧ Kept w w' := by
  have H := Lib.hid ((chk2_iff a b c d).2 ⟨h, h'⟩)
  obtain ⟨h1, h2, h3, h4⟩ := (ok_iff a b).1 h
  obtain ⟨h5, h6, h7, h8⟩ := (ok_iff c d).1 h'
  have o1 := (ok_iff _ _).1 (low_ok h)
  have o2 := (ok_iff _ _).1 (low_ok h')
  clear h h'
  go_enter Try.func14, Try.ntmps14
  go_wp2_with fail
  refine (checkBoth_any _ _ _ _ _).mono ?_
  rintro e w1 ⟨rfl, hk1⟩
  rw [H.out]
  obtain ⟨hA, hB, hC, hK⟩ := three_new w a b c d 0 0 23
  have hA1 := hA.later hk1
  have hB1 := hB.later hk1
  have hC1 := hC.later hk1
  have hk := hK.trans hk1
  clear hA hB hC hK hk1
  go_wp2_with fail
  go_cut [6] (fun s6 wx => Mul3 w (lN a b) (lD a b) (lN c d) (lD c d) s6 wx)
  case first =>
    obtain ⟨lt, c0, c1, f0, f1⟩ := id hA1
    obtain ⟨lt', d0, d1, f0', f1'⟩ := id hB1
    go_region_with (first | (go_at_call 27; refine (lowest_any _ _ _ (by omega) (by omega) (by omega) (by omega)).mono ?_; rintro e w' ⟨rfl, hk9⟩; have hKx := Kept.trans (a := w) (by first | assumption | exact Kept.drew (by assumption)) hk9; have hAx := Box2.later (p := w.heap.size) (n := a) (d := b) (by first | assumption | exact Box2.drew (by assumption)) hk9; have hBx := Box2.later (p := w.heap.size + 1) (n := c) (d := d) (by first | assumption | exact Box2.drew (by assumption)) hk9; have hCx := Box2.later (p := w.heap.size + 2) (n := 0) (d := 0) (by first | assumption | exact Box2.drew (by assumption)) hk9; clear hk9; obtain ⟨lt, c0, c1, f0, f1⟩ := id hAx; obtain ⟨lt', d0, d1, f0', f1'⟩ := id hBx))
    all_goals go_wp2_with fail
    all_goals go_meet
    all_goals exact mul3_set hAx hBx hCx hKx
  case rest =>
    obtain ⟨rfl, hA, hB, hC, hK⟩ := hcut
    obtain ⟨V, rfl⟩ : ∃ V : World, V = wc := ⟨_, rfl⟩
    obtain ⟨X, XD, Y, YD, hL1, hL2, hE1, hE2⟩ := cross_low' a b c d
    have l1 := lN_bd (lN a b) (lD c d) 1000000000000 (by omega) (by omega) (by omega)
    have l2 := lN_bd (lN c d) (lD a b) 1000000000000 (by omega) (by omega) (by omega)
    have l3 := lD_bd (lN a b) (lD c d) (by omega)
    have l4 := lD_bd (lN c d) (lD a b) (by omega)
    have l5 := lD_pos (lN a b) (lD c d)
    have l6 := lD_pos (lN c d) (lD a b)
    have L1 := Lib.hid hL1
    have L2 := Lib.hid hL2
    have E1 := Lib.hid hE1
    have E2 := Lib.hid hE2
    clear hL1 hL2 hE1 hE2
    rw [L1.out.1] at l1
    rw [L1.out.2] at l3 l5
    rw [L2.out.1] at l2
    rw [L2.out.2] at l4 l6
    have m3 := mul_abs XD YD 1000000 1000000 (by omega) (by omega) (by omega) (by omega)
    have m4 : 1 * 1 ≤ XD * YD := Int.mul_le_mul l5 l6 (by omega) (by omega)
    clear hA1 hB1 hC1 hk
    obtain ⟨lt, c0, c1, f0, f1⟩ := id hA
    obtain ⟨lt', d0, d1, f0', f1'⟩ := id hB
    go_wp2_with fail
    refine (lowest_any _ _ _ (by omega) (by omega) (by omega) (by omega)).mono ?_
    rintro e w2 ⟨rfl, hk2⟩
    rw [L1.out.1, L1.out.2]
    have hA2 := hA.later hk2
    have hB2 := hB.later hk2
    have hC2 := hC.later hk2
    have hK2 := hK.trans hk2
    clear lt c0 c1 f0 f1 lt' d0 d1 f0' f1' hA hB hC hK hk2
    obtain ⟨lt, c0, c1, f0, f1⟩ := id hA2
    obtain ⟨lt', d0, d1, f0', f1'⟩ := id hB2
    go_wp2_with fail
    refine (lowest_any _ _ _ (by omega) (by omega) (by omega) (by omega)).mono ?_
    rintro e w3 ⟨rfl, hk3⟩
    rw [L2.out.1, L2.out.2]
    have hX := (Box2.new (w := w2) (n := X) (d := XD) (t := 23) rfl).later hk3
    have hC3 := (hC2.alloc _).later hk3
    have hK3 := (hK2.alloc _).trans hk3
    clear lt c0 c1 f0 f1 lt' d0 d1 f0' f1' hA2 hB2 hC2 hK2 hk3 L1 L2 H
    have hX4 := hX.alloc (.cells #[.int .i64 Y, .int .i64 YD] 23)
    have hC4 := hC3.alloc (.cells #[.int .i64 Y, .int .i64 YD] 23)
    have hK4 := hK3.alloc (.cells #[.int .i64 Y, .int .i64 YD] 23)
    have hY4 := Box2.new (w := w3) (n := Y) (d := YD) (t := 23) rfl
    clear hX hC3 hK3
    obtain ⟨lt, c0, c1, f0, f1⟩ := id hX4
    obtain ⟨lt', d0, d1, f0', f1'⟩ := id hY4
    go_wp2_with fail
    generalize w3.alloc (.cells #[.int .i64 Y, .int .i64 YD] 23) = V4 at *
    generalize w2.heap.size = px at *
    generalize w3.heap.size = py at *
    obtain ⟨lt5, z0, z1, g0, g1⟩ := id hC4
    by_cases hx : X = 0
    · have hxb : (X != 0) = false := by simp [hx]
      have O := Lib.hid hx
      clear hx
      have mz : -1000000000000 ≤ X * Y ∧ X * Y ≤ 1000000000000 := by rw [O.out]; simp
      go_quiet (fail)
      go_wp2_with fail
      refine (bounded_any _ _ _).mono ?_
      rintro e w5 ⟨rfl, hk5⟩
      rw [E1.out, E2.out]
      clear z0 z1 g0 g1 lt5
      obtain ⟨lt5, z0, z1, g0, g1⟩ := (hC4.drewN _).later hk5
      have hK5 := (hK4.drewN _).trans hk5
      go_wp2
      exact bodyPost_ret (v := .tuple #[fr2 (bN (pN a b c d) (pD a b c d)) (bD (pN a b c d) (pD a b c d)), .int .i64 (bE (pN a b c d) (pD a b c d))]) (by simp [results, Try.results14, go_sem, z0, z1]) rfl ⟨rfl, (hK5.setAt (by omega) _).setAt (by omega) _⟩
    · have hxb : (X != 0) = true := by simp [hx]
      have hxz : ((X.natAbs : Int) == 0) = false := by rw [beq_eq_false_iff_ne]; omega
      have hx1 : 1 ≤ (X.natAbs : Int) := by omega
      have F := Lib.hid (far_iff X Y hx)
      clear hx
      have db := div_bd 1000000000000 (X.natAbs : Int) 1000000000000 hx1 (by omega) (by omega)
      go_quiet (first | (go_at_call 30; exact quiet_same (size_any _ _ (by omega) (by omega))))
      by_cases hf : 1000000000000 < ((X * Y).natAbs : Int)
      · have hff : decide (1000000000000 / (X.natAbs : Int) < (Y.natAbs : Int)) = true := by rw [decide_eq_true_iff, F.out]; exact hf
        have ob : okB (pN a b c d) (pD a b c d) = false := by
          cases z : okB (pN a b c d) (pD a b c d)
          · rfl
          · have := (ok_iff _ _).1 z
            rw [← E1.out] at this; omega
        have OB := Lib.hid ob
        rw [hff]
        clear hf ob hff
        go_wp2
        exact bodyPost_ret (v := .tuple #[fr2 0 0, .int .i64 2]) (by simp [results, Try.results14, go_sem, z0, z1]) rfl ⟨by unfold bN bD bE; rw [OB.out]; rfl, ((hK4.drewN _).setAt (by omega) _).setAt (by omega) _⟩
      · have hff : decide (1000000000000 / (X.natAbs : Int) < (Y.natAbs : Int)) = false := by rw [decide_eq_false_iff_not, F.out]; exact hf
        have mz : -1000000000000 ≤ X * Y ∧ X * Y ≤ 1000000000000 := mul_in X Y (by omega)
        rw [hff]
        clear hf hff
        go_wp2_with fail
        refine (bounded_any _ _ _).mono ?_
        rintro e w5 ⟨rfl, hk5⟩
        rw [E1.out, E2.out]
        clear z0 z1 g0 g1 lt5
        obtain ⟨lt5, z0, z1, g0, g1⟩ := (hC4.drewN _).later hk5
        have hK5 := (hK4.drewN _).trans hk5
        go_wp2
        exact bodyPost_ret (v := .tuple #[fr2 (bN (pN a b c d) (pD a b c d)) (bD (pN a b c d) (pD a b c d)), .int .i64 (bE (pN a b c d) (pD a b c d))]) (by simp [results, Try.results14, go_sem, z0, z1]) rfl ⟨rfl, (hK5.setAt (by omega) _).setAt (by omega) _⟩

end Go.Proofs.Ytkbbofpjelgiiaa
