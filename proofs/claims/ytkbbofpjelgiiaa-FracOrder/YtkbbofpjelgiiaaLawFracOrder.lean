/-
  The law FracOrder returns true: fractions are in one order, that goes on from one to the next, and does not change when both have the same more. No condition.
-/
import Derived.Test.YtkbbofpjelgiiaaFWalkD
import Derived.Test.YtkbbofpjelgiiaaFMathC
namespace Go.Proofs.Ytkbbofpjelgiiaa
open Go.RowKit

set_option maxRecDepth 100000 in
set_option maxHeartbeats 4000000 in
theorem fracOrder_walk (a b c d e f : Int) (w : World) :
    Calls Try.prog 7 #[fr2 a b, fr2 c d, fr2 e f] w fun e w' => e = .returned (.bool true) ∧ Kept w w' := by
  have H1 := Lib.hid (show cmpV (1 * 2) (1 * 3) = -1 by decide)
  go_enter Try.func7, Try.ntmps7
  go_wp2_with fail
  obtain ⟨hA, hB, hC, hK⟩ := three_new w a b c d e f 23
  generalize (((w.alloc (.cells #[.int .i64 a, .int .i64 b] 23)).alloc (.cells #[.int .i64 c, .int .i64 d] 23)).alloc (.cells #[.int .i64 e, .int .i64 f] 23)) = W at *
  refine (cmp_yes _ _ _ _ _ (by decide) (by decide)).mono ?_
  rintro e w1 ⟨rfl, hk1⟩
  rw [H1.out]
  have h_f1 := hA.later hk1
  have h_g1 := hB.later hk1
  have h_h1 := hC.later hk1
  have hK1 := hK.trans hk1
  clear hA hB hC hK hk1
  obtain ⟨lt_f, c0_f, c1_f, f0_f, f1_f⟩ := id h_f1
  obtain ⟨lt_g, c0_g, c1_g, f0_g, f1_g⟩ := id h_g1
  go_wp2_with fail
  refine (cmp_any _ _ _ _ _).mono ?_
  rintro e w2 ⟨rfl, hk2⟩
  clear lt_f c0_f c1_f f0_f f1_f lt_g c0_g c1_g f0_g f1_g
  have h_f2 := h_f1.later hk2
  have h_g2 := h_g1.later hk2
  have h_h2 := h_h1.later hk2
  have hK2 := hK1.trans hk2
  clear h_f1 h_g1 h_h1 hK1 hk2
  generalize hX : (if chk2 a b c d = 0 then cmpV (a * d) (c * b) else 0) = X
  have HX := Lib.hid hX
  clear hX
  obtain ⟨lt_f, c0_f, c1_f, f0_f, f1_f⟩ := id h_f2
  obtain ⟨lt_g, c0_g, c1_g, f0_g, f1_g⟩ := id h_g2
  go_wp2_with fail
  refine (cmp_any _ _ _ _ _).mono ?_
  rintro e w3 ⟨rfl, hk3⟩
  clear lt_f c0_f c1_f f0_f f1_f lt_g c0_g c1_g f0_g f1_g
  have h_f3 := h_f2.later hk3
  have h_g3 := h_g2.later hk3
  have h_h3 := h_h2.later hk3
  have hK3 := hK2.trans hk3
  clear h_f2 h_g2 h_h2 hK2 hk3
  generalize hY : (if chk2 c d a b = 0 then cmpV (c * b) (a * d) else 0) = Y
  have HY := Lib.hid hY
  clear hY
  obtain ⟨lt_g, c0_g, c1_g, f0_g, f1_g⟩ := id h_g3
  obtain ⟨lt_h, c0_h, c1_h, f0_h, f1_h⟩ := id h_h3
  go_wp2_with fail
  refine (cmp_any _ _ _ _ _).mono ?_
  rintro e w4 ⟨rfl, hk4⟩
  clear lt_g c0_g c1_g f0_g f1_g lt_h c0_h c1_h f0_h f1_h
  have h_f4 := h_f3.later hk4
  have h_g4 := h_g3.later hk4
  have h_h4 := h_h3.later hk4
  have hK4 := hK3.trans hk4
  clear h_f3 h_g3 h_h3 hK3 hk4
  generalize hZ : (if chk2 c d e f = 0 then cmpV (c * f) (e * d) else 0) = Z
  have HZ := Lib.hid hZ
  clear hZ
  obtain ⟨lt_f, c0_f, c1_f, f0_f, f1_f⟩ := id h_f4
  obtain ⟨lt_h, c0_h, c1_h, f0_h, f1_h⟩ := id h_h4
  go_wp2_with fail
  refine (cmp_any _ _ _ _ _).mono ?_
  rintro e w5 ⟨rfl, hk5⟩
  clear lt_f c0_f c1_f f0_f f1_f lt_h c0_h c1_h f0_h f1_h
  have h_f5 := h_f4.later hk5
  have h_g5 := h_g4.later hk5
  have h_h5 := h_h4.later hk5
  have hK5 := hK4.trans hk5
  clear h_f4 h_g4 h_h4 hK4 hk5
  generalize hU : (if chk2 a b e f = 0 then cmpV (a * f) (e * b) else 0) = U
  have HU := Lib.hid hU
  clear hU
  clear H1
  cases o1 : okB a b
  · have hn : (chk2 a b c d != 0) = true := by rw [bne_iff_ne]; exact chk2_ne (.inl o1)
    clear o1
    go_wp2
    go_ret
    exact ⟨rfl, hK5⟩
  cases o2 : okB c d
  · have hn : (chk2 a b c d != 0) = true := by rw [bne_iff_ne]; exact chk2_ne (.inr o2)
    clear o1 o2
    go_wp2
    go_ret
    exact ⟨rfl, hK5⟩
  rw [(chk2_iff a b c d).2 ⟨o1, o2⟩, (chk2_iff c d a b).2 ⟨o2, o1⟩]
  cases o3 : okB e f
  · have hn : (chk2 c d e f != 0) = true := by rw [bne_iff_ne]; exact chk2_ne (.inr o3)
    clear o1 o2 o3
    go_wp2
    go_ret
    exact ⟨rfl, hK5⟩
  rw [(chk2_iff c d e f).2 ⟨o2, o3⟩, (chk2_iff a b e f).2 ⟨o1, o3⟩]
  obtain ⟨h1, h2, h3, h4⟩ := (ok_iff a b).1 o1
  obtain ⟨h5, h6, h7, h8⟩ := (ok_iff c d).1 o2
  obtain ⟨h9, h10, h11, h12⟩ := (ok_iff e f).1 o3
  have hx := HX.out
  rw [if_pos ((chk2_iff a b c d).2 ⟨o1, o2⟩)] at hx
  have hy := HY.out
  rw [if_pos ((chk2_iff c d a b).2 ⟨o2, o1⟩)] at hy
  have hz := HZ.out
  rw [if_pos ((chk2_iff c d e f).2 ⟨o2, o3⟩)] at hz
  have hu := HU.out
  rw [if_pos ((chk2_iff a b e f).2 ⟨o1, o3⟩)] at hu
  have q1 : X = -Y := by rw [← hx, ← hy]; exact cmp_anti a b c d h3 h7
  have q2 : X ≤ 0 → Z ≤ 0 → ¬ 0 < U := by rw [← hx, ← hz, ← hu]; exact cmp_tr a b c d e f h3 h7 h11
  have yb : -1 ≤ Y ∧ Y ≤ 1 := by rw [← hy]; exact cmpV_bd _ _
  have O1 := Lib.hid o1
  have O2 := Lib.hid o2
  have O3 := Lib.hid o3
  have SX := Lib.hid (show cmpV (sN a b e f * sD c d e f) (sN c d e f * sD a b e f) = X by rw [← hx]; exact cmp_sums a b c d e f h3 h7)
  have Q1 := Lib.hid q1
  have Q2 := Lib.hid q2
  clear HX HY HZ HU hx hy hz hu o1 o2 o3 q1 q2 h1 h2 h3 h4 h5 h6 h7 h8 h9 h10 h11 h12
  have xn : (X != -Y) = false := by rw [Q1.out]; simp
  have t : (decide (X ≤ 0) = false) ∨ (decide (X ≤ 0) = true ∧ decide (Z ≤ 0) = false) ∨ (decide (X ≤ 0) = true ∧ decide (Z ≤ 0) = true ∧ decide (0 < U) = false) := by
    have := Q2.out
    simp only [decide_eq_false_iff_not, decide_eq_true_eq]
    omega
  rcases t with t1 | ⟨t1, t2⟩ | ⟨t1, t2, t3⟩
  all_goals
    obtain ⟨lt_f, c0_f, c1_f, f0_f, f1_f⟩ := id h_f5
    obtain ⟨lt_h, c0_h, c1_h, f0_h, f1_h⟩ := id h_h5
    obtain ⟨lt_g, c0_g, c1_g, f0_g, f1_g⟩ := id h_g5
    go_wp2_with fail
    refine (add_any _ _ _ _ _).mono ?_
    rintro e w6 ⟨rfl, hk6⟩
    clear lt_f c0_f c1_f f0_f f1_f lt_h c0_h c1_h f0_h f1_h lt_g c0_g c1_g f0_g f1_g
    have h_f6 := h_f5.later hk6
    have h_g6 := h_g5.later hk6
    have h_h6 := h_h5.later hk6
    have hK6 := hK5.trans hk6
    clear h_f5 h_g5 h_h5 hK5 hk6
    have h_f6a := h_f6.alloc (.cells #[.int .i64 (aN a b e f), .int .i64 (aD a b e f)] 23)
    have h_g6a := h_g6.alloc (.cells #[.int .i64 (aN a b e f), .int .i64 (aD a b e f)] 23)
    have h_h6a := h_h6.alloc (.cells #[.int .i64 (aN a b e f), .int .i64 (aD a b e f)] 23)
    have hn_x := Box2.new (w := w6) (n := (aN a b e f)) (d := (aD a b e f)) (t := 23) rfl
    have hK6a := hK6.alloc (.cells #[.int .i64 (aN a b e f), .int .i64 (aD a b e f)] 23)
    clear h_f6 h_g6 h_h6 hK6
    obtain ⟨lt_g, c0_g, c1_g, f0_g, f1_g⟩ := id h_g6a
    obtain ⟨lt_h, c0_h, c1_h, f0_h, f1_h⟩ := id h_h6a
    go_wp2_with fail
    refine (add_any _ _ _ _ _).mono ?_
    rintro e w7 ⟨rfl, hk7⟩
    clear lt_g c0_g c1_g f0_g f1_g lt_h c0_h c1_h f0_h f1_h
    have h_x7 := hn_x.later hk7
    have hK7 := hK6a.trans hk7
    clear h_f6a h_g6a h_h6a hn_x hK6a hk7
    have h_x7a := h_x7.alloc (.cells #[.int .i64 (aN c d e f), .int .i64 (aD c d e f)] 23)
    have hn_y := Box2.new (w := w7) (n := (aN c d e f)) (d := (aD c d e f)) (t := 23) rfl
    have hK7a := hK7.alloc (.cells #[.int .i64 (aN c d e f), .int .i64 (aD c d e f)] 23)
    clear h_x7 hK7
    by_cases g1 : aE a b e f = 0
    · by_cases g2 : aE c d e f = 0
      · have k1 : okB (sN a b e f) (sD a b e f) = true := by
          unfold aE bE at g1; rw [if_pos ((chk2_iff a b e f).2 ⟨O1.out, O3.out⟩)] at g1
          split at g1
          · assumption
          · omega
        have k2 : okB (sN c d e f) (sD c d e f) = true := by
          unfold aE bE at g2; rw [if_pos ((chk2_iff c d e f).2 ⟨O2.out, O3.out⟩)] at g2
          split at g2
          · assumption
          · omega
        have A1 := add_in O1.out O3.out k1
        have A2 := add_in O2.out O3.out k2
        have K1 := Lib.hid (show okB (aN a b e f) (aD a b e f) = true by rw [A1.1, A1.2.1]; exact k1)
        have K2 := Lib.hid (show okB (aN c d e f) (aD c d e f) = true by rw [A2.1, A2.2.1]; exact k2)
        have SY := Lib.hid (show cmpV (aN a b e f * aD c d e f) (aN c d e f * aD a b e f) = X by rw [A1.1, A1.2.1, A2.1, A2.2.1]; exact SX.out)
        rw [g1, g2]
        clear g1 g2 k1 k2 A1 A2
        obtain ⟨lt_x, c0_x, c1_x, f0_x, f1_x⟩ := id h_x7a
        obtain ⟨lt_y, c0_y, c1_y, f0_y, f1_y⟩ := id hn_y
        go_wp2_with fail
        refine (cmp_yes _ _ _ _ _ K1.out K2.out).mono ?_
        rintro e w8 ⟨rfl, hk8⟩
        rw [SY.out]
        clear lt_x c0_x c1_x f0_x f1_x lt_y c0_y c1_y f0_y f1_y
        have hK8 := hK7a.trans hk8
        clear h_x7a hn_y hK7a hk8
        go_wp2
        go_ret
        exact ⟨ret_bool (by simp), hK8⟩
      · have hn : (aE c d e f != 0) = true := by rw [bne_iff_ne]; exact g2
        rw [g1]
        clear g1 g2
        go_wp2
        go_ret
        exact ⟨rfl, hK7a⟩
    · have hn : (aE a b e f != 0) = true := by rw [bne_iff_ne]; exact g1
      clear g1
      go_wp2
      go_ret
      exact ⟨rfl, hK7a⟩

end Go.Proofs.Ytkbbofpjelgiiaa
