/-
  The law FracNear returns true: rounded down it is no more, and less than one less; up and down are the other way round below 0; the nearest ones are no farther than a half. No condition.
-/
import Derived.Test.YtkbbofpjelgiiaaFWalkD
import Derived.Test.YtkbbofpjelgiiaaFMathB
namespace Go.Proofs.Ytkbbofpjelgiiaa
open Go.RowKit

/-- How far a whole number is from a fraction, twice. -/
def farV (n d k : Int) : Int := ((2 * (k * d - n)).natAbs : Int)
set_option maxHeartbeats 400000 in
theorem far_any (n d k : Int) (p : Nat) (w : World) (hB : Box2 w p n d) (h1 : -1000000000000 ≤ n) (h2 : n ≤ 1000000000000) (h3 : -1000000000000000 ≤ k * d) (h4 : k * d ≤ 1000000000000000) :
    Calls Try.prog 25 #[.int .i64 k, .pointer (some ⟨p, 0, none⟩)] w fun e w' => e = .returned (.int .i64 (farV n d k)) ∧ w = w' := by
  obtain ⟨lt, c0, c1, f0, f1⟩ := hB
  have F := Lib.hid (show farV n d k = ((2 * (k * d - n)).natAbs : Int) from rfl)
  generalize farV n d k = V at *
  rcases (show k * d < n ∨ k * d = n ∨ n < k * d by omega) with h | h | h
  · go_enter Try.func25, Try.ntmps25
    go_wp2
    all_goals go_ret
    all_goals exact ⟨ret_int (by rw [F.out]; omega), rfl⟩
  · have HH := Lib.hid h
    have g1 : n ≤ k * d := by omega
    have g2 : k * d ≤ n := by omega
    clear h
    go_enter Try.func25, Try.ntmps25
    go_wp2
    all_goals go_ret
    all_goals exact ⟨ret_int (by rw [F.out]; omega), rfl⟩
  · go_enter Try.func25, Try.ntmps25
    go_wp2
    all_goals go_ret
    all_goals exact ⟨ret_int (by rw [F.out]; omega), rfl⟩

set_option maxRecDepth 100000 in
set_option maxHeartbeats 4000000 in
theorem fracNear_walk (n d : Int) (w : World) :
    Calls Try.prog 8 #[fr2 n d] w fun e w' => e = .returned (.bool true) ∧ Kept w w' := by
  have H1 := Lib.hid (show rnd (-5) 2 2 = -3 by decide)
  have H2 := Lib.hid (show rnd 5 2 3 = 2 by decide)
  go_enter Try.func8, Try.ntmps8
  go_wp2_with fail
  have hA := Box2.new (w := w) (n := n) (d := d) (t := 23) rfl
  have hK := (Kept.refl w).alloc (.cells #[.int .i64 n, .int .i64 d] 23)
  generalize (w.alloc (.cells #[.int .i64 n, .int .i64 d] 23)) = W at *
  refine (round_yes _ _ _ _ (by decide) (by omega) (by omega)).mono ?_
  rintro e w1 ⟨rfl, hk1⟩
  rw [H1.out]
  have h_f1 := hA.later hk1
  have hK1 := hK.trans hk1
  clear hA hK hk1
  go_wp2_with fail
  refine (round_yes _ _ _ _ (by decide) (by omega) (by omega)).mono ?_
  rintro e w2 ⟨rfl, hk2⟩
  rw [H2.out]
  have h_f2 := h_f1.later hk2
  have hK2 := hK1.trans hk2
  clear h_f1 hK1 hk2
  clear H1 H2
  cases ho : okB n d
  · have hn := chk_ne ho
    have HO := Lib.hid ho
    clear ho
    obtain ⟨lt_f, c0_f, c1_f, f0_f, f1_f⟩ := id h_f2
    go_wp2_with fail
    refine (round_no _ _ _ _ HO.out).mono ?_
    rintro e w3 ⟨rfl, hk3⟩
    clear lt_f c0_f c1_f f0_f f1_f
    have h_f3 := h_f2.later hk3
    have hK3 := hK2.trans hk3
    clear h_f2 hK2 hk3
    go_wp2
    go_ret
    exact ⟨rfl, hK3⟩
  obtain ⟨h1, h2, h3, h4⟩ := (ok_iff n d).1 ho
  have HO := Lib.hid ho
  have ho' : okB (-n) d = true := by rw [ok_iff]; omega
  have HN := Lib.hid ho'
  have R1 := Lib.hid (rnd_up_down n d h3)
  have R2 := Lib.hid (rnd_near_neg n d h3)
  have R3 := Lib.hid (rnd_even_neg n d h3)
  have b1 := rnd_bd n d 1
  have b0 : rnd n d 0 = n / d := rfl
  obtain ⟨e1, e2, e3⟩ := div_spec n d h3
  have m0 : rnd n d 0 * d = d * (n / d) := by rw [b0, Int.mul_comm]
  have m1 : rnd n d 0 * d ≤ n := by omega
  have m2 : n < (rnd n d 0 + 1) * d := by rw [Int.add_mul]; omega
  have m3 : n - d ≤ rnd n d 0 * d := by omega
  have m4 : (rnd n d 0 + 1) * d ≤ n + d := by rw [Int.add_mul]; omega
  have u1 : rnd n d 0 ≤ rnd n d 1 := by omega
  have u2 : rnd n d 1 ≤ rnd n d 0 + 1 := by omega
  have db := div_bd n d _ h3 h1 h2
  have u3 : -1000000000001 ≤ rnd n d 0 ∧ rnd n d 0 ≤ 1000000000000 := by omega
  have c2 := rnd_bd n d 2
  have c3 := rnd_bd n d 3
  have u4 : -1000000000001 ≤ rnd n d 2 ∧ rnd n d 2 ≤ 1000000000001 := by omega
  have u5 : -1000000000001 ≤ rnd n d 3 ∧ rnd n d 3 ≤ 1000000000001 := by omega
  have f2 := rnd_far n d h3 2 (.inl rfl)
  have f3 := rnd_far n d h3 3 (.inr rfl)
  have g2 : -1000000000000000 ≤ rnd n d 2 * d ∧ rnd n d 2 * d ≤ 1000000000000000 := by omega
  have g3 : -1000000000000000 ≤ rnd n d 3 * d ∧ rnd n d 3 * d ≤ 1000000000000000 := by omega
  have fn : farV n d (rnd n d 2) ≤ d := by unfold farV; omega
  have fe : farV n d (rnd n d 3) ≤ d := by unfold farV; omega
  have fz : farV n d (rnd n d 3) < d ∨ rnd n d 3 % 2 = 0 := by unfold farV; omega
  clear ho ho' e1 e2 e3 m0 f2 f3 c2 c3 db b0 b1
  obtain ⟨lt_f, c0_f, c1_f, f0_f, f1_f⟩ := id h_f2
  go_wp2_with fail
  refine (round_yes _ _ _ _ HO.out (by omega) (by omega)).mono ?_
  rintro e w3 ⟨rfl, hk3⟩
  clear lt_f c0_f c1_f f0_f f1_f
  have h_f3 := h_f2.later hk3
  have hK3 := hK2.trans hk3
  clear h_f2 hK2 hk3
  obtain ⟨lt_f, c0_f, c1_f, f0_f, f1_f⟩ := id h_f3
  go_wp2_with fail
  clear lt_f c0_f c1_f f0_f f1_f
  have h_f3a := h_f3.alloc (.cells #[.int .i64 (-n), .int .i64 d] 23)
  have hn_o := Box2.new (w := w3) (n := (-n)) (d := d) (t := 23) rfl
  have hK3a := hK3.alloc (.cells #[.int .i64 (-n), .int .i64 d] 23)
  clear h_f3 hK3
  obtain ⟨lt_f, c0_f, c1_f, f0_f, f1_f⟩ := id h_f3a
  go_wp2_with fail
  refine (round_yes _ _ _ _ HO.out (by omega) (by omega)).mono ?_
  rintro e w4 ⟨rfl, hk4⟩
  clear lt_f c0_f c1_f f0_f f1_f
  have h_f4 := h_f3a.later hk4
  have h_o4 := hn_o.later hk4
  have hK4 := hK3a.trans hk4
  clear h_f3a hn_o hK3a hk4
  obtain ⟨lt_o, c0_o, c1_o, f0_o, f1_o⟩ := id h_o4
  go_wp2_with fail
  refine (round_yes _ _ _ _ HN.out (by omega) (by omega)).mono ?_
  rintro e w5 ⟨rfl, hk5⟩
  rw [R1.out]
  clear lt_o c0_o c1_o f0_o f1_o
  have h_f5 := h_f4.later hk5
  have h_o5 := h_o4.later hk5
  have hK5 := hK4.trans hk5
  clear h_f4 h_o4 hK4 hk5
  obtain ⟨lt_f, c0_f, c1_f, f0_f, f1_f⟩ := id h_f5
  go_wp2_with fail
  refine (round_yes _ _ _ _ HO.out (by omega) (by omega)).mono ?_
  rintro e w6 ⟨rfl, hk6⟩
  clear lt_f c0_f c1_f f0_f f1_f
  have h_f6 := h_f5.later hk6
  have h_o6 := h_o5.later hk6
  have hK6 := hK5.trans hk6
  clear h_f5 h_o5 hK5 hk6
  obtain ⟨lt_f, c0_f, c1_f, f0_f, f1_f⟩ := id h_f6
  go_wp2_with fail
  refine (round_yes _ _ _ _ HO.out (by omega) (by omega)).mono ?_
  rintro e w7 ⟨rfl, hk7⟩
  clear lt_f c0_f c1_f f0_f f1_f
  have h_f7 := h_f6.later hk7
  have h_o7 := h_o6.later hk7
  have hK7 := hK6.trans hk7
  clear h_f6 h_o6 hK6 hk7
  obtain ⟨lt_o, c0_o, c1_o, f0_o, f1_o⟩ := id h_o7
  go_wp2_with fail
  refine (round_yes _ _ _ _ HN.out (by omega) (by omega)).mono ?_
  rintro e w8 ⟨rfl, hk8⟩
  rw [R2.out]
  clear lt_o c0_o c1_o f0_o f1_o
  have h_f8 := h_f7.later hk8
  have h_o8 := h_o7.later hk8
  have hK8 := hK7.trans hk8
  clear h_f7 h_o7 hK7 hk8
  obtain ⟨lt_o, c0_o, c1_o, f0_o, f1_o⟩ := id h_o8
  go_wp2_with fail
  refine (round_yes _ _ _ _ HN.out (by omega) (by omega)).mono ?_
  rintro e w9 ⟨rfl, hk9⟩
  rw [R3.out]
  clear lt_o c0_o c1_o f0_o f1_o
  have h_f9 := h_f8.later hk9
  have hK9 := hK8.trans hk9
  clear h_f8 h_o8 hK8 hk9
  generalize rnd n d 0 = D at *
  generalize rnd n d 1 = U at *
  generalize rnd n d 2 = N at *
  generalize rnd n d 3 = E at *
  clear R1 R2 R3 HO HN
  obtain ⟨lt_f, c0_f, c1_f, f0_f, f1_f⟩ := id h_f9
  go_wp2_with fail
  have FA := fun (k : Int) (m : Nat) (h3 : -1000000000000000 ≤ k * d) (h4 : k * d ≤ 1000000000000000) => far_any n d k _ _ (h_f9.drewN m) h1 h2 h3 h4
  have FB := Lib.hid FA
  clear FA
  by_cases z : farV n d E < d
  · have z1 : decide (farV n d E < d) = true := by simpa using z
    have z2 : decide (farV n d E ≤ d) = true := by simpa using fe
    have z3 : decide (farV n d N ≤ d) = true := by simpa using fn
    go_quiet (first | (go_at_call 25; exact quiet_same (FB.out _ _ (by omega) (by omega))))
    go_wp2
    go_ret
    exact ⟨rfl, hK9.drewN _⟩
  · have z1 : decide (farV n d E < d) = false := by simpa using z
    have z2 : decide (farV n d E ≤ d) = true := by simpa using fe
    have z3 : decide (farV n d N ≤ d) = true := by simpa using fn
    have z4 : (E.tmod 2 == 0) = true := by
      have := (even_tmod E).2 (by omega)
      simpa using this
    go_quiet (first | (go_at_call 25; exact quiet_same (FB.out _ _ (by omega) (by omega))))
    go_wp2
    go_ret
    exact ⟨rfl, hK9.drewN _⟩

end Go.Proofs.Ytkbbofpjelgiiaa
