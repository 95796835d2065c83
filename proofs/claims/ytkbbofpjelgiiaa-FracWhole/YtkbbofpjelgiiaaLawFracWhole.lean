/-
  The law FracWhole returns true: by a whole number more it is rounded to as much more, by each way but Even, and by Even where that is even, too. No condition.
-/
import Derived.Test.YtkbbofpjelgiiaaFWalkD
import Derived.Test.YtkbbofpjelgiiaaFMathB
namespace Go.Proofs.Ytkbbofpjelgiiaa
open Go.RowKit

/-- What is so where it is rounded otherwise: it is a half, below 0, and comes above. -/
theorem whole_half (n d : Int) (hd : 1 ≤ d) (h : 2 * (n % d) = d) : ((2 * n).tmod d == 0) = true ∧ (((2 * n).tdiv d).tmod 2 != 0) = true ∧ n ≠ 0 := by
  obtain ⟨e, r, s⟩ := div_spec n d hd
  have k : 2 * n = (2 * (n / d) + 1) * d := by
    have : (2 * (n / d) + 1) * d = 2 * (d * (n / d)) + d := by grind
    omega
  have k1 : (2 * n).tmod d = 0 := Int.tmod_eq_zero_of_dvd ⟨2 * (n / d) + 1, by rw [k]; exact Int.mul_comm _ _⟩
  have k2 : (2 * n).tdiv d = 2 * (n / d) + 1 := by rw [k]; exact Int.mul_tdiv_cancel _ (by omega)
  refine ⟨by rw [k1]; rfl, ?_, ?_⟩
  · rw [k2]; exact (odd_tmod _).2 (by omega)
  · intro z; rw [z] at h; simp at h; omega
theorem whole_or (n d k s : Int) (hd : 1 ≤ d) (hk0 : 0 ≤ k * d) (s0 : 0 ≤ s) (s3 : s ≤ 3) (hk : s = 3 → k % 2 = 0) :
    rnd (n + k * d) d s = rnd n d s + k ∨ (s = 2 ∧ ((2 * n).tmod d == 0) = true ∧ (((2 * n).tdiv d).tmod 2 != 0) = true ∧ n < 0 ∧ 0 ≤ n + k * d) := by
  rcases rnd_shift n d k s hd s0 s3 hk with h | ⟨h1, h2, h3⟩
  · exact .inl h
  · obtain ⟨a, b, c⟩ := whole_half n d hd h2
    exact .inr ⟨h1, a, b, by omega, by omega⟩
theorem two_tdiv_bd (n d : Int) (n0 : -1000 ≤ n) (n1 : n ≤ 1000) (d0 : 1 ≤ d) : -2001 ≤ (2 * n).tdiv d ∧ (2 * n).tdiv d ≤ 2001 := by
  have := tdiv_bd (2 * n) d 2000 d0 (by omega) (by omega)
  omega

set_option maxRecDepth 100000 in
set_option maxHeartbeats 4000000 in
theorem fracWhole_walk (a b k v : Int) (w : World) :
    Calls Try.prog 11 #[.int .i64 a, .int .i64 b, .int .i64 k, .int .i64 v] w fun e w' => e = .returned (.bool true) ∧ Kept w w' := by
  have H1 := Lib.hid (show rnd 3 2 3 = 2 by decide)
  go_enter Try.func11, Try.ntmps11
  go_wp2_with fail
  refine (round_yes _ _ _ _ (by decide) (by omega) (by omega)).mono ?_
  rintro e w1 ⟨rfl, hK1⟩
  rw [H1.out]
  clear H1
  go_wp2_with fail
  refine (small_any _ _ _).mono ?_
  rintro e w2 ⟨n, d, n0, n1, d0, d1, rfl, hk2⟩
  have hK2 := hK1.trans hk2
  clear hK1 hk2
  have hn_f := Box2.new (w := w2) (p := w2.heap.size) (n := n) (d := d) (t := 23) rfl
  have hK2a := hK2.alloc (.cells #[.int .i64 n, .int .i64 d] 23)
  clear hK2
  go_wp2_with fail
  refine (within_any _ _ _ (by omega) (by omega)).mono ?_
  rintro e w3 ⟨r, r0, r1, rfl, rfl⟩
  go_wp2_with fail
  refine (within_any _ _ _ (by omega) (by omega)).mono ?_
  rintro e w4 ⟨s, s0, s1, rfl, rfl⟩
  have O1 := Lib.hid (show okB n d = true by rw [ok_iff]; omega)
  have dz : (d == 0) = false := by rw [beq_eq_false_iff_ne]; omega
  have tb := two_tdiv_bd n d n0 n1 d0
  rcases (show s = 3 ∨ s < 3 by omega) with hs | hs
  · subst hs
    have kd := mul_abs (r * 2) d 2000 40 (by omega) (by omega) (by omega) (by omega)
    have kp : 0 ≤ (r * 2) * d := Int.mul_nonneg (by omega) (by omega)
    have O2 := Lib.hid (show okB (n + (r * 2) * d) d = true by rw [ok_iff]; omega)
    have WO := Lib.hid (whole_or n d (r * 2) 3 d0 kp (by omega) (by omega) (by omega))
    have rb := rnd_bd n d 3
    have db := div_bd n d 1000 d0 n0 n1
    have rb2 : -2000 ≤ rnd n d 3 ∧ rnd n d 3 ≤ 2000 := by omega
    clear rb db
    obtain ⟨lt_f, c0_f, c1_f, f0_f, f1_f⟩ := id hn_f
    go_wp2_with fail
    clear lt_f c0_f c1_f f0_f f1_f
    have hn_fa := hn_f.alloc (.cells #[.int .i64 (n + (r * 2) * d), .int .i64 d] 23)
    have hn_g := Box2.new (w := (w2.alloc (.cells #[.int .i64 n, .int .i64 d] 23))) (p := w2.heap.size + 1) (n := (n + (r * 2) * d)) (d := d) (t := 23) (by simp)
    have hK2aa := hK2a.alloc (.cells #[.int .i64 (n + (r * 2) * d), .int .i64 d] 23)
    clear hn_f hK2a
    refine (round_yes _ _ _ _ O1.out (by omega) (by omega)).mono ?_
    rintro e w5 ⟨rfl, hk5⟩
    have h_f5 := hn_fa.later hk5
    have h_g5 := hn_g.later hk5
    have hK5 := hK2aa.trans hk5
    clear hn_fa hn_g hK2aa hk5
    obtain ⟨lt_g, c0_g, c1_g, f0_g, f1_g⟩ := id h_g5
    go_wp2_with fail
    refine (round_yes _ _ _ _ O2.out (by omega) (by omega)).mono ?_
    rintro e w6 ⟨rfl, hk6⟩
    clear lt_g c0_g c1_g f0_g f1_g
    have h_f6 := h_f5.later hk6
    have h_g6 := h_g5.later hk6
    have hK6 := hK5.trans hk6
    clear h_f5 h_g5 hK5 hk6
    generalize rnd n d 3 = X at *
    generalize rnd (n + (r * 2) * d) d 3 = Y at *
    clear O1 O2
    obtain ⟨lt_f, c0_f, c1_f, f0_f, f1_f⟩ := id h_f6
    obtain ⟨lt_g, c0_g, c1_g, f0_g, f1_g⟩ := id h_g6
    cases q1 : ((2 * n).tmod d == 0)
    · cases q2 : (((2 * n).tdiv d).tmod 2 != 0)
      · by_cases e : Y = X + (r * 2)
        · have eb : (Y == X + (r * 2)) = true := by rw [beq_iff_eq]; exact e
          clear e WO
          go_wp2
          go_ret
          exact ⟨rfl, hK6⟩
        · have eb : (Y == X + (r * 2)) = false := by rw [beq_eq_false_iff_ne]; exact e
          rcases WO.out with h | ⟨h1, h2, h3, h4, h5⟩
          · exact absurd h e
          · omega
      · by_cases e : Y = X + (r * 2)
        · have eb : (Y == X + (r * 2)) = true := by rw [beq_iff_eq]; exact e
          clear e WO
          go_wp2
          go_ret
          exact ⟨rfl, hK6⟩
        · have eb : (Y == X + (r * 2)) = false := by rw [beq_eq_false_iff_ne]; exact e
          rcases WO.out with h | ⟨h1, h2, h3, h4, h5⟩
          · exact absurd h e
          · omega
    · cases q2 : (((2 * n).tdiv d).tmod 2 != 0)
      · by_cases e : Y = X + (r * 2)
        · have eb : (Y == X + (r * 2)) = true := by rw [beq_iff_eq]; exact e
          clear e WO
          go_wp2
          go_ret
          exact ⟨rfl, hK6⟩
        · have eb : (Y == X + (r * 2)) = false := by rw [beq_eq_false_iff_ne]; exact e
          rcases WO.out with h | ⟨h1, h2, h3, h4, h5⟩
          · exact absurd h e
          · omega
      · by_cases e : Y = X + (r * 2)
        · have eb : (Y == X + (r * 2)) = true := by rw [beq_iff_eq]; exact e
          clear e WO
          go_wp2
          go_ret
          exact ⟨rfl, hK6⟩
        · have eb : (Y == X + (r * 2)) = false := by rw [beq_eq_false_iff_ne]; exact e
          rcases WO.out with h | ⟨h1, h2, h3, h4, h5⟩
          · exact absurd h e
          · omega
  · have s3 : (s == 3) = false := by rw [beq_eq_false_iff_ne]; omega
    have kd := mul_abs r d 2000 40 (by omega) (by omega) (by omega) (by omega)
    have kp : 0 ≤ r * d := Int.mul_nonneg (by omega) (by omega)
    have O2 := Lib.hid (show okB (n + r * d) d = true by rw [ok_iff]; omega)
    have WO := Lib.hid (whole_or n d r s d0 kp (by omega) (by omega) (by omega))
    have rb := rnd_bd n d s
    have db := div_bd n d 1000 d0 n0 n1
    have rb2 : -2000 ≤ rnd n d s ∧ rnd n d s ≤ 2000 := by omega
    clear rb db
    obtain ⟨lt_f, c0_f, c1_f, f0_f, f1_f⟩ := id hn_f
    go_wp2_with fail
    clear lt_f c0_f c1_f f0_f f1_f
    have hn_fa := hn_f.alloc (.cells #[.int .i64 (n + r * d), .int .i64 d] 23)
    have hn_g := Box2.new (w := (w2.alloc (.cells #[.int .i64 n, .int .i64 d] 23))) (p := w2.heap.size + 1) (n := (n + r * d)) (d := d) (t := 23) (by simp)
    have hK2aa := hK2a.alloc (.cells #[.int .i64 (n + r * d), .int .i64 d] 23)
    clear hn_f hK2a
    refine (round_yes _ _ _ _ O1.out (by omega) (by omega)).mono ?_
    rintro e w5 ⟨rfl, hk5⟩
    have h_f5 := hn_fa.later hk5
    have h_g5 := hn_g.later hk5
    have hK5 := hK2aa.trans hk5
    clear hn_fa hn_g hK2aa hk5
    obtain ⟨lt_g, c0_g, c1_g, f0_g, f1_g⟩ := id h_g5
    go_wp2_with fail
    refine (round_yes _ _ _ _ O2.out (by omega) (by omega)).mono ?_
    rintro e w6 ⟨rfl, hk6⟩
    clear lt_g c0_g c1_g f0_g f1_g
    have h_f6 := h_f5.later hk6
    have h_g6 := h_g5.later hk6
    have hK6 := hK5.trans hk6
    clear h_f5 h_g5 hK5 hk6
    generalize rnd n d s = X at *
    generalize rnd (n + r * d) d s = Y at *
    clear O1 O2
    obtain ⟨lt_f, c0_f, c1_f, f0_f, f1_f⟩ := id h_f6
    obtain ⟨lt_g, c0_g, c1_g, f0_g, f1_g⟩ := id h_g6
    cases q1 : ((2 * n).tmod d == 0)
    · cases q2 : (((2 * n).tdiv d).tmod 2 != 0)
      · by_cases e : Y = X + r
        · have eb : (Y == X + r) = true := by rw [beq_iff_eq]; exact e
          clear e WO
          go_wp2
          go_ret
          exact ⟨rfl, hK6⟩
        · have eb : (Y == X + r) = false := by rw [beq_eq_false_iff_ne]; exact e
          rcases WO.out with h | ⟨h1, h2, h3, h4, h5⟩
          · exact absurd h e
          · rw [q1] at h2; cases h2
      · by_cases e : Y = X + r
        · have eb : (Y == X + r) = true := by rw [beq_iff_eq]; exact e
          clear e WO
          go_wp2
          go_ret
          exact ⟨rfl, hK6⟩
        · have eb : (Y == X + r) = false := by rw [beq_eq_false_iff_ne]; exact e
          rcases WO.out with h | ⟨h1, h2, h3, h4, h5⟩
          · exact absurd h e
          · rw [q1] at h2; cases h2
    · cases q2 : (((2 * n).tdiv d).tmod 2 != 0)
      · by_cases e : Y = X + r
        · have eb : (Y == X + r) = true := by rw [beq_iff_eq]; exact e
          clear e WO
          go_wp2
          go_ret
          exact ⟨rfl, hK6⟩
        · have eb : (Y == X + r) = false := by rw [beq_eq_false_iff_ne]; exact e
          rcases WO.out with h | ⟨h1, h2, h3, h4, h5⟩
          · exact absurd h e
          · rw [q2] at h3; cases h3
      · by_cases e : Y = X + r
        · have eb : (Y == X + r) = true := by rw [beq_iff_eq]; exact e
          clear e WO
          go_wp2
          go_ret
          exact ⟨rfl, hK6⟩
        · have eb : (Y == X + r) = false := by rw [beq_eq_false_iff_ne]; exact e
          rcases WO.out with h | ⟨h1, h2, h3, h4, h5⟩
          · exact absurd h e
          · subst h1
            clear e WO h2 h3
            go_wp2
            go_ret
            exact ⟨rfl, hK6⟩

end Go.Proofs.Ytkbbofpjelgiiaa
