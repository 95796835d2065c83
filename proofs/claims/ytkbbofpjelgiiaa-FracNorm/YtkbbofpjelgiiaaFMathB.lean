/-
  Plain mathematics of rounding: it is monotonic, mirrored, near, and shifts by whole numbers. No condition.
-/
import Derived.Test.YtkbbofpjelgiiaaFMath
namespace Go.Proofs.Ytkbbofpjelgiiaa

theorem quo_mono (a b c d x y r s : Int) (hb : 1 ≤ b) (hd : 1 ≤ d) (e1 : a = b * x + r) (e2 : c = d * y + s) (r0 : 0 ≤ r) (s1 : s < d) (h : a * d ≤ c * b) : x ≤ y ∧ (x = y → r * d ≤ s * b) := by
  constructor
  · by_cases c : x ≤ y
    · exact c
    · exfalso
      have : b * d * (y + 1) ≤ b * d * x := Int.mul_le_mul_of_nonneg_left (by omega) (Int.mul_nonneg (by omega) (by omega))
      have : s * b < d * b := Int.mul_lt_mul_of_pos_right s1 (by omega)
      have : 0 ≤ r * d := Int.mul_nonneg r0 (by omega)
      subst e1 e2
      grind
  · intro hxy
    subst hxy e1 e2
    grind
theorem cross_lt (r s b d : Int) (hb : 1 ≤ b) (hd : 1 ≤ d) (h : r * d ≤ s * b) : (b < 2 * r → d < 2 * s) ∧ (b = 2 * r → d ≤ 2 * s) ∧ (0 < r → 0 < s) := by
  refine ⟨fun k => ?_, fun k => ?_, fun k => ?_⟩
  · by_cases c : d < 2 * s
    · exact c
    · have : b * d < 2 * r * d := Int.mul_lt_mul_of_pos_right k (by omega)
      have : 2 * s * b ≤ d * b := Int.mul_le_mul_of_nonneg_right (by omega) (by omega)
      grind
  · by_cases c : d ≤ 2 * s
    · exact c
    · have : 2 * s * b < d * b := Int.mul_lt_mul_of_pos_right (by omega) (by omega)
      subst k
      grind
  · by_cases c : 0 < s
    · exact c
    · have : 0 < r * d := Int.mul_pos k (by omega)
      have : s * b ≤ 0 * b := Int.mul_le_mul_of_nonneg_right (by omega) (by omega)
      grind
theorem way4 {way : Int} (w0 : 0 ≤ way) (w3 : way ≤ 3) : way = 0 ∨ way = 1 ∨ way = 2 ∨ way = 3 := by omega
theorem rnd_mono (a b c d way : Int) (hb : 1 ≤ b) (hd : 1 ≤ d) (h : a * d ≤ c * b) (w0 : 0 ≤ way) (w3 : way ≤ 3) : rnd a b way ≤ rnd c d way := by
  obtain ⟨e1, r1, s1⟩ := div_spec a b hb
  obtain ⟨e2, r2, s2⟩ := div_spec c d hd
  obtain ⟨m1, m2⟩ := quo_mono a b c d _ _ _ _ hb hd e1 e2 r1 s2 h
  have ba := rnd_bd a b way
  have bc := rnd_bd c d way
  by_cases z : a / b < c / d
  · omega
  · have e : a / b = c / d := by omega
    obtain ⟨k1, k2, k3⟩ := cross_lt _ _ b d hb hd (m2 e)
    have up : upB a b way = true → upB c d way = true := by
      rcases way4 w0 w3 with rfl | rfl | rfl | rfl
      · rw [upB_0]; intro h; cases h
      · rw [upB_1, upB_1]; simpa using k3
      · rw [upB_2, upB_2]; simp only [decide_eq_true_eq]
        rintro (h | ⟨h, h'⟩)
        · exact .inl (k1 h)
        · by_cases l : d < 2 * (c % d)
          · exact .inl l
          · refine .inr ⟨by have := k2 h.symm; omega, ?_⟩
            have p : 0 ≤ a / b := Int.ediv_nonneg (by omega) (by omega)
            have p2 : 0 ≤ d * (c / d) := Int.mul_nonneg (by omega) (by omega)
            have := k2 h.symm
            omega
      · rw [upB_3, upB_3]; simp only [decide_eq_true_eq]
        rintro (h | ⟨h, h'⟩)
        · exact .inl (k1 h)
        · by_cases l : d < 2 * (c % d)
          · exact .inl l
          · exact .inr ⟨by have := k2 h.symm; omega, by rw [← e]; exact h'⟩
    unfold rnd
    cases u : upB a b way
    · rw [if_neg (by simp)]; split <;> omega
    · rw [up u]; simp; omega
/-- The other way round. -/
theorem neg_div (a b : Int) (hb : 1 ≤ b) : (a % b = 0 → (-a) / b = -(a / b) ∧ (-a) % b = 0) ∧ (a % b ≠ 0 → (-a) / b = -(a / b) - 1 ∧ (-a) % b = b - a % b) := by
  obtain ⟨e, r, s⟩ := div_spec a b hb
  constructor
  · intro h
    obtain ⟨u, v⟩ := div_unique (-a) b (-(a / b)) hb (by rw [Int.mul_neg]; omega) (by rw [Int.mul_add, Int.mul_neg]; omega)
    rw [u, v, Int.mul_neg]; omega
  · intro h
    obtain ⟨u, v⟩ := div_unique (-a) b (-(a / b) - 1) hb (by rw [Int.mul_sub, Int.mul_neg]; omega) (by rw [show -(a / b) - 1 + 1 = -(a / b) by omega, Int.mul_neg]; omega)
    rw [u, v, Int.mul_sub, Int.mul_neg]; omega
theorem rnd_up_down (a b : Int) (hb : 1 ≤ b) : rnd (-a) b 1 = -(rnd a b 0) := by
  obtain ⟨n1, n2⟩ := neg_div a b hb
  obtain ⟨e, r, s⟩ := div_spec a b hb
  unfold rnd
  rw [upB_0, upB_1]
  by_cases h : a % b = 0
  · rw [(n1 h).1, (n1 h).2]; simp
  · rw [(n2 h).1, (n2 h).2, if_pos (by simp; omega)]; simp
theorem rnd_near_neg (a b : Int) (hb : 1 ≤ b) : rnd (-a) b 2 = -(rnd a b 2) := by
  obtain ⟨n1, n2⟩ := neg_div a b hb
  obtain ⟨e, r, s⟩ := div_spec a b hb
  unfold rnd
  rw [upB_2, upB_2]
  by_cases h : a % b = 0
  · rw [(n1 h).1, (n1 h).2, h, if_neg (by simp; omega), if_neg (by simp; omega)]
  · rw [(n2 h).1, (n2 h).2]
    by_cases u : b < 2 * (a % b) ∨ 2 * (a % b) = b ∧ 0 < a
    · rw [if_pos (show decide (b < 2 * (a % b) ∨ 2 * (a % b) = b ∧ 0 < a) = true by simpa using u), if_neg (by simp only [decide_eq_true_eq]; omega)]; omega
    · have az : a ≠ 0 := by
        intro z; rw [z] at h; simp at h
      rw [if_neg (show ¬ decide (b < 2 * (a % b) ∨ 2 * (a % b) = b ∧ 0 < a) = true by simpa using u), if_pos (by simp only [decide_eq_true_eq]; omega)]; omega
theorem rnd_even_neg (a b : Int) (hb : 1 ≤ b) : rnd (-a) b 3 = -(rnd a b 3) := by
  obtain ⟨n1, n2⟩ := neg_div a b hb
  obtain ⟨e, r, s⟩ := div_spec a b hb
  unfold rnd
  rw [upB_3, upB_3]
  by_cases h : a % b = 0
  · rw [(n1 h).1, (n1 h).2, h, if_neg (by simp; omega), if_neg (by simp; omega)]
  · rw [(n2 h).1, (n2 h).2]
    by_cases u : b < 2 * (a % b) ∨ 2 * (a % b) = b ∧ (a / b) % 2 = 1
    · rw [if_pos (show decide (b < 2 * (a % b) ∨ 2 * (a % b) = b ∧ (a / b) % 2 = 1) = true by simpa using u), if_neg (by simp only [decide_eq_true_eq]; omega)]; omega
    · rw [if_neg (show ¬ decide (b < 2 * (a % b) ∨ 2 * (a % b) = b ∧ (a / b) % 2 = 1) = true by simpa using u), if_pos (by simp only [decide_eq_true_eq]; omega)]; omega
/-- How far it is, twice. -/
theorem rnd_far (a b : Int) (hb : 1 ≤ b) (way : Int) (hw : way = 2 ∨ way = 3) :
    -b ≤ 2 * (rnd a b way * b - a) ∧ 2 * (rnd a b way * b - a) ≤ b ∧ (way = 3 → (2 * (rnd a b way * b - a) = b ∨ 2 * (rnd a b way * b - a) = -b) → rnd a b way % 2 = 0) := by
  obtain ⟨e, r, s⟩ := div_spec a b hb
  have m : a / b * b = b * (a / b) := Int.mul_comm _ _
  rcases hw with rfl | rfl
  · unfold rnd; rw [upB_2]
    by_cases u : b < 2 * (a % b) ∨ 2 * (a % b) = b ∧ 0 < a
    · rw [if_pos (by simpa using u), Int.add_mul]; omega
    · rw [if_neg (by simpa using u)]; omega
  · unfold rnd; rw [upB_3]
    by_cases u : b < 2 * (a % b) ∨ 2 * (a % b) = b ∧ (a / b) % 2 = 1
    · rw [if_pos (by simpa using u), Int.add_mul]; omega
    · rw [if_neg (by simpa using u)]; omega
/-- A whole number more. -/
theorem shift_div (a b k : Int) (hb : 1 ≤ b) : (a + k * b) / b = a / b + k ∧ (a + k * b) % b = a % b := by
  rw [Int.add_mul_ediv_right _ _ (by omega), Int.add_mul_emod_self_right]; exact ⟨rfl, rfl⟩
theorem rnd_shift (a b k way : Int) (hb : 1 ≤ b) (w0 : 0 ≤ way) (w3 : way ≤ 3) (hk : way = 3 → k % 2 = 0) : rnd (a + k * b) b way = rnd a b way + k ∨ way = 2 ∧ 2 * (a % b) = b ∧ ((0 < a ∧ ¬ 0 < a + k * b) ∨ (¬ 0 < a ∧ 0 < a + k * b)) := by
  obtain ⟨u, v⟩ := shift_div a b k hb
  rcases way4 w0 w3 with rfl | rfl | rfl | rfl
  · left; unfold rnd; rw [upB_0, upB_0, u]; simp
  · left; unfold rnd; rw [upB_1, upB_1, u, v]; split <;> omega
  · by_cases c : 2 * (a % b) = b ∧ ((0 < a ∧ ¬ 0 < a + k * b) ∨ (¬ 0 < a ∧ 0 < a + k * b))
    · exact .inr ⟨rfl, c⟩
    · left
      unfold rnd; rw [upB_2, upB_2, u, v]
      by_cases x : b < 2 * (a % b) ∨ 2 * (a % b) = b ∧ 0 < a
      · rw [if_pos (show decide (b < 2 * (a % b) ∨ 2 * (a % b) = b ∧ 0 < a) = true by simpa using x), if_pos (by simp only [decide_eq_true_eq]; omega)]; omega
      · rw [if_neg (show ¬ decide (b < 2 * (a % b) ∨ 2 * (a % b) = b ∧ 0 < a) = true by simpa using x), if_neg (by simp only [decide_eq_true_eq]; omega)]
  · left
    have := hk rfl
    unfold rnd; rw [upB_3, upB_3, u, v]
    by_cases x : b < 2 * (a % b) ∨ 2 * (a % b) = b ∧ (a / b) % 2 = 1
    · rw [if_pos (show decide (b < 2 * (a % b) ∨ 2 * (a % b) = b ∧ (a / b) % 2 = 1) = true by simpa using x), if_pos (by simp only [decide_eq_true_eq]; omega)]; omega
    · rw [if_neg (show ¬ decide (b < 2 * (a % b) ∨ 2 * (a % b) = b ∧ (a / b) % 2 = 1) = true by simpa using x), if_neg (by simp only [decide_eq_true_eq]; omega)]

end Go.Proofs.Ytkbbofpjelgiiaa
