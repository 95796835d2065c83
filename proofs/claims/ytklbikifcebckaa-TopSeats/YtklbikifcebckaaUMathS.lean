/-
  Where all quotas are whole: Jefferson, Webster and Adams deal just these. No condition but those that each theorem names.
-/
import Derived.Test.YtklbikifcebckaaDWalkB
namespace Go.Proofs.Ytklbikifcebckaa
set_option linter.unusedVariables false

/-- Votes that are whole times of seats. -/
theorem whole_le {way : Int} {u x : Nat → Int} {k : Int} {n : Nat} (h0 : 0 ≤ way) (h2 : way ≤ 2) (k1 : 1 ≤ k) (u0 : ∀ i, i < n → 0 ≤ u i) (h : Fr way (fun i => u i * k) n x) (hs : sumTo x n = sumTo u n) : ∀ i, i < n → x i ≤ u i := by
  intro i hi
  by_cases c : x i ≤ u i
  · exact c
  · exfalso
    have hv : ∀ q, q < n → 0 ≤ (fun i => u i * k) q := fun q hq => Int.mul_nonneg (u0 q hq) (by omega)
    obtain ⟨j, hj, z⟩ := sum_other x u n (by omega) i hi (by omega)
    have xj := h.nn j hj
    have ui := u0 i hi
    have uj := u0 j hj
    have vj : 0 < u j * k := Int.mul_pos (by omega) (by omega)
    have pi := h.pos hv i hi (by omega)
    have ui1 : 0 < u i := by
      by_cases e : u i = 0
      · simp [e] at pi
      · omega
    have f := h.num j i hj hi vj (by omega)
    have e1 : u j * k * dv way (x i - 1) = k * (u j * dv way (x i - 1)) := by rw [Int.mul_comm (u j) k, Int.mul_assoc]
    have e2 : u i * k * dv way (x j) = k * (u i * dv way (x j)) := by rw [Int.mul_comm (u i) k, Int.mul_assoc]
    rw [e1, e2] at f
    have f2 : u j * dv way (x i - 1) ≤ u i * dv way (x j) := Int.le_of_mul_le_mul_left f (by omega)
    have m1 : u j * dv way (u i) ≤ u j * dv way (x i - 1) := Int.mul_le_mul_of_nonneg_left (dv_mono (by omega)) uj
    have m2 : u i * dv way (x j) ≤ u i * dv way (u j - 1) := Int.mul_le_mul_of_nonneg_left (dv_mono (by omega)) ui
    have m3 : u j * dv way (u i) ≤ u i * dv way (u j - 1) := by omega
    have cm : u j * u i = u i * u j := Int.mul_comm _ _
    rcases (show way = 0 ∨ way = 1 ∨ way = 2 by omega) with rfl | rfl | rfl
    · have d1 : dv 0 (u i) = u i + 1 := by simp [dv]
      have d2 : dv 0 (u j - 1) = u j := by simp [dv]
      rw [d1, d2, Int.mul_add, cm] at m3; omega
    · have d1 : dv 1 (u i) = 2 * u i + 1 := by simp [dv]
      have d2 : dv 1 (u j - 1) = 2 * u j - 1 := by simp [dv]; omega
      have q1 : u j * (2 * u i + 1) = 2 * (u i * u j) + u j := by rw [Int.mul_add, Int.mul_left_comm, cm]; omega
      have q2 : u i * (2 * u j - 1) = 2 * (u i * u j) - u i := by rw [Int.mul_sub, Int.mul_left_comm]; omega
      rw [d1, d2, q1, q2] at m3; omega
    · have d1 : dv 2 (u i) = u i := by simp [dv]
      have d2 : dv 2 (u j - 1) = u j - 1 := by simp [dv]
      rw [d1, d2, Int.mul_sub, cm] at m3; omega
theorem whole_eq {way : Int} {u x : Nat → Int} {k : Int} {n : Nat} (h0 : 0 ≤ way) (h2 : way ≤ 2) (k1 : 1 ≤ k) (u0 : ∀ i, i < n → 0 ≤ u i) (h : Fr way (fun i => u i * k) n x) (hs : sumTo x n = sumTo u n) : ∀ i, i < n → x i = u i := by
  intro i hi
  have le := whole_le h0 h2 k1 u0 h hs
  by_cases c : x i = u i
  · exact c
  · have := sum_lt le i hi (by have := le i hi; omega)
    omega
theorem sum_times (u : Nat → Int) (k : Int) : ∀ n, sumTo (fun i => u i * k) n = sumTo u n * k
  | 0 => by simp [sumTo]
  | n + 1 => by rw [sumTo, sumTo, sum_times u k n, Int.add_mul]
theorem whole_dl {way : Int} {u : Nat → Int} {k : Int} {n s : Nat} (h0 : 0 ≤ way) (h2 : way ≤ 2) (k1 : 1 ≤ k) (u0 : ∀ i, i < n → 0 ≤ u i) (hs : sumTo u n = s) (s1 : 0 < s) : ∀ i, i < n → dl way (fun i => u i * k) n s i = u i := by
  have hv : ∀ q, q < n → 0 ≤ (fun i => u i * k) q := fun q hq => Int.mul_nonneg (u0 q hq) (by omega)
  have T : 0 < sumTo (fun i => u i * k) n := by rw [sum_times]; exact Int.mul_pos (by omega) (by omega)
  obtain ⟨f, e⟩ := dl_fr (way := way) hv T s
  exact whole_eq h0 h2 k1 u0 f (by rw [e, hs])
/-- .. and so are the quotas. -/
theorem whole_qt {u : Nat → Int} {k N : Int} (k1 : 1 ≤ k) (N1 : 0 < N) (i : Nat) : N * (u i * k) / (N * k) = u i := by
  have : N * (u i * k) = u i * (N * k) := by rw [← Int.mul_assoc, ← Int.mul_assoc, Int.mul_comm N (u i)]
  rw [this]
  exact Int.mul_ediv_cancel _ (by have := Int.mul_pos N1 (show 0 < k by omega); omega)
/-- What votes were drawn of, counted. -/
theorem sum_le11 {u : Nat → Int} : ∀ {n : Nat}, (∀ i, i < n → 0 ≤ u i ∧ u i ≤ 11) → 0 ≤ sumTo u n ∧ sumTo u n ≤ 11 * (n : Int)
  | 0, _ => by simp [sumTo]
  | n + 1, h => by
    have := sum_le11 (u := u) (n := n) fun i hi => h i (by omega)
    have := h n (by omega)
    rw [sumTo]; omega
end Go.Proofs.Ytklbikifcebckaa
