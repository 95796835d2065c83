/-
  Plain mathematics of Hamilton's method: shares rounded down, what is left of each, and how many units remain. No condition.
-/
import Derived.Test.YtjfflnkocajkeaaSWalkC
namespace Go.Proofs.Ytjfflnkocajkeaa

/-- A share rounded down, and what is left of it. -/
def bs (W : Int) (wt : Nat → Int) (T : Int) : Nat → Int := fun i => W * wt i / T
def rs (W : Int) (wt : Nat → Int) (T : Int) : Nat → Int := fun i => W * wt i % T
/-- Weights that may be. -/
def WtOk (wt : Nat → Int) (n : Nat) : Prop := ∀ i, i < n → 0 ≤ wt i ∧ wt i ≤ 1000000
theorem sum_add (f g : Nat → Int) (n : Nat) : sumTo (fun i => f i + g i) n = sumTo f n + sumTo g n := by
  induction n with
  | zero => simp [sumTo]
  | succ n ih => rw [sumTo, sumTo, sumTo, ih]; omega
theorem sum_mul (f : Nat → Int) (c : Int) (n : Nat) : sumTo (fun i => c * f i) n = c * sumTo f n := by
  induction n with
  | zero => simp [sumTo]
  | succ n ih => rw [sumTo, sumTo, ih, Int.mul_add]
theorem wt_bd {W : Int} {wt : Nat → Int} {n : Nat} (h : WtOk wt n) (W0 : 0 ≤ W) (W1 : W ≤ 1000000000000) (i : Nat) (hi : i < n) : 0 ≤ W * wt i ∧ W * wt i ≤ 1000000000000000000 := by
  obtain ⟨a, b⟩ := h i hi
  refine ⟨Int.mul_nonneg W0 a, ?_⟩
  have : W * wt i ≤ 1000000000000 * 1000000 := Int.mul_le_mul W1 b a (by omega)
  omega
theorem rs_bd (W : Int) (wt : Nat → Int) (T : Int) (hT : 0 < T) (i : Nat) : 0 ≤ rs W wt T i ∧ rs W wt T i < T := ⟨Int.emod_nonneg _ (by omega), Int.emod_lt_of_pos _ hT⟩
theorem bs_eq (W : Int) (wt : Nat → Int) (T : Int) (i : Nat) : T * bs W wt T i + rs W wt T i = W * wt i := Int.mul_ediv_add_emod _ _
theorem le_sum (wt : Nat → Int) (n : Nat) (h : ∀ i, i < n → 0 ≤ wt i) (i : Nat) (hi : i < n) : wt i ≤ sumTo wt n := by
  induction n with
  | zero => omega
  | succ n ih =>
    have b := sum_nonneg wt n (fun i hi => h i (by omega))
    rw [sumTo]
    by_cases c : i < n
    · have := ih (fun i hi => h i (by omega)) c; have := h n (by omega); omega
    · obtain rfl : i = n := by omega
      omega
/-- A share is no more than the whole. -/
theorem bs_bd {W : Int} {wt : Nat → Int} {n : Nat} (h : WtOk wt n) (W0 : 0 ≤ W) (T : Int) (hT : T = sumTo wt n) (h0 : 0 < T) (i : Nat) (hi : i < n) : 0 ≤ bs W wt T i ∧ bs W wt T i ≤ W := by
  unfold bs
  refine ⟨Int.ediv_nonneg (Int.mul_nonneg W0 (h i hi).1) (by omega), ?_⟩
  have l := le_sum wt n (fun i hi => (h i hi).1) i hi
  exact Int.ediv_le_of_le_mul h0 (Int.mul_le_mul_of_nonneg_left (by omega) W0)
/-- What is left of all shares is the units that remain, times the sum. -/
theorem sum_rs (W : Int) (wt : Nat → Int) (n : Nat) (T : Int) (hT : T = sumTo wt n) : sumTo (rs W wt T) n = (W - sumTo (bs W wt T) n) * T := by
  have a : sumTo (fun i => T * bs W wt T i + rs W wt T i) n = sumTo (fun i => W * wt i) n := sumTo_congr n (fun j _ => bs_eq W wt T j)
  rw [sum_add, sum_mul, sum_mul, ← hT] at a
  rw [Int.sub_mul, Int.mul_comm (sumTo (bs W wt T) n) T]
  omega
theorem units_bd {W : Int} {wt : Nat → Int} {n : Nat} (T : Int) (hT : T = sumTo wt n) (h0 : 0 < T) : 0 ≤ W - sumTo (bs W wt T) n ∧ W - sumTo (bs W wt T) n ≤ n := by
  have e := sum_rs W wt n T hT
  have a := sum_nonneg (rs W wt T) n (fun i _ => (rs_bd W wt T h0 i).1)
  have b := sum_le (rs W wt T) n T (fun i _ => by have := rs_bd W wt T h0 i; omega)
  rw [e] at a b
  generalize W - sumTo (bs W wt T) n = u at *
  constructor
  · by_cases c : 0 ≤ u
    · exact c
    · have := Int.mul_neg_of_neg_of_pos (show u < 0 by omega) h0
      omega
  · by_cases c : u ≤ n
    · exact c
    · exfalso
      have : (n : Int) * T < u * T := Int.mul_lt_mul_of_pos_right (by omega) h0
      rw [Int.mul_comm (n : Int) T] at this
      omega

end Go.Proofs.Ytjfflnkocajkeaa
