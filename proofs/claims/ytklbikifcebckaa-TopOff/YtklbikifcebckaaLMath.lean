/-
  Plain mathematics of depreciation: by the line, by digits, falling, by units. No condition but those that each theorem names.
-/
import Derived.Test.YtklbikifcebckaaMWalkA
namespace Go.Proofs.Ytklbikifcebckaa

/-- May it be an asset? -/
def okA (c r n : Int) : Bool := decide (0 ≤ c ∧ c ≤ 1000000000000 ∧ 0 ≤ r ∧ r ≤ c ∧ 1 ≤ n ∧ n ≤ 40)
theorem okA_iff (c r n : Int) : okA c r n = true ↔ (0 ≤ c ∧ c ≤ 1000000000000 ∧ 0 ≤ r ∧ r ≤ c ∧ 1 ≤ n ∧ n ≤ 40) := by
  unfold okA; exact decide_eq_true_iff
/-- What comes by each time, less what came by the one ahead. -/
def dif (c : Nat → Int) : Nat → Int := fun i => c (i + 1) - c i
theorem sum_dif (c : Nat → Int) (n : Nat) : sumTo (dif c) n = c n - c 0 := sumTo_tele c n
/-- Near, of what is not below 0: only the rest is rounded. -/
theorem rnd_split (n d : Int) (hd : 1 ≤ d) (n0 : 0 ≤ n) : n / d + rnd (n % d) d 2 = rnd n d 2 := by
  obtain ⟨e, r0, r1⟩ := div_spec n d hd
  have u : (n % d) / d = 0 := Int.ediv_eq_zero_of_lt r0 r1
  have v : (n % d) % d = n % d := Int.emod_eq_of_lt r0 r1
  rcases rnd_case (n % d) d 2 _ _ u v (by omega) (by omega) with ⟨h, c⟩ | ⟨h, c⟩
  · rcases rnd_case n d 2 _ _ rfl rfl (by omega) (by omega) with ⟨h', c'⟩ | ⟨h', c'⟩
    · rw [h, h']; omega
    · exfalso
      have p : 0 ≤ d * (n / d) := Int.mul_nonneg (by omega) (Int.ediv_nonneg n0 (by omega))
      omega
  · rcases rnd_case n d 2 _ _ rfl rfl (by omega) (by omega) with ⟨h', c'⟩ | ⟨h', c'⟩
    · exfalso
      have p : 0 ≤ d * (n / d) := Int.mul_nonneg (by omega) (Int.ediv_nonneg n0 (by omega))
      omega
    · rw [h, h']; omega
/-- Near, of what is not below 0, by its place. -/
theorem rnd_near (x d : Int) (hd : 1 ≤ d) (x0 : 0 ≤ x) : 2 * (d * rnd x d 2) ≤ 2 * x + d ∧ 2 * x + d < 2 * (d * rnd x d 2) + 2 * d := by
  obtain ⟨e, r0, r1⟩ := div_spec x d hd
  have p : 0 ≤ d * (x / d) := Int.mul_nonneg (by omega) (Int.ediv_nonneg x0 (by omega))
  rcases rnd_case x d 2 _ _ rfl rfl (by omega) (by omega) with ⟨h, c⟩ | ⟨h, c⟩
  · rw [h]; omega
  · rw [h, Int.mul_add]; omega
/-- A step of what is rounded. -/
theorem near_step (x e d : Int) (hd : 1 ≤ d) (x0 : 0 ≤ x) (e0 : 0 ≤ e) :
    d * (rnd (x + e) d 2 - rnd x d 2 - 1) < e ∧ e < d * (rnd (x + e) d 2 - rnd x d 2 + 1) := by
  have a := rnd_near x d hd x0
  have b := rnd_near (x + e) d hd (by omega)
  generalize rnd (x + e) d 2 = y at *
  generalize rnd x d 2 = z at *
  rw [Int.mul_sub, Int.mul_sub, Int.mul_add, Int.mul_sub]
  omega
theorem lt_of_mul (d a b : Int) (hd : 1 ≤ d) (h : d * a < d * b) : a < b := by
  by_cases c : a < b
  · exact c
  · have : d * b ≤ d * a := Int.mul_le_mul_of_nonneg_left (by omega) (by omega)
    omega
theorem near_two (x y e f d : Int) (hd : 1 ≤ d) (x0 : 0 ≤ x) (y0 : 0 ≤ y) (e0 : 0 ≤ e) (h : e ≤ f) :
    rnd (x + e) d 2 - rnd x d 2 ≤ rnd (y + f) d 2 - rnd y d 2 + 1 := by
  have a := (near_step x e d hd x0 e0).1
  have b := (near_step y f d hd y0 (by omega)).2
  have := lt_of_mul d _ _ hd (show d * (rnd (x + e) d 2 - rnd x d 2 - 1) < d * (rnd (y + f) d 2 - rnd y d 2 + 1) by omega)
  omega

/-! By the line. -/
def stC (a : Int) (n k : Nat) : Int := rnd (a * k) n 2
theorem stC_zero (a : Int) (n : Nat) (n1 : 1 ≤ n) : stC a n 0 = 0 := by
  unfold stC
  have := rnd_whole 0 (n : Int) 2 (by omega) (by omega) (by omega)
  simpa using this
theorem stC_all (a : Int) (n : Nat) (n1 : 1 ≤ n) : stC a n n = a := rnd_whole a n 2 (by omega) (by omega) (by omega)
theorem stC_mono (a b : Int) (n j k : Nat) (n1 : 1 ≤ n) (h : a * j ≤ b * k) : stC a n j ≤ stC b n k :=
  rnd_mono _ _ _ _ 2 (by omega) (by omega) (Int.mul_le_mul_of_nonneg_right h (by omega)) (by omega) (by omega)
theorem stC_up (a : Int) (n j k : Nat) (n1 : 1 ≤ n) (a0 : 0 ≤ a) (h : j ≤ k) : stC a n j ≤ stC a n k :=
  stC_mono a a n j k n1 (Int.mul_le_mul_of_nonneg_left (by omega) a0)
theorem stC_bd (a : Int) (n k : Nat) (n1 : 1 ≤ n) (a0 : 0 ≤ a) (h : k ≤ n) : 0 ≤ stC a n k ∧ stC a n k ≤ a := by
  have x := stC_up a n 0 k n1 a0 (by omega)
  have y := stC_up a n k n n1 a0 h
  rw [stC_zero a n n1] at x; rw [stC_all a n n1] at y
  exact ⟨x, y⟩
theorem stP_bd (a : Int) (n : Nat) (n1 : 1 ≤ n) (a0 : 0 ≤ a) (i : Nat) (h : i < n) : 0 ≤ dif (stC a n) i ∧ dif (stC a n) i ≤ a := by
  have x := stC_up a n i (i + 1) n1 a0 (by omega)
  have y := stC_bd a n i n1 a0 (by omega)
  have z := stC_bd a n (i + 1) n1 a0 (by omega)
  unfold dif; omega
theorem stP_near (a : Int) (n : Nat) (n1 : 1 ≤ n) (a0 : 0 ≤ a) (i j : Nat) : dif (stC a n) i ≤ dif (stC a n) j + 1 := by
  have h := near_two (a * i) (a * j) a a n (by omega) (Int.mul_nonneg a0 (by omega)) (Int.mul_nonneg a0 (by omega)) a0 (Int.le_refl _)
  have e : ∀ t : Nat, a * (t : Int) + a = a * ((t + 1 : Nat) : Int) := fun t => by rw [show ((t + 1 : Nat) : Int) = (t : Int) + 1 by omega, Int.mul_add, Int.mul_one]
  rw [e, e] at h
  exact h
theorem stC_none (n k : Nat) (n1 : 1 ≤ n) : stC 0 n k = 0 := by
  unfold stC
  have := rnd_whole 0 (n : Int) 2 (by omega) (by omega) (by omega)
  simpa using this

/-! By digits. -/
def dgA : Nat → Int
  | 0 => 0
  | n + 1 => dgA n + (n + 1)
theorem dgA_two (n : Nat) : 2 * dgA n = n * (n + 1) := by
  induction n with
  | zero => rfl
  | succ n ih =>
    rw [dgA, show ((n + 1 : Nat) : Int) = (n : Int) + 1 by omega]
    have : ((n : Int) + 1) * ((n : Int) + 1 + 1) = n * (n + 1) + 2 * (n + 1) := by grind
    omega
theorem dgA_div (n : Nat) : (n : Int) * (n + 1) / 2 = dgA n := by
  have := dgA_two n; omega
theorem dgA_mono {j k : Nat} (h : j ≤ k) : dgA j ≤ dgA k := by
  induction k with
  | zero => obtain rfl : j = 0 := by omega
            exact Int.le_refl _
  | succ k ih =>
    by_cases c : j = k + 1
    · rw [c]; exact Int.le_refl _
    · have := ih (by omega); rw [dgA]; omega
theorem dgA_pos {n : Nat} (h : 1 ≤ n) : 1 ≤ dgA n := by
  have := dgA_mono h
  have e : dgA 1 = 1 := rfl
  omega
theorem dgA_bd {n : Nat} (h : n ≤ 40) : 0 ≤ dgA n ∧ dgA n ≤ 820 := by
  have := dgA_mono h
  have := dgA_mono (Nat.zero_le n)
  have e : dgA 40 = 820 := by decide
  have e0 : dgA 0 = 0 := rfl
  omega
def dgK (n k : Nat) : Int := dgA n - dgA (n - k)
theorem dgK_zero (n : Nat) : dgK n 0 = 0 := by unfold dgK; rw [Nat.sub_zero]; omega
theorem dgK_all (n : Nat) : dgK n n = dgA n := by unfold dgK; rw [Nat.sub_self, show dgA 0 = 0 from rfl]; omega
theorem dgK_succ (n k : Nat) (h : k < n) : dgK n (k + 1) = dgK n k + (n - k) := by
  unfold dgK
  obtain ⟨m, hm⟩ : ∃ m, n - k = m + 1 := ⟨n - k - 1, by omega⟩
  rw [hm, show n - (k + 1) = m by omega, dgA]
  omega
theorem dgK_bd (n k : Nat) : 0 ≤ dgK n k ∧ dgK n k ≤ dgA n := by
  have a := dgA_mono (Nat.sub_le n k)
  have b := dgA_mono (Nat.zero_le (n - k))
  have e0 : dgA 0 = 0 := rfl
  unfold dgK; omega
def dgC (a : Int) (n k : Nat) : Int := rnd (a * dgK n k) (dgA n) 2
theorem dgC_zero (a : Int) (n : Nat) (n1 : 1 ≤ n) : dgC a n 0 = 0 := by
  unfold dgC
  have := rnd_whole 0 (dgA n) 2 (dgA_pos n1) (by omega) (by omega)
  rw [dgK_zero]
  simpa using this
theorem dgC_all (a : Int) (n : Nat) (n1 : 1 ≤ n) : dgC a n n = a := by
  unfold dgC
  rw [dgK_all]
  exact rnd_whole a _ 2 (dgA_pos n1) (by omega) (by omega)
theorem dgC_mono (a b : Int) (n j k : Nat) (n1 : 1 ≤ n) (h : a * dgK n j ≤ b * dgK n k) : dgC a n j ≤ dgC b n k :=
  rnd_mono _ _ _ _ 2 (dgA_pos n1) (dgA_pos n1) (Int.mul_le_mul_of_nonneg_right h (by have := dgA_pos n1; omega)) (by omega) (by omega)
theorem dgK_mono (n j k : Nat) (h : j ≤ k) : dgK n j ≤ dgK n k := by
  have := dgA_mono (show n - k ≤ n - j by omega)
  unfold dgK; omega
theorem dgC_up (a : Int) (n j k : Nat) (n1 : 1 ≤ n) (a0 : 0 ≤ a) (h : j ≤ k) : dgC a n j ≤ dgC a n k :=
  dgC_mono a a n j k n1 (Int.mul_le_mul_of_nonneg_left (dgK_mono n j k h) a0)
theorem dgC_bd (a : Int) (n k : Nat) (n1 : 1 ≤ n) (a0 : 0 ≤ a) (h : k ≤ n) : 0 ≤ dgC a n k ∧ dgC a n k ≤ a := by
  have x := dgC_up a n 0 k n1 a0 (by omega)
  have y := dgC_up a n k n n1 a0 h
  rw [dgC_zero a n n1] at x; rw [dgC_all a n n1] at y
  exact ⟨x, y⟩
theorem dgP_bd (a : Int) (n : Nat) (n1 : 1 ≤ n) (a0 : 0 ≤ a) (i : Nat) (h : i < n) : 0 ≤ dif (dgC a n) i ∧ dif (dgC a n) i ≤ a := by
  have x := dgC_up a n i (i + 1) n1 a0 (by omega)
  have y := dgC_bd a n i n1 a0 (by omega)
  have z := dgC_bd a n (i + 1) n1 a0 (by omega)
  unfold dif; omega
/-- None is more than one above the one ahead. -/
theorem dgP_next (a : Int) (n : Nat) (n1 : 1 ≤ n) (a0 : 0 ≤ a) (i : Nat) (h : i + 1 < n) : dif (dgC a n) (i + 1) ≤ dif (dgC a n) i + 1 := by
  have b1 := dgK_bd n i
  have b2 := dgK_bd n (i + 1)
  have s1 := dgK_succ n i (by omega)
  have s2 := dgK_succ n (i + 1) (by omega)
  have m : a * ((n : Int) - ((i + 1 : Nat) : Int)) ≤ a * ((n : Int) - (i : Int)) := Int.mul_le_mul_of_nonneg_left (by omega) a0
  have t := near_two (a * dgK n (i + 1)) (a * dgK n i) (a * ((n : Int) - ((i + 1 : Nat) : Int))) (a * ((n : Int) - (i : Int))) (dgA n) (dgA_pos n1) (Int.mul_nonneg a0 b2.1) (Int.mul_nonneg a0 b1.1) (Int.mul_nonneg a0 (by omega)) m
  rw [← Int.mul_add, ← Int.mul_add, ← s1, ← s2] at t
  exact t
/-- By digits no less is written off by any time. -/
theorem dg_st (a : Int) (n k : Nat) (n1 : 1 ≤ n) (a0 : 0 ≤ a) (h : k ≤ n) : stC a n k ≤ dgC a n k := by
  unfold stC dgC
  refine rnd_mono _ _ _ _ 2 (by omega) (dgA_pos n1) ?_ (by omega) (by omega)
  have key : (k : Int) * dgA n ≤ dgK n k * n := by
    obtain ⟨m, rfl⟩ : ∃ m, n = m + k := ⟨n - k, by omega⟩
    unfold dgK
    rw [show m + k - k = m by omega]
    have e1 := dgA_two (m + k)
    have e2 := dgA_two m
    generalize dgA (m + k) = x at *
    generalize dgA m = y at *
    rw [show ((m + k : Nat) : Int) = (m : Int) + k by omega] at *
    have p : 0 ≤ (k : Int) * (m * (m + k)) := Int.mul_nonneg (by omega) (Int.mul_nonneg (by omega) (by omega))
    have e3 : 2 * ((k : Int) * x) = k * ((m + k) * (m + k + 1)) := by rw [← e1]; grind
    have e4 : 2 * ((x - y) * ((m : Int) + k)) = ((m + k) * (m + k + 1) - m * (m + 1)) * (m + k) := by rw [← e1, ← e2]; grind
    grind
  have := Int.mul_le_mul_of_nonneg_left key a0
  rw [Int.mul_assoc, Int.mul_assoc]
  exact this
theorem dgC_none (n k : Nat) (n1 : 1 ≤ n) : dgC 0 n k = 0 := by
  unfold dgC
  have := rnd_whole 0 (dgA n) 2 (dgA_pos n1) (by omega) (by omega)
  simpa using this

end Go.Proofs.Ytklbikifcebckaa
