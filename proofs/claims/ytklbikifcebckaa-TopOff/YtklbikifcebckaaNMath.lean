/-
  Plain mathematics of depreciation: falling, and by units. No condition but those that each theorem names.
-/
import Derived.Test.YtklbikifcebckaaLWalkB
namespace Go.Proofs.Ytklbikifcebckaa

/-- Rounded up, by its place. -/
theorem rnd_up_spec (x m : Int) (hm : 1 ≤ m) : x ≤ m * rnd x m 1 ∧ m * rnd x m 1 < x + m := by
  obtain ⟨e, r0, r1⟩ := div_spec x m hm
  rcases rnd_case x m 1 _ _ rfl rfl (by omega) (by omega) with ⟨h, c⟩ | ⟨h, c⟩
  · rw [h]; omega
  · rw [h, Int.mul_add]; omega
/-- The depreciation of a period, by the value ahead of it and the periods that remain. -/
def flD (rest rate v : Int) (m : Nat) : Int := min (max (rnd (v * rate) 1000000 2) (rnd (v - rest) m 1)) (v - rest)
/-- The value after so many periods. -/
def flV (cost rest rate : Int) (n : Nat) : Nat → Int
  | 0 => cost
  | k + 1 => flV cost rest rate n k - flD rest rate (flV cost rest rate n k) (n - k)
/-- What is written off in each period. -/
def flP (cost rest rate : Int) (n : Nat) : Nat → Int := fun k => flD rest rate (flV cost rest rate n k) (n - k)
theorem flP_sum (cost rest rate : Int) (n k : Nat) : sumTo (flP cost rest rate n) k = cost - flV cost rest rate n k := by
  induction k with
  | zero => simp [sumTo, flV]
  | succ k ih => rw [sumTo, ih, flV]; unfold flP; omega
theorem share_nonneg (v rate : Int) (v0 : 0 ≤ v) (r0 : 0 ≤ rate) : 0 ≤ rnd (v * rate) 1000000 2 :=
  rnd_nonneg _ _ _ (by omega) (Int.mul_nonneg v0 r0) (by omega) (by omega)
theorem flD_bd (rest rate v : Int) (m : Nat) (h0 : 0 ≤ rest) (h : rest ≤ v) (r0 : 0 ≤ rate) : 0 ≤ flD rest rate v m ∧ flD rest rate v m ≤ v - rest := by
  have s := share_nonneg v rate (by omega) r0
  unfold flD; omega
theorem flD_up (rest rate v : Int) (m : Nat) (h : rest ≤ v) (m1 : 1 ≤ m) : v - rest ≤ m * flD rest rate v m := by
  have u := (rnd_up_spec (v - rest) m (by omega)).1
  have a : (1 : Int) * (v - rest) ≤ m * (v - rest) := Int.mul_le_mul_of_nonneg_right (by omega) (by omega)
  unfold flD
  rcases (show min (max (rnd (v * rate) 1000000 2) (rnd (v - rest) m 1)) (v - rest) = v - rest ∨ rnd (v - rest) m 1 ≤ min (max (rnd (v * rate) 1000000 2) (rnd (v - rest) m 1)) (v - rest) by omega) with e | e
  · rw [e]; omega
  · have := Int.mul_le_mul_of_nonneg_left e (show (0 : Int) ≤ m by omega)
    omega
theorem flV_bd (cost rest rate : Int) (n k : Nat) (h0 : 0 ≤ rest) (h : rest ≤ cost) (r0 : 0 ≤ rate) : rest ≤ flV cost rest rate n k ∧ flV cost rest rate n k ≤ cost := by
  induction k with
  | zero => rw [flV]; omega
  | succ k ih =>
    have := flD_bd rest rate _ (n - k) h0 ih.1 r0
    rw [flV]; omega
theorem flP_bd (cost rest rate : Int) (n k : Nat) (h0 : 0 ≤ rest) (h : rest ≤ cost) (r0 : 0 ≤ rate) : 0 ≤ flP cost rest rate n k ∧ flP cost rest rate n k ≤ cost - rest := by
  have b := flV_bd cost rest rate n k h0 h r0
  have := flD_bd rest rate _ (n - k) h0 b.1 r0
  unfold flP; omega
/-- Never behind equal parts. -/
theorem flV_fast (cost rest rate : Int) (n k : Nat) (h0 : 0 ≤ rest) (h : rest ≤ cost) (r0 : 0 ≤ rate) (hk : k ≤ n) :
    (flV cost rest rate n k - rest) * n ≤ (cost - rest) * ((n : Int) - k) := by
  induction k with
  | zero => rw [flV]; simp
  | succ k ih =>
    have ih := ih (by omega)
    have b := flV_bd cost rest rate n k h0 h r0
    have u := flD_up rest rate _ (n - k) b.1 (by omega)
    rw [flV]
    generalize flD rest rate (flV cost rest rate n k) (n - k) = d at *
    generalize flV cost rest rate n k = v at *
    rw [show ((n - k : Nat) : Int) = (n : Int) - k by omega] at u
    rw [show ((k + 1 : Nat) : Int) = (k : Int) + 1 by omega]
    have m1 : (1 : Int) ≤ (n : Int) - k := by omega
    generalize hm : (n : Int) - k = m at *
    rw [show (n : Int) - ((k : Int) + 1) = m - 1 by omega]
    have n0 : (0 : Int) ≤ n := by omega
    generalize (n : Int) = N at *
    generalize cost - rest = A at *
    obtain ⟨a, ha⟩ : ∃ a, v - rest = a := ⟨_, rfl⟩
    rw [show v - d - rest = a - d by omega]
    rw [ha] at ih u
    -- m (a - d) N ≤ (m - 1) a N ≤ (m - 1) A m
    have p1 : (m * (a - d)) * N ≤ ((m - 1) * a) * N := Int.mul_le_mul_of_nonneg_right (by rw [Int.mul_sub, Int.sub_mul]; omega) n0
    have p2 : (m - 1) * (a * N) ≤ (m - 1) * (A * m) := Int.mul_le_mul_of_nonneg_left ih (by omega)
    have p3 : m * ((a - d) * N) ≤ m * (A * (m - 1)) := by grind
    exact Int.le_of_mul_le_mul_left p3 (by omega)
theorem flV_end (cost rest rate : Int) (n : Nat) (h0 : 0 ≤ rest) (h : rest ≤ cost) (r0 : 0 ≤ rate) (n1 : 1 ≤ n) : flV cost rest rate n n = rest := by
  have f := flV_fast cost rest rate n n h0 h r0 (Nat.le_refl n)
  have b := flV_bd cost rest rate n n h0 h r0
  generalize flV cost rest rate n n = v at *
  by_cases c : v = rest
  · exact c
  · have : 1 * (n : Int) ≤ (v - rest) * n := Int.mul_le_mul_of_nonneg_right (by omega) (by omega)
    rw [Int.sub_self, Int.mul_zero] at f
    omega
theorem flP_fast (cost rest rate : Int) (n k : Nat) (h0 : 0 ≤ rest) (h : rest ≤ cost) (r0 : 0 ≤ rate) (hk : k ≤ n) :
    (cost - rest) * k ≤ sumTo (flP cost rest rate n) k * n := by
  have f := flV_fast cost rest rate n k h0 h r0 hk
  rw [flP_sum]
  generalize flV cost rest rate n k = v at *
  have e : (cost - v) * (n : Int) = (cost - rest) * n - (v - rest) * n := by grind
  rw [Int.mul_sub] at f
  omega

/-- A greater value, a smaller rate, a greater rest: no less is left. -/
theorem nv_mono (rest rest' rate rate' v v' : Int) (m : Nat) (m1 : 1 ≤ m) (h0 : 0 ≤ rest) (hr : rest ≤ rest') (h1 : rest ≤ v) (hv : v ≤ v') (r0 : 0 ≤ rate') (r1 : rate' ≤ rate) (r2 : rate ≤ 1000000) :
    v - flD rest rate v m ≤ v' - flD rest' rate' v' m := by
  have s1 : rnd (v * rate') 1000000 2 ≤ rnd (v * rate) 1000000 2 :=
    rnd_mono _ _ _ _ 2 (by omega) (by omega) (Int.mul_le_mul_of_nonneg_right (Int.mul_le_mul_of_nonneg_left r1 (by omega)) (by omega)) (by omega) (by omega)
  have s2 : rnd (v' * rate') 1000000 2 ≤ rnd (v * rate') 1000000 2 + (v' - v) := by
    have e : v' * rate' = v * rate' + (v' - v) * rate' := by grind
    have n1 : 0 ≤ (v' - v) * rate' := Int.mul_nonneg (by omega) r0
    have n2 : (v' - v) * rate' ≤ (v' - v) * 1000000 := Int.mul_le_mul_of_nonneg_left (by omega) (by omega)
    have st := (near_step (v * rate') ((v' - v) * rate') 1000000 (by omega) (Int.mul_nonneg (by omega) r0) n1).1
    rw [← e] at st
    omega
  have u : rnd (v' - rest') m 1 ≤ rnd (v - rest) m 1 + (v' - v) := by
    refine rnd_le _ _ _ _ (by omega) ?_ (by omega) (by omega)
    have a := (rnd_up_spec (v - rest) m (by omega)).1
    have b : (v' - v) * 1 ≤ (v' - v) * m := Int.mul_le_mul_of_nonneg_left (by omega) (by omega)
    rw [Int.add_mul, Int.mul_comm (rnd (v - rest) m 1)]
    omega
  unfold flD
  omega
theorem flV_mono (cost rest rest' rate rate' : Int) (n k : Nat) (h0 : 0 ≤ rest) (hr : rest ≤ rest') (h1 : rest' ≤ cost) (r0 : 0 ≤ rate') (r1 : rate' ≤ rate) (r2 : rate ≤ 1000000) (hk : k ≤ n) :
    flV cost rest rate n k ≤ flV cost rest' rate' n k := by
  induction k with
  | zero => exact Int.le_refl _
  | succ k ih =>
    rw [flV, flV]
    exact nv_mono rest rest' rate rate' _ _ (n - k) (by omega) h0 hr (flV_bd cost rest rate n k h0 (by omega) (by omega)).1 (ih (by omega)) r0 r1 r2
/-- No period more than the one ahead. -/
theorem flP_falls (cost rest rate : Int) (n k : Nat) (h0 : 0 ≤ rest) (h : rest ≤ cost) (r0 : 0 ≤ rate) (hk : k + 1 < n) : flP cost rest rate n (k + 1) ≤ flP cost rest rate n k := by
  have b := flV_bd cost rest rate n k h0 h r0
  have d0 := flD_bd rest rate (flV cost rest rate n k) (n - k) h0 b.1 r0
  unfold flP
  rw [flV]
  generalize flV cost rest rate n k = v at *
  obtain ⟨m, hm⟩ : ∃ m, n - k = m + 2 := ⟨n - k - 2, by omega⟩
  rw [show n - (k + 1) = m + 1 by omega, hm]
  rw [hm] at d0
  have us := (rnd_up_spec (v - rest) (m + 2 : Nat) (by omega)).1
  have hd : flD rest rate v (m + 2) = v - rest ∨ (rnd (v * rate) 1000000 2 ≤ flD rest rate v (m + 2) ∧ rnd (v - rest) (m + 2 : Nat) 1 ≤ flD rest rate v (m + 2)) := by
    unfold flD; omega
  generalize flD rest rate v (m + 2) = d at *
  rcases hd with e | ⟨e1, e2⟩
  · have := flD_bd rest rate (v - d) (m + 1) h0 (by omega) r0
    omega
  · have s : rnd ((v - d) * rate) 1000000 2 ≤ rnd (v * rate) 1000000 2 :=
      rnd_mono _ _ _ _ 2 (by omega) (by omega) (Int.mul_le_mul_of_nonneg_right (Int.mul_le_mul_of_nonneg_right (by omega) r0) (by omega)) (by omega) (by omega)
    have u : rnd (v - d - rest) (m + 1 : Nat) 1 ≤ d := by
      refine rnd_le _ _ _ _ (by omega) ?_ (by omega) (by omega)
      have : ((m + 2 : Nat) : Int) * rnd (v - rest) (m + 2 : Nat) 1 ≤ ((m + 2 : Nat) : Int) * d := Int.mul_le_mul_of_nonneg_left e2 (by omega)
      rw [show ((m + 2 : Nat) : Int) * d = d * ((m + 1 : Nat) : Int) + d by grind] at this
      omega
    unfold flD
    omega
/-- At a whole rate all of it at first. -/
theorem flP_whole (cost rest : Int) (n : Nat) (h0 : 0 ≤ rest) : flP cost rest 1000000 n 0 = cost - rest := by
  unfold flP flD
  rw [flV, rnd_whole cost 1000000 2 (by omega) (by omega) (by omega)]
  omega
/-- One period. -/
theorem flP_once (cost rest rate : Int) : flP cost rest rate 1 0 = cost - rest := by
  unfold flP flD
  rw [flV]
  have := rnd_whole (cost - rest) 1 1 (by omega) (by omega) (by omega)
  rw [Int.mul_one] at this
  rw [show ((1 - 0 : Nat) : Int) = 1 from rfl, this]
  omega
/-- Nothing to write off. -/
theorem flP_none (cost rate : Int) (n k : Nat) (h0 : 0 ≤ cost) (r0 : 0 ≤ rate) : flP cost cost rate n k = 0 := by
  have := flP_bd cost cost rate n k h0 (Int.le_refl _) r0
  omega
/-- The rest of the way, from the value after the first period. -/
theorem flV_shift (cost rest rate : Int) (n k : Nat) : flV cost rest rate (n + 1) (k + 1) = flV (cost - flD rest rate cost (n + 1)) rest rate n k := by
  induction k with
  | zero => rw [flV, flV, flV]; rfl
  | succ k ih => rw [flV, ih, flV, show n + 1 - (k + 1) = n - k by omega]
theorem flP_shift (cost rest rate : Int) (n k : Nat) : flP cost rest rate (n + 1) (k + 1) = flP (cost - flD rest rate cost (n + 1)) rest rate n k := by
  unfold flP
  rw [flV_shift, show n + 1 - (k + 1) = n - k by omega]
/-- What the reference divides. -/
theorem up_div (x m : Int) (m1 : 1 ≤ m) : (x + m - 1) / m = rnd x m 1 := by
  obtain ⟨a, b⟩ := rnd_up_spec x m m1
  exact (div_unique (x + m - 1) m (rnd x m 1) m1 (by omega) (by rw [Int.mul_add]; omega)).1

/-! By units. -/
def unS (total : Int) (g : Nat → Int) (k : Nat) : Int := min (sumTo g k) total
def unC (a total : Int) (g : Nat → Int) (k : Nat) : Int := a * unS total g k / total
theorem unS_succ (total : Int) (g : Nat → Int) (k : Nat) (h : 0 ≤ g k) : min (unS total g k + g k) total = unS total g (k + 1) := by
  unfold unS; rw [sumTo]; omega
theorem unS_bd (total : Int) (g : Nat → Int) (k : Nat) (t1 : 1 ≤ total) (h : ∀ j, j < k → 0 ≤ g j) : 0 ≤ unS total g k ∧ unS total g k ≤ total := by
  have : 0 ≤ sumTo g k := by
    induction k with
    | zero => simp [sumTo]
    | succ k ih => have a := ih (fun j hj => h j (by omega)); have b := h k (by omega); rw [sumTo]; omega
  unfold unS; omega
theorem unC_zero (a total : Int) (g : Nat → Int) (t1 : 1 ≤ total) : unC a total g 0 = 0 := by
  unfold unC unS; rw [sumTo, show min (0 : Int) total = 0 by omega]; simp
theorem unC_bd (a total : Int) (g : Nat → Int) (k : Nat) (t1 : 1 ≤ total) (a0 : 0 ≤ a) (h : ∀ j, j < k → 0 ≤ g j) : 0 ≤ unC a total g k ∧ unC a total g k ≤ a := by
  have b := unS_bd total g k t1 h
  unfold unC
  refine ⟨Int.ediv_nonneg (Int.mul_nonneg a0 b.1) (by omega), ?_⟩
  exact Int.ediv_le_of_le_mul (by omega) (Int.mul_le_mul_of_nonneg_left b.2 a0)
theorem unP_bd (a total : Int) (g : Nat → Int) (n i : Nat) (t1 : 1 ≤ total) (a0 : 0 ≤ a) (h : ∀ j, j < n → 0 ≤ g j) (hi : i < n) : -a ≤ dif (unC a total g) i ∧ dif (unC a total g) i ≤ a := by
  have x := unC_bd a total g i t1 a0 (fun j hj => h j (by omega))
  have y := unC_bd a total g (i + 1) t1 a0 (fun j hj => h j (by omega))
  unfold dif; omega
theorem unC_all (a total : Int) (g : Nat → Int) (k : Nat) (t1 : 1 ≤ total) (h : total ≤ sumTo g k) : unC a total g k = a := by
  unfold unC unS; rw [show min (sumTo g k) total = total by omega]; exact Int.mul_ediv_cancel _ (by omega)
/-- A row in which one number is given in two parts. -/
def twoG (g : Nat → Int) (i : Nat) (k : Int) : Nat → Int := fun j => if j < i then g j else if j = i then k else if j = i + 1 then g i - k else g (j - 1)
theorem sum_two_le (g : Nat → Int) (i : Nat) (k : Int) (j : Nat) (h : j ≤ i) : sumTo (twoG g i k) j = sumTo g j :=
  sumTo_congr j (fun t ht => by unfold twoG; rw [if_pos (by omega)])
theorem sum_two_ge (g : Nat → Int) (i : Nat) (k : Int) (m : Nat) : sumTo (twoG g i k) (i + 2 + m) = sumTo g (i + 1 + m) := by
  induction m with
  | zero =>
    rw [show i + 2 + 0 = i + 1 + 1 from rfl, sumTo, sumTo, sum_two_le g i k i (Nat.le_refl i), show i + 1 + 0 = i + 1 from rfl, sumTo]
    have e1 : twoG g i k i = k := by unfold twoG; rw [if_neg (by omega), if_pos rfl]
    have e2 : twoG g i k (i + 1) = g i - k := by unfold twoG; rw [if_neg (by omega), if_neg (by omega), if_pos rfl]
    rw [e1, e2]; omega
  | succ m ih =>
    rw [show i + 2 + (m + 1) = i + 2 + m + 1 from rfl, sumTo, ih, show i + 1 + (m + 1) = i + 1 + m + 1 from rfl, sumTo]
    have : twoG g i k (i + 2 + m) = g (i + 1 + m) := by
      unfold twoG; rw [if_neg (by omega), if_neg (by omega), if_neg (by omega), show i + 2 + m - 1 = i + 1 + m by omega]
    rw [this]
/-- Used in two parts it is as used at once. -/
theorem unC_two_le (a total : Int) (g : Nat → Int) (i : Nat) (k : Int) (j : Nat) (h : j ≤ i) : unC a total (twoG g i k) j = unC a total g j := by
  unfold unC unS; rw [sum_two_le g i k j h]
theorem unC_two_ge (a total : Int) (g : Nat → Int) (i : Nat) (k : Int) (j : Nat) (h : i + 1 ≤ j) : unC a total (twoG g i k) (j + 1) = unC a total g j := by
  obtain ⟨m, rfl⟩ : ∃ m, j = i + 1 + m := ⟨j - (i + 1), by omega⟩
  unfold unC unS
  rw [show i + 1 + m + 1 = i + 2 + m by omega, sum_two_ge g i k m]

end Go.Proofs.Ytklbikifcebckaa
