/-
  Plain mathematics of rows: a row as a function of its places; what Even gives. No condition.
-/
namespace Go.Proofs.Ytdgiljndoeldcaa

/-- A row of n places. -/
def tab (n : Nat) (g : Nat → Int) : List Int := (List.range n).map g
theorem tab_len (n : Nat) (g : Nat → Int) : (tab n g).length = n := by simp [tab]
theorem tab_get (n : Nat) (g : Nat → Int) (j : Nat) (h : j < (tab n g).length) : (tab n g)[j] = g j := by simp [tab]
/-- One place turned. -/
def up (g : Nat → Int) (i : Nat) (v : Int) : Nat → Int := fun j => if j = i then v else g j
theorem up_same (g : Nat → Int) (i : Nat) (v : Int) : up g i v i = v := by simp [up]
theorem up_ne (g : Nat → Int) {i j : Nat} (v : Int) (h : j ≠ i) : up g i v j = g j := by simp [up, h]
theorem tab_set (n : Nat) (g : Nat → Int) (i : Nat) (v : Int) : (tab n g).set i v = tab n (up g i v) := by
  apply List.ext_getElem
  · simp [tab]
  · intro j h1 h2
    rw [List.getElem_set, tab_get, tab_get]
    unfold up
    by_cases e : i = j
    · simp [e]
    · have e' : ¬ j = i := fun z => e z.symm
      simp [e, e']
theorem tab_congr (n : Nat) {g h : Nat → Int} (e : ∀ j, j < n → g j = h j) : tab n g = tab n h := by
  unfold tab; apply List.map_congr_left; intro j hj; exact e j (by simpa using hj)
theorem tab_zero (n : Nat) : List.replicate n (0 : Int) = tab n (fun _ => 0) := by
  apply List.ext_getElem
  · simp [tab]
  · intro j h1 h2; simp [tab]
theorem tab_list (l : List Int) : l = tab l.length (fun j => l.getD j 0) := by
  apply List.ext_getElem
  · simp [tab]
  · intro j h1 h2
    rw [tab_get]; simp [h1]
/-- Done up to k, the rest as it was. -/
def mix (f g : Nat → Int) (k : Nat) : Nat → Int := fun j => if j < k then f j else g j
theorem mix_zero (f g : Nat → Int) : mix f g 0 = g := by funext j; simp [mix]
theorem mix_set (f g : Nat → Int) (k : Nat) : up (mix f g k) k (f k) = mix f g (k + 1) := by
  funext j
  unfold up mix
  by_cases e : j = k
  · subst e; simp
  · rw [if_neg e]
    by_cases c : j < k
    · rw [if_pos c, if_pos (by omega)]
    · rw [if_neg c, if_neg (by omega)]
theorem mix_at (f g : Nat → Int) (k : Nat) : mix f g k k = g k := by simp [mix]
theorem mix_end (f g : Nat → Int) (n : Nat) : tab n (mix f g n) = tab n f := tab_congr n (fun j hj => by simp [mix, hj])

/-- Sums of the first ones. -/
def sumTo (g : Nat → Int) : Nat → Int
  | 0 => 0
  | k + 1 => sumTo g k + g k
theorem sumTo_tele (c : Nat → Int) (n : Nat) : sumTo (fun i => c (i + 1) - c i) n = c n - c 0 := by
  induction n with
  | zero => simp [sumTo]
  | succ n ih => rw [sumTo, ih]; omega
theorem sumTo_neg (g : Nat → Int) (n : Nat) : sumTo (fun i => -(g i)) n = -(sumTo g n) := by
  induction n with
  | zero => simp [sumTo]
  | succ n ih => rw [sumTo, sumTo, ih]; omega
theorem sumTo_congr {g h : Nat → Int} (n : Nat) (e : ∀ j, j < n → g j = h j) : sumTo g n = sumTo h n := by
  induction n with
  | zero => rfl
  | succ n ih => rw [sumTo, sumTo, ih (fun j hj => e j (by omega)), e n (by omega)]
theorem sumTo_bd (g : Nat → Int) (B : Int) (n : Nat) (h : ∀ j, j < n → -B ≤ g j ∧ g j ≤ B) : -(B * n) ≤ sumTo g n ∧ sumTo g n ≤ B * n := by
  induction n with
  | zero => simp [sumTo]
  | succ n ih =>
    have a := ih (fun j hj => h j (by omega))
    have b := h n (by omega)
    have e : B * ((n + 1 : Nat) : Int) = B * n + B := by
      rw [show ((n + 1 : Nat) : Int) = (n : Int) + 1 by omega, Int.mul_add]; omega
    rw [sumTo, e]; omega

/-! What Even gives. -/
/-- How much there is by part k, of a whole that is not below 0. -/
def evC (a : Int) (n : Nat) (k : Nat) : Int := a * k / n
def evP (a : Int) (n : Nat) (i : Nat) : Int := evC a n (i + 1) - evC a n i
/-- The sign of an amount laid on a part. -/
def sg (amount v : Int) : Int := if amount < 0 then -v else v
def evV (amount : Int) (n : Nat) : Nat → Int := fun i => sg amount (evP (amount.natAbs : Int) n i)
theorem sumTo_sg (amount : Int) (g : Nat → Int) (n : Nat) : sumTo (fun i => sg amount (g i)) n = sg amount (sumTo g n) := by
  unfold sg
  split
  · exact sumTo_neg g n
  · rfl
theorem evC_bd (a : Int) (n k : Nat) (h0 : 0 ≤ a) (hn : 1 ≤ n) (hk : k ≤ n) : 0 ≤ evC a n k ∧ evC a n k ≤ a := by
  unfold evC
  have h2 : a * (k : Int) ≤ a * (n : Int) := Int.mul_le_mul_of_nonneg_left (by omega) h0
  refine ⟨Int.ediv_nonneg (Int.mul_nonneg h0 (by omega)) (by omega), ?_⟩
  exact Int.ediv_le_of_le_mul (by omega) h2
theorem evC_zero (a : Int) (n : Nat) : evC a n 0 = 0 := by simp [evC]
theorem evC_all (a : Int) (n : Nat) (hn : 1 ≤ n) : evC a n n = a := by
  unfold evC; exact Int.mul_ediv_cancel _ (by omega)
theorem evC_spec (a : Int) (n k : Nat) (hn : 1 ≤ n) : evC a n k * n ≤ a * k ∧ a * k < (evC a n k + 1) * n := by
  unfold evC
  have e := Int.mul_ediv_add_emod (a * k) n
  have r0 := Int.emod_nonneg (a * k) (show (n : Int) ≠ 0 by omega)
  have r1 := Int.emod_lt_of_pos (a * k) (show (0 : Int) < n by omega)
  rw [Int.add_mul, Int.mul_comm (a * k / n) n]
  omega
theorem evV_sum (amount : Int) (n : Nat) (hn : 1 ≤ n) : sumTo (evV amount n) n = amount := by
  unfold evV
  rw [sumTo_sg]
  unfold evP
  rw [sumTo_tele (evC _ n), evC_zero, evC_all _ _ hn]
  unfold sg; split <;> omega
/-- No part is farther than one from another one. -/
theorem evP_near (a : Int) (n i : Nat) (hn : 1 ≤ n) : a / n ≤ evP a n i ∧ evP a n i ≤ a / n + 1 := by
  have s1 := evC_spec a n i hn
  have s2 := evC_spec a n (i + 1) hn
  have e := Int.mul_ediv_add_emod a n
  have r0 := Int.emod_nonneg a (show (n : Int) ≠ 0 by omega)
  have r1 := Int.emod_lt_of_pos a (show (0 : Int) < n by omega)
  unfold evP
  generalize evC a n i = x at *
  generalize evC a n (i + 1) = y at *
  rw [show ((i + 1 : Nat) : Int) = (i : Int) + 1 by omega, Int.mul_add] at s2
  generalize a / (n : Int) = z at *
  have hn' : (0 : Int) < n := by omega
  constructor
  · by_cases c : z ≤ y - x
    · exact c
    · exfalso
      have : (n : Int) * (y - x + 1) ≤ n * z := Int.mul_le_mul_of_nonneg_left (by omega) (by omega)
      grind
  · by_cases c : y - x ≤ z + 1
    · exact c
    · exfalso
      have : (n : Int) * (z + 2) ≤ n * (y - x) := Int.mul_le_mul_of_nonneg_left (by omega) (by omega)
      grind

end Go.Proofs.Ytdgiljndoeldcaa
