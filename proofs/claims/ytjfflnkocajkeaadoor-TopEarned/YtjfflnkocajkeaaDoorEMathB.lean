/-
  Plain mathematics of what is earned month by month: the ends of calendar months, how many there are, sums of parts. No condition but those that each theorem names.
-/
import Derived.Test.YtjfflnkocajkeaaDoorWalkB
namespace Go.Proofs.YtjfflnkocajkeaaDoor

/-- The last day of the k-th month from that of day f; of none: the day before f. -/
def enD (f : Int) : Nat → Int
  | 0 => f - 1
  | k + 1 => lastV (enD f k + 1)
/-- How many calendar months. -/
def mCt (f t : Int) : Int := idx t 0 - idx f 0 + 1
theorem idx_last (n : Int) (n0 : 0 ≤ n) (n1 : n ≤ 292193) : idx (lastV n) 0 = idx n 0 ∧ Cal.D (lastV n) = Cal.dim (Cal.Y (lastV n)) (Cal.M (lastV n)) ∧ lastV (lastV n) = lastV n ∧ n ≤ lastV n ∧ lastV n ≤ 292193 := by
  obtain ⟨a, b, c, d, e, f, g⟩ := last_date n n0 n1
  refine ⟨by unfold idx; rw [a, b], by rw [a, b, c], g, d, f⟩
theorem enD_spec (f t : Int) (f0 : 0 ≤ f) (ft : f ≤ t) (t1 : t ≤ 292193) (k : Nat) (h : (k : Int) < mCt f t) :
    f - 1 ≤ enD f k ∧ enD f k < t ∧ enD f k < enD f (k + 1) ∧ f ≤ enD f (k + 1) ∧ enD f (k + 1) ≤ 292193 ∧ idx (enD f (k + 1)) 0 = idx f 0 + k ∧ Cal.D (enD f (k + 1)) = Cal.dim (Cal.Y (enD f (k + 1))) (Cal.M (enD f (k + 1))) ∧ lastV (enD f (k + 1)) = enD f (k + 1) := by
  induction k with
  | zero =>
    obtain ⟨a, b, c, d, e⟩ := idx_last f f0 (by omega)
    have z : enD f (0 + 1) = lastV f := by show lastV (f - 1 + 1) = lastV f; rw [show f - 1 + 1 = f by omega]
    rw [z]
    show f - 1 ≤ f - 1 ∧ f - 1 < t ∧ f - 1 < lastV f ∧ _
    exact ⟨by omega, by omega, by omega, d, e, by rw [a]; simp, b, c⟩
  | succ k ih =>
    obtain ⟨a, b, c, d, e, i1, i2, i3⟩ := ih (by omega)
    have z : enD f (k + 1 + 1) = lastV (enD f (k + 1) + 1) := rfl
    generalize enD f (k + 1) = x at *
    have lt : x < t := by
      by_cases q : x < t
      · exact q
      · exfalso
        have := (day_le_iff t x (by omega) t1 (by omega) e).1 (by omega)
        unfold mCt at h
        omega
    have nx : x ≠ 292193 := by omega
    obtain ⟨n1, n2, n3⟩ := last_next x (by omega) e (by rw [i3]; exact nx)
    rw [i3] at n1 n2 n3
    obtain ⟨l1, l2, l3, l4, l5⟩ := idx_last (x + 1) (by omega) n3
    rw [z]
    refine ⟨by omega, lt, by omega, by omega, l5, ?_, l2, l3⟩
    rw [l1]
    have e1 : idx (x + 1) 0 = idx x 0 + 1 := by unfold idx; omega
    rw [e1, i1]; omega
theorem enD_end (f t : Int) (f0 : 0 ≤ f) (ft : f ≤ t) (t1 : t ≤ 292193) (k : Nat) (h : (k : Int) = mCt f t) (k1 : 1 ≤ k) : t ≤ enD f k ∧ enD f k ≤ 292193 := by
  obtain ⟨j, rfl⟩ : ∃ j, k = j + 1 := ⟨k - 1, by omega⟩
  obtain ⟨a, b, c, d, e, i1, i2, i3⟩ := enD_spec f t f0 ft t1 j (by omega)
  refine ⟨?_, e⟩
  have hi : idx (enD f (j + 1)) 0 = idx t 0 := by unfold mCt at h; omega
  obtain ⟨y1, y2⟩ := idx_y t (by omega) t1
  obtain ⟨z1, z2⟩ := idx_y (enD f (j + 1)) (by omega) e
  rw [hi] at z1 z2
  have dd := dbd t (by omega) t1
  refine (day_le_iff t (enD f (j + 1)) (by omega) t1 (by omega) e).2 (.inr ⟨hi.symm, ?_⟩)
  rw [i2, ← z1, ← z2, y1, y2]
  exact dd.2.2.2.2.2.1
theorem mCt_pos (f t : Int) (f0 : 0 ≤ f) (ft : f ≤ t) (t1 : t ≤ 292193) : 1 ≤ mCt f t := by
  have := (day_le_iff f t f0 (by omega) (by omega) t1).1 ft
  unfold mCt; omega
/-- What is earned by the end of a month; in a month. -/
def eaC (a f t : Int) (k : Nat) : Int := eaV a f t (enD f k)
def eaP (a f t : Int) : Nat → Int := fun j => eaC a f t (j + 1) - eaC a f t j
theorem eaC_zero (a f t : Int) (ft : f ≤ t) : eaC a f t 0 = 0 := eaV_none (show f - 1 < f by omega) ft
theorem eaC_end (a f t : Int) (f0 : 0 ≤ f) (ft : f ≤ t) (t1 : t ≤ 292193) (k : Nat) (h : (k : Int) = mCt f t) : eaC a f t k = a := by
  have := mCt_pos f t f0 ft t1
  exact eaV_all (enD_end f t f0 ft t1 k h (by omega)).1 ft
theorem eaP_sum (a f t : Int) (ft : f ≤ t) (k : Nat) : sumTo (eaP a f t) k = eaC a f t k := by
  unfold eaP
  rw [sumTo_tele (eaC a f t), eaC_zero a f t ft]; omega
theorem eaC_bd {a f t : Int} (ft : f ≤ t) (k : Nat) (h0 : -1000000000000 ≤ a) (h1 : a ≤ 1000000000000) : -1000000000000 ≤ eaC a f t k ∧ eaC a f t k ≤ 1000000000000 := eaV_bd ft _ h0 h1

end Go.Proofs.YtjfflnkocajkeaaDoor
