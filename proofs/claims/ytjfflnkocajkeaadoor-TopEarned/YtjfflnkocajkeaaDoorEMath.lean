/-
  Plain mathematics of what is earned over time: whole parts and rests, days past, the sign. No condition but those that each theorem names.
-/
import Derived.Test.YtjfflnkocajkeaaDoorUWalkP
namespace Go.Proofs.YtjfflnkocajkeaaDoor

theorem rnd_add (q r d : Int) (hd : 1 ≤ d) (hs : 2 * (r % d) = d → (0 < d * q + r ↔ 0 < r)) : rnd (d * q + r) d 2 = q + rnd r d 2 := by
  have e1 : (d * q + r) / d = q + r / d := by rw [Int.add_comm, Int.add_mul_ediv_left _ _ (by omega), Int.add_comm]
  have e2 : (d * q + r) % d = r % d := by rw [Int.add_comm, Int.add_mul_emod_self_left]
  unfold rnd
  rw [upB_2, upB_2, e1, e2]
  by_cases h1 : d < 2 * (r % d)
  · rw [if_pos (by simp [h1]), if_pos (by simp [h1])]; omega
  · by_cases h2 : 2 * (r % d) = d
    · have := hs h2
      by_cases h3 : 0 < r
      · rw [if_pos (by simp [h2]; exact this.2 h3), if_pos (by simp [h2, h3])]; omega
      · rw [if_neg (by simp [h2]; exact Int.not_lt.1 (fun z => h3 (this.1 z))), if_neg (by simp [h2]; omega)]
    · rw [if_neg (by simp [h1, h2]), if_neg (by simp [h1, h2])]
/-- Only what is left is rounded. -/
theorem near_eq (n d : Int) (hd : 1 ≤ d) : n.tdiv d + rnd (n.tmod d) d 2 = rnd n d 2 := by
  have e := Int.mul_tdiv_add_tmod n d
  have k := rnd_add (n.tdiv d) (n.tmod d) d hd (by
    intro ht
    rw [e]
    have nz : n.tmod d ≠ 0 := by intro z; rw [z] at ht; simp at ht; omega
    by_cases c : 0 ≤ n
    · have := Int.tmod_nonneg d c
      constructor
      · intro _; omega
      · intro h; by_cases z : n = 0
        · subst z; simp at nz
        · omega
    · have : (-n).tmod d = -(n.tmod d) := Int.neg_tmod n d
      have := Int.tmod_nonneg d (show 0 ≤ -n by omega)
      constructor <;> intro h <;> omega)
  rw [e] at k
  exact k.symm
theorem rnd_neg (n d : Int) (hd : 1 ≤ d) : rnd (-n) d 2 = -(rnd n d 2) := by
  obtain ⟨a, b⟩ := neg_div n d hd
  have r0 := Int.emod_nonneg n (show d ≠ 0 by omega)
  have r1 := Int.emod_lt_of_pos n (show 0 < d by omega)
  unfold rnd
  rw [upB_2, upB_2]
  by_cases z : n % d = 0
  · obtain ⟨a1, a2⟩ := a z
    rw [a1, a2, z, if_neg (by simp; omega), if_neg (by simp; omega)]
  · obtain ⟨b1, b2⟩ := b z
    have n0 : n ≠ 0 := by intro h; rw [h] at z; simp at z
    rw [b1, b2]
    by_cases h1 : d < 2 * (n % d)
    · rw [if_neg (by simp; omega), if_pos (by simp [h1])]; omega
    · by_cases h2 : 2 * (n % d) = d
      · by_cases h3 : 0 < n
        · rw [if_neg (by simp; omega), if_pos (by simp [h2, h3])]; omega
        · rw [if_pos (by simp; omega), if_neg (by simp; omega)]; omega
      · rw [if_pos (by simp; omega), if_neg (by simp; omega)]; omega
/-- The days that are past. -/
def pst (f t d : Int) : Int := max (min d t - f + 1) 0
/-- What is earned. -/
def eaV (a f t d : Int) : Int := rnd (a * pst f t d) (t - f + 1) 2
theorem pst_bd (f t d : Int) (h : f ≤ t) : 0 ≤ pst f t d ∧ pst f t d ≤ t - f + 1 := by unfold pst; omega
theorem pst_mono (f t : Int) {c d : Int} (h : c ≤ d) : pst f t c ≤ pst f t d := by unfold pst; omega
theorem pst_none {f t d : Int} (h : d < f) : pst f t d = 0 := by unfold pst; omega
theorem pst_all {f t d : Int} (h : t ≤ d) (k : f ≤ t) : pst f t d = t - f + 1 := by unfold pst; omega
theorem eaV_none {a f t d : Int} (h : d < f) (k : f ≤ t) : eaV a f t d = 0 := by
  unfold eaV
  rw [pst_none h, Int.mul_zero, show (0 : Int) = 0 * (t - f + 1) by omega, rnd_whole _ _ _ (by omega) (by omega) (by omega)]
  omega
theorem eaV_all {a f t d : Int} (h : t ≤ d) (k : f ≤ t) : eaV a f t d = a := by
  unfold eaV; rw [pst_all h k, rnd_whole _ _ _ (by omega) (by omega) (by omega)]
theorem eaV_neg {a f t d : Int} (k : f ≤ t) : eaV (-a) f t d = -(eaV a f t d) := by
  unfold eaV; rw [Int.neg_mul, rnd_neg _ _ (by omega)]
theorem eaV_mono {a f t c d : Int} (k : f ≤ t) (h : c ≤ d) (a0 : 0 ≤ a) : eaV a f t c ≤ eaV a f t d := by
  unfold eaV
  exact rnd_mono _ _ _ _ _ (by omega) (by omega) (Int.mul_le_mul_of_nonneg_right (Int.mul_le_mul_of_nonneg_left (pst_mono f t h) a0) (by omega)) (by omega) (by omega)
theorem eaV_nonneg {a f t d : Int} (k : f ≤ t) (a0 : 0 ≤ a) : 0 ≤ eaV a f t d := rnd_nonneg _ _ _ (by omega) (Int.mul_nonneg a0 (pst_bd f t d k).1) (by omega) (by omega)
theorem eaV_le {a f t d : Int} (k : f ≤ t) (a0 : 0 ≤ a) : eaV a f t d ≤ a := rnd_le _ _ _ _ (by omega) (Int.mul_le_mul_of_nonneg_left (pst_bd f t d k).2 a0) (by omega) (by omega)
theorem eaV_turn {a f t d : Int} (k : f ≤ t) : eaV a f t d = -(eaV (-a) f t d) := by rw [eaV_neg k]; omega
theorem eaV_bd {a f t d : Int} (k : f ≤ t) (B : Int) (h0 : -B ≤ a) (h1 : a ≤ B) : -B ≤ eaV a f t d ∧ eaV a f t d ≤ B := by
  by_cases c : 0 ≤ a
  · have := eaV_nonneg (d := d) k c; have := eaV_le (d := d) k c; omega
  · have := eaV_nonneg (a := -a) (d := d) k (by omega); have := eaV_le (a := -a) (d := d) k (by omega); rw [eaV_turn k]; omega
/-- A part for each day. -/
theorem eaV_days {n f long at_ : Int} (h0 : 0 ≤ at_) (h1 : at_ < long) : eaV (n * long) f (f + long - 1) (f + at_) = n * (at_ + 1) := by
  unfold eaV
  rw [show pst f (f + long - 1) (f + at_) = at_ + 1 by unfold pst; omega, show f + long - 1 - f + 1 = long by omega,
    show n * long * (at_ + 1) = n * (at_ + 1) * long by rw [Int.mul_assoc, Int.mul_comm long, ← Int.mul_assoc], rnd_whole _ _ _ (by omega) (by omega) (by omega)]

end Go.Proofs.YtjfflnkocajkeaaDoor
