/-
  Plain mathematics of the order of fractions, and of sums and products: by Lean's own rational numbers. No condition.
-/
import Derived.Test.YtkbbofpjelgiiaaFMath
namespace Go.Proofs.Ytkbbofpjelgiiaa

def cmpR (r s : Rat) : Int := if r < s then -1 else if s < r then 1 else 0
theorem cmp_r (r s : Rat) : cmpV (r.num * s.den) (s.num * r.den) = cmpR r s := by
  unfold cmpV cmpR
  simp only [Rat.lt_iff]
theorem lt_q (a b c d : Int) (hb : 1 ≤ b) (hd : 1 ≤ d) : a * d < c * b ↔ q a b < q c d := by
  have e1 := lN_eq a b hb
  have e2 := lD_eq a b hb
  have e3 := lN_eq c d hd
  have e4 := lD_eq c d hd
  have g1 := gcd_pos a b hb
  have g2 := gcd_pos c d hd
  rw [Rat.lt_iff]
  change _ ↔ lN a b * lD c d < lN c d * lD a b
  generalize lN a b = A at *
  generalize lD a b = B at *
  generalize lN c d = C at *
  generalize lD c d = D at *
  generalize hg : ((Nat.gcd b.toNat a.natAbs : Nat) : Int) = G at *
  generalize hk : ((Nat.gcd d.toNat c.natAbs : Nat) : Int) = K at *
  have hG : 0 < G := by omega
  have hK : 0 < K := by omega
  have l : a * d = A * D * (G * K) := by rw [e1, e4]; grind
  have r : c * b = C * B * (G * K) := by rw [e3, e2]; grind
  rw [l, r]
  have p : 0 < G * K := Int.mul_pos hG hK
  exact ⟨fun h => Int.lt_of_mul_lt_mul_right h (Int.le_of_lt p), fun h => Int.mul_lt_mul_of_pos_right h p⟩
theorem cmp_q (a b c d : Int) (hb : 1 ≤ b) (hd : 1 ≤ d) : cmpV (a * d) (c * b) = cmpR (q a b) (q c d) := by
  unfold cmpV cmpR
  simp only [lt_q a b c d hb hd, lt_q c d a b hd hb]
theorem cmpR_neg (r s : Rat) : cmpR r s = - cmpR s r := by
  unfold cmpR
  by_cases h : r < s
  · rw [if_pos h, if_neg (by rw [Rat.not_lt]; exact Rat.le_of_lt h), if_pos h]
  · rw [if_neg h]
    by_cases k : s < r
    · rw [if_pos k, if_pos k]; rfl
    · rw [if_neg k, if_neg k, if_neg h]; rfl
theorem cmpR_le (r s : Rat) : cmpR r s ≤ 0 ↔ r ≤ s := by
  unfold cmpR
  by_cases h : r < s
  · rw [if_pos h]; exact ⟨fun _ => Rat.le_of_lt h, fun _ => by omega⟩
  · rw [if_neg h]
    by_cases k : s < r
    · rw [if_pos k]
      constructor
      · intro z; omega
      · intro z; exact absurd k (Rat.not_lt.2 z)
    · rw [if_neg k]; exact ⟨fun _ => Rat.not_lt.1 k, fun _ => by omega⟩
theorem cmpR_trans (r s t : Rat) (h : cmpR r s ≤ 0) (k : cmpR s t ≤ 0) : ¬ 0 < cmpR r t := by
  rw [cmpR_le] at h k
  have := (cmpR_le r t).2 (Rat.le_trans h k)
  omega
theorem cmpR_add (r s t : Rat) : cmpR (r + t) (s + t) = cmpR r s := by
  unfold cmpR
  simp only [Rat.add_lt_add_right]
/-- Sums and products compared: as the numbers. -/
theorem cmp_sums (a b c d e f : Int) (hb : 1 ≤ b) (hd : 1 ≤ d) : cmpV (sN a b e f * sD c d e f) (sN c d e f * sD a b e f) = cmpV (a * d) (c * b) := by
  rw [cmp_q a b c d hb hd]
  unfold sN sD
  rw [cmp_r, cmpR_add]
theorem cmp_anti (a b c d : Int) (hb : 1 ≤ b) (hd : 1 ≤ d) : cmpV (a * d) (c * b) = - cmpV (c * b) (a * d) := by
  rw [cmp_q a b c d hb hd, cmp_q c d a b hd hb]; exact cmpR_neg _ _
theorem cmp_tr (a b c d e f : Int) (hb : 1 ≤ b) (hd : 1 ≤ d) (hf : 1 ≤ f) (h : cmpV (a * d) (c * b) ≤ 0) (k : cmpV (c * f) (e * d) ≤ 0) : ¬ 0 < cmpV (a * f) (e * b) := by
  rw [cmp_q a b c d hb hd] at h
  rw [cmp_q c d e f hd hf] at k
  rw [cmp_q a b e f hb hf]
  exact cmpR_trans _ _ _ h k

end Go.Proofs.Ytkbbofpjelgiiaa
