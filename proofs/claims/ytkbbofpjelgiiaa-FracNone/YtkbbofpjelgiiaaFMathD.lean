/-
  Sums and products as Lean's rational numbers, under names of their own. No condition.
-/
import Derived.Test.YtkbbofpjelgiiaaFMathC
namespace Go.Proofs.Ytkbbofpjelgiiaa

/-- A number's numbers in lowest terms. -/
def rn (r : Rat) : Int := r.num
def rd (r : Rat) : Int := r.den
theorem q_r (r : Rat) : q (rn r) (rd r) = r := q_self r
/-- It may be a fraction. -/
def OkR (r : Rat) : Prop := okB (rn r) (rd r) = true
/-- A fraction that may be, of numbers that may be. -/
theorem okR_q (a b : Int) (h0 : -1000000000000 ≤ a) (h1 : a ≤ 1000000000000) (h2 : 1 ≤ b) (h3 : b ≤ 1000000) : OkR (q a b) :=
  low_ok (n := a) (d := b) ((ok_iff a b).2 ⟨h0, h1, h2, h3⟩)
theorem low_r (a b : Int) : lN a b = rn (q a b) ∧ lD a b = rd (q a b) := ⟨rfl, rfl⟩
theorem sum_r {a b c d : Int} {r s t : Rat} (e1 : q a b = r) (e2 : q c d = s) (e : t = r + s) : sN a b c d = rn t ∧ sD a b c d = rd t := by
  unfold sN sD rn rd; rw [e1, e2, e]; exact ⟨rfl, rfl⟩
theorem prod_r {a b c d : Int} {r s t : Rat} (e1 : q a b = r) (e2 : q c d = s) (e : t = r * s) : pN a b c d = rn t ∧ pD a b c d = rd t := by
  unfold pN pD rn rd; rw [e1, e2, e]; exact ⟨rfl, rfl⟩
/-- Sums and products of small ones, by the numbers. -/
theorem q_add3 (a b c d e f : Int) (hb : 1 ≤ b) (hd : 1 ≤ d) (hf : 1 ≤ f) : q a b + q c d + q e f = q ((a * d + c * b) * f + e * (b * d)) (b * d * f) := by
  have h : 1 ≤ b * d := by have := Int.mul_le_mul hb hd (by omega) (by omega); omega
  rw [← q_add a b c d hb hd, ← q_add _ _ e f h hf]
theorem q_mul3 (a b c d e f : Int) (hb : 1 ≤ b) (hd : 1 ≤ d) (hf : 1 ≤ f) : q a b * q c d * q e f = q (a * c * e) (b * d * f) := by
  have h : 1 ≤ b * d := by have := Int.mul_le_mul hb hd (by omega) (by omega); omega
  rw [← q_mul a b c d hb hd, ← q_mul _ _ e f h hf]
theorem q_muladd (a b c d e f : Int) (hb : 1 ≤ b) (hd : 1 ≤ d) (hf : 1 ≤ f) : q a b * (q c d + q e f) = q (a * (c * f + e * d)) (b * (d * f)) := by
  have h : 1 ≤ d * f := by have := Int.mul_le_mul hd hf (by omega) (by omega); omega
  rw [← q_add c d e f hd hf, ← q_mul a b _ _ hb h]
/-- A small one: -1000 to 1000, by 1 to 40. -/
def Sm (n d : Int) : Prop := -1000 ≤ n ∧ n ≤ 1000 ∧ 1 ≤ d ∧ d ≤ 40
theorem pos_mul (a b x y : Int) (a0 : 1 ≤ a) (b0 : 1 ≤ b) (ha : a ≤ x) (hb : b ≤ y) : 1 ≤ a * b ∧ a * b ≤ x * y := by
  have h1 : 1 * 1 ≤ a * b := Int.mul_le_mul a0 b0 (by omega) (by omega)
  have h2 : a * b ≤ x * y := Int.mul_le_mul ha hb (by omega) (by omega)
  omega
theorem sm_add {a b c d : Int} (h : Sm a b) (k : Sm c d) : OkR (q a b + q c d) := by
  obtain ⟨a0, a1, b0, b1⟩ := h
  obtain ⟨c0, c1, d0, d1⟩ := k
  have m1 := mul_abs a d 1000 40 a0 a1 (by omega) d1
  have m2 := mul_abs c b 1000 40 c0 c1 (by omega) b1
  have m3 := pos_mul b d 40 40 b0 d0 b1 d1
  rw [← q_add a b c d b0 d0]
  exact okR_q _ _ (by omega) (by omega) (by omega) (by omega)
theorem sm_mul {a b c d : Int} (h : Sm a b) (k : Sm c d) : OkR (q a b * q c d) := by
  obtain ⟨a0, a1, b0, b1⟩ := h
  obtain ⟨c0, c1, d0, d1⟩ := k
  have m1 := mul_abs a c 1000 1000 a0 a1 c0 c1
  have m3 := pos_mul b d 40 40 b0 d0 b1 d1
  rw [← q_mul a b c d b0 d0]
  exact okR_q _ _ (by omega) (by omega) (by omega) (by omega)
theorem sm_add3 {a b c d e f : Int} (h : Sm a b) (k : Sm c d) (l : Sm e f) : OkR (q a b + q c d + q e f) := by
  obtain ⟨a0, a1, b0, b1⟩ := h
  obtain ⟨c0, c1, d0, d1⟩ := k
  obtain ⟨e0, e1, f0, f1⟩ := l
  have m1 := mul_abs a d 1000 40 a0 a1 (by omega) d1
  have m2 := mul_abs c b 1000 40 c0 c1 (by omega) b1
  have m3 := pos_mul b d 40 40 b0 d0 b1 d1
  have m4 := mul_abs (a * d + c * b) f 80000 40 (by omega) (by omega) (by omega) f1
  have m5 := mul_abs e (b * d) 1000 1600 e0 e1 (by omega) (by omega)
  have m6 := pos_mul (b * d) f 1600 40 (by omega) f0 (by omega) f1
  rw [q_add3 a b c d e f b0 d0 f0]
  exact okR_q _ _ (by omega) (by omega) (by omega) (by omega)
theorem sm_mul3 {a b c d e f : Int} (h : Sm a b) (k : Sm c d) (l : Sm e f) : OkR (q a b * q c d * q e f) := by
  obtain ⟨a0, a1, b0, b1⟩ := h
  obtain ⟨c0, c1, d0, d1⟩ := k
  obtain ⟨e0, e1, f0, f1⟩ := l
  have m1 := mul_abs a c 1000 1000 a0 a1 c0 c1
  have m3 := pos_mul b d 40 40 b0 d0 b1 d1
  have m4 := mul_abs (a * c) e 1000000 1000 (by omega) (by omega) e0 e1
  have m6 := pos_mul (b * d) f 1600 40 (by omega) f0 (by omega) f1
  rw [q_mul3 a b c d e f b0 d0 f0]
  exact okR_q _ _ (by omega) (by omega) (by omega) (by omega)
theorem sm_muladd {a b c d e f : Int} (h : Sm a b) (k : Sm c d) (l : Sm e f) : OkR (q a b * (q c d + q e f)) := by
  obtain ⟨a0, a1, b0, b1⟩ := h
  obtain ⟨c0, c1, d0, d1⟩ := k
  obtain ⟨e0, e1, f0, f1⟩ := l
  have m1 := mul_abs c f 1000 40 c0 c1 (by omega) f1
  have m2 := mul_abs e d 1000 40 e0 e1 (by omega) d1
  have m3 := pos_mul d f 40 40 d0 f0 d1 f1
  have m4 := mul_abs a (c * f + e * d) 1000 80000 (by omega) (by omega) (by omega) (by omega)
  have m6 := pos_mul b (d * f) 40 1600 b0 (by omega) b1 (by omega)
  rw [q_muladd a b c d e f b0 d0 f0]
  exact okR_q _ _ (by omega) (by omega) (by omega) (by omega)
theorem sm_ok {a b : Int} (h : Sm a b) : okB a b = true := by
  obtain ⟨a0, a1, b0, b1⟩ := h
  rw [ok_iff]; omega

end Go.Proofs.Ytkbbofpjelgiiaa
