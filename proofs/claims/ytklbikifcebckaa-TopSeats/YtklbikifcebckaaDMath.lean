/-
  Plain mathematics of the dealing of seats: who is next, what is held after so many seats, and that no last seat is one that another one had more right to. No condition but those that each theorem names.
-/
import Derived.Test.YtklbikifcebckaaSWalkE
namespace Go.Proofs.Ytklbikifcebckaa

/-- The divisor of one who has s seats. -/
def dv (way s : Int) : Int := if way = 0 then s + 1 else if way = 1 then 2 * s + 1 else s
theorem dv_nonneg {way s : Int} (h : 0 ≤ s) : 0 ≤ dv way s := by unfold dv; split <;> (try split) <;> omega
theorem dv_mono {way s t : Int} (h : s ≤ t) : dv way s ≤ dv way t := by unfold dv; split <;> (try split) <;> omega
theorem dv_lt {way s t : Int} (h : s < t) : dv way s < dv way t := by unfold dv; split <;> (try split) <;> omega
theorem dv_le {way s : Int} (h : 0 ≤ s) : dv way s ≤ 2 * s + 1 := by unfold dv; split <;> (try split) <;> omega

/-- One claim comes before another one: votes, divisor, place. -/
def Pre (va da : Int) (a : Nat) (vb db : Int) (b : Nat) : Prop := vb * da < va * db ∨ (vb * da = va * db ∧ a < b)
theorem Pre.le {va da vb db : Int} {a b : Nat} (h : Pre va da a vb db b) : vb * da ≤ va * db := by
  rcases h with h | h <;> omega
theorem Pre.tie {va da vb db : Int} {a b : Nat} (h : Pre va da a vb db b) (e : va * db ≤ vb * da) : a < b := by
  rcases h with h | h <;> omega
theorem Pre.trans {va da vb db vc dc : Int} {a b c : Nat} (a0 : 0 < va) (b0 : 0 < vb) (c0 : 0 < vc) (da0 : 0 ≤ da) (db0 : 0 ≤ db) (dc0 : 0 ≤ dc)
    (h : Pre va da a vb db b) (k : Pre vb db b vc dc c) : Pre va da a vc dc c := by
  have e1 := h.le
  have e2 := k.le
  by_cases hb : db = 0
  · subst hb
    have hda : da = 0 := by
      by_cases z : da = 0
      · exact z
      · have : 0 < vb * da := Int.mul_pos b0 (by omega)
        omega
    subst hda
    have t1 := h.tie (by omega)
    by_cases z : dc = 0
    · subst z
      have t2 := k.tie (by omega)
      exact .inr ⟨by omega, by omega⟩
    · have : 0 < va * dc := Int.mul_pos a0 (by omega)
      exact .inl (by omega)
  · have db1 : 0 < db := by omega
    have m1 : vb * da * dc ≤ va * db * dc := Int.mul_le_mul_of_nonneg_right e1 dc0
    have m2 : vc * db * da ≤ vb * dc * da := Int.mul_le_mul_of_nonneg_right e2 da0
    have r1 : vb * da * dc = vb * dc * da := by rw [Int.mul_assoc, Int.mul_comm da dc, ← Int.mul_assoc]
    have r2 : va * db * dc = va * dc * db := by rw [Int.mul_assoc, Int.mul_comm db dc, ← Int.mul_assoc]
    have r3 : vc * db * da = vc * da * db := by rw [Int.mul_assoc, Int.mul_comm db da, ← Int.mul_assoc]
    have m : vc * da * db ≤ va * dc * db := by omega
    have le : vc * da ≤ va * dc := Int.le_of_mul_le_mul_right m db1
    by_cases eq : vc * da = va * dc
    · refine .inr ⟨eq, ?_⟩
      have x : vc * da * db = va * dc * db := by rw [eq]
      have dc1 : 0 < dc := by
        by_cases z : dc = 0
        · subst z
          have : 0 < vc * db := Int.mul_pos c0 db1
          omega
        · omega
      have q1 : va * db ≤ vb * da := by
        have : va * db * dc ≤ vb * da * dc := by omega
        exact Int.le_of_mul_le_mul_right this dc1
      have da1 : 0 < da := by
        by_cases z : da = 0
        · subst z
          have : 0 < va * dc := Int.mul_pos a0 dc1
          omega
        · omega
      have q2 : vb * dc ≤ vc * db := by
        have : vb * dc * da ≤ vc * db * da := by omega
        exact Int.le_of_mul_le_mul_right this da1
      have t1 := h.tie q1
      have t2 := k.tie q2
      omega
    · exact .inl (by omega)
/-- The same one with a later seat. -/
theorem Pre.same {va da db : Int} {a : Nat} (a0 : 0 < va) (h : da < db) : Pre va da a va db a := .inl (Int.mul_lt_mul_of_pos_left h a0)

/-- Who is next among the first. -/
def nx (way : Int) (v h : Nat → Int) : Nat → Int
  | 0 => -1
  | i + 1 =>
    if v i = 0 then nx way v h i
    else if nx way v h i < 0 ∨ v (nx way v h i).toNat * dv way (h i) < v i * dv way (h (nx way v h i).toNat) then (i : Int) else nx way v h i
theorem nx_zero {way : Int} {v h : Nat → Int} {i : Nat} (z : v i = 0) : nx way v h (i + 1) = nx way v h i := by rw [nx, if_pos z]
theorem nx_first {way : Int} {v h : Nat → Int} {i : Nat} (z : v i ≠ 0) (b : nx way v h i < 0) : nx way v h (i + 1) = i := by rw [nx, if_neg z, if_pos (.inl b)]
theorem nx_more {way : Int} {v h : Nat → Int} {i c : Nat} (z : v i ≠ 0) (b : nx way v h i = c) (l : v c * dv way (h i) < v i * dv way (h c)) : nx way v h (i + 1) = i := by
  rw [nx, if_neg z, if_pos (.inr (by rw [b, Int.toNat_natCast]; exact l))]
theorem nx_less {way : Int} {v h : Nat → Int} {i c : Nat} (z : v i ≠ 0) (b : nx way v h i = c) (l : ¬ v c * dv way (h i) < v i * dv way (h c)) : nx way v h (i + 1) = c := by
  rw [nx, if_neg z, if_neg (by rw [b, Int.toNat_natCast]; intro q; rcases q with q | q <;> omega), b]
def NxSpec (way : Int) (v h : Nat → Int) (i : Nat) (b : Int) : Prop :=
  (b = -1 ∧ ∀ q, q < i → v q = 0) ∨ ∃ c : Nat, b = c ∧ c < i ∧ 0 < v c ∧ ∀ q, q < i → q ≠ c → 0 < v q → Pre (v c) (dv way (h c)) c (v q) (dv way (h q)) q
theorem nx_spec (way : Int) (v h : Nat → Int) (i : Nat) (hv : ∀ q, q < i → 0 ≤ v q) (hh : ∀ q, q < i → 0 ≤ h q) : NxSpec way v h i (nx way v h i) := by
  induction i with
  | zero => exact .inl ⟨rfl, fun q hq => by omega⟩
  | succ i ih =>
    have ih := ih (fun q hq => hv q (by omega)) (fun q hq => hh q (by omega))
    have vi := hv i (by omega)
    by_cases z : v i = 0
    · rw [nx_zero z]
      rcases ih with ⟨e, a⟩ | ⟨c, e, ci, vc, a⟩
      · refine .inl ⟨e, fun q hq => ?_⟩
        by_cases y : q = i
        · subst y; exact z
        · exact a q (by omega)
      · refine .inr ⟨c, e, by omega, vc, fun q hq qc vq => ?_⟩
        by_cases y : q = i
        · subst y; omega
        · exact a q (by omega) qc vq
    · rcases ih with ⟨e, a⟩ | ⟨c, e, ci, vc, a⟩
      · rw [nx_first z (by omega)]
        refine .inr ⟨i, rfl, by omega, by omega, fun q hq qc vq => ?_⟩
        have := a q (by omega); omega
      · by_cases l : v c * dv way (h i) < v i * dv way (h c)
        · rw [nx_more z e l]
          refine .inr ⟨i, rfl, by omega, by omega, fun q hq qc vq => ?_⟩
          have s : Pre (v i) (dv way (h i)) i (v c) (dv way (h c)) c := .inl l
          by_cases y : q = c
          · subst y; exact s
          · exact Pre.trans (by omega) vc vq (dv_nonneg (hh i (by omega))) (dv_nonneg (hh c (by omega))) (dv_nonneg (hh q (by omega))) s (a q (by omega) y vq)
        · rw [nx_less z e l]
          refine .inr ⟨c, rfl, by omega, vc, fun q hq qc vq => ?_⟩
          by_cases y : q = i
          · subst y
            by_cases eq : v q * dv way (h c) = v c * dv way (h q)
            · exact .inr ⟨eq, ci⟩
            · exact .inl (by omega)
          · exact a q (by omega) qc vq
theorem sumTo_pos_ex (v : Nat → Int) (n : Nat) (h : 0 < sumTo v n) : ∃ i, i < n ∧ 0 < v i := by
  induction n with
  | zero => simp [sumTo] at h
  | succ n ih =>
    rw [sumTo] at h
    by_cases c : 0 < v n
    · exact ⟨n, by omega, c⟩
    · obtain ⟨i, hi, p⟩ := ih (by omega)
      exact ⟨i, by omega, p⟩
theorem nx_in {way : Int} {v h : Nat → Int} {n : Nat} (hv : ∀ q, q < n → 0 ≤ v q) (hh : ∀ q, q < n → 0 ≤ h q) (T : 0 < sumTo v n) :
    ∃ c : Nat, nx way v h n = c ∧ c < n ∧ 0 < v c ∧ ∀ q, q < n → q ≠ c → 0 < v q → Pre (v c) (dv way (h c)) c (v q) (dv way (h q)) q := by
  rcases nx_spec way v h n hv hh with ⟨_, a⟩ | a
  · obtain ⟨i, hi, p⟩ := sumTo_pos_ex v n T
    have := a i hi; omega
  · exact a
theorem nx_range (way : Int) (v h : Nat → Int) (i : Nat) : -1 ≤ nx way v h i ∧ nx way v h i < i := by
  induction i with
  | zero => simp [nx]
  | succ i ih =>
    rw [nx]
    split
    · omega
    · split <;> omega

/-- What each holds after so many seats. -/
def dl (way : Int) (v : Nat → Int) (n : Nat) : Nat → Nat → Int
  | 0 => fun _ => 0
  | s + 1 => up (dl way v n s) (nx way v (dl way v n s) n).toNat (dl way v n s (nx way v (dl way v n s) n).toNat + 1)
theorem dl_nn (way : Int) (v : Nat → Int) (n s i : Nat) : 0 ≤ dl way v n s i ∧ dl way v n s i ≤ s := by
  induction s generalizing i with
  | zero => simp [dl]
  | succ s ih =>
    rw [dl]
    unfold up
    split
    · next e => subst e; have := ih (nx way v (dl way v n s) n).toNat; omega
    · have := ih i; omega
theorem sumTo_up (g : Nat → Int) (n c : Nat) (hc : c < n) (x : Int) : sumTo (up g c x) n = sumTo g n - g c + x := by
  induction n with
  | zero => omega
  | succ n ih =>
    rw [sumTo, sumTo]
    by_cases e : c = n
    · subst e
      rw [up_same, sumTo_congr c (h := g) (fun j hj => up_ne g x (by omega))]
      omega
    · rw [ih (by omega), up_ne g x (by omega)]; omega
/-- Nobody's last seat is one that another one had more right to. -/
structure Fr (way : Int) (v : Nat → Int) (n : Nat) (x : Nat → Int) : Prop where
  nn : ∀ i, i < n → 0 ≤ x i
  zero : ∀ i, i < n → v i = 0 → x i = 0
  fair : ∀ i k, i < n → k < n → i ≠ k → 0 < v i → 0 < x k → Pre (v k) (dv way (x k - 1)) k (v i) (dv way (x i)) i
section
variable {way : Int} {v : Nat → Int} {n : Nat}
theorem dl_fr (hv : ∀ q, q < n → 0 ≤ v q) (T : 0 < sumTo v n) (s : Nat) : Fr way v n (dl way v n s) ∧ sumTo (dl way v n s) n = s := by
  induction s with
  | zero =>
    refine ⟨⟨fun i _ => by simp [dl], fun i _ _ => by simp [dl], fun i k _ _ _ _ h => by simp [dl] at h⟩, ?_⟩
    rw [dl]
    have : ∀ m, sumTo (fun _ => (0 : Int)) m = 0 := by intro m; induction m with | zero => rfl | succ m ih => rw [sumTo, ih]; rfl
    simpa using this n
  | succ s ih =>
    obtain ⟨ih, is⟩ := ih
    obtain ⟨c, e, cn, vc, hc⟩ := nx_in (way := way) hv ih.nn T
    have D : dl way v n (s + 1) = up (dl way v n s) c (dl way v n s c + 1) := by rw [dl, e, Int.toNat_natCast]
    rw [D]
    generalize dl way v n s = h at *
    refine ⟨⟨fun i hi => ?_, fun i hi z => ?_, fun i k hi hk ik vi xk => ?_⟩, ?_⟩
    · unfold up; split
      · have := ih.nn c cn; omega
      · exact ih.nn i hi
    · have ic : i ≠ c := fun q => by subst q; omega
      rw [up_ne _ _ ic]; exact ih.zero i hi z
    · by_cases kc : k = c
      · subst kc
        rw [up_same, up_ne _ _ ik, show h k + 1 - 1 = h k by omega]
        exact hc i hi ik vi
      · rw [up_ne _ _ kc] at xk ⊢
        by_cases ic : i = c
        · subst ic
          rw [up_same]
          have vk : 0 < v k := by
            by_cases z : v k = 0
            · have := ih.zero k hk z; omega
            · have := hv k hk; omega
          exact Pre.trans vk vi vi (dv_nonneg (by omega)) (dv_nonneg (ih.nn i hi)) (dv_nonneg (by have := ih.nn i hi; omega)) (ih.fair i k hi hk ik vi xk) (Pre.same vi (dv_lt (by omega)))
        · rw [up_ne _ _ ic]
          exact ih.fair i k hi hk ik vi xk
    · rw [sumTo_up _ _ _ cn, is]; omega
/-- Also where both are one: as numbers. -/
theorem Fr.num {x : Nat → Int} (h : Fr way v n x) (i k : Nat) (hi : i < n) (hk : k < n) (vi : 0 < v i) (xk : 0 < x k) : v i * dv way (x k - 1) ≤ v k * dv way (x i) := by
  by_cases e : i = k
  · subst e
    exact Int.mul_le_mul_of_nonneg_left (dv_mono (by omega)) (by omega)
  · exact (h.fair i k hi hk e vi xk).le
theorem Fr.pos (hv : ∀ q, q < n → 0 ≤ v q) {x : Nat → Int} (h : Fr way v n x) (k : Nat) (hk : k < n) (xk : 0 < x k) : 0 < v k := by
  by_cases z : v k = 0
  · have := h.zero k hk z; omega
  · have := hv k hk; omega
/-- Two cannot have changed seats, if the one has no fewer votes now, and the other no more. -/
theorem Fr.swap {v' : Nat → Int} (hv : ∀ q, q < n → 0 ≤ v q) (hv' : ∀ q, q < n → 0 ≤ v' q) {x y : Nat → Int} (hx : Fr way v n x) (hy : Fr way v' n y) (a b : Nat) (ha : a < n) (hb : b < n)
    (va : v a ≤ v' a) (vb : v' b ≤ v b) (xa : y a < x a) (yb : x b < y b) : False := by
  have ab : a ≠ b := fun e => by subst e; omega
  have x0 := hx.nn b hb
  have y0 := hy.nn a ha
  have pb := hy.pos hv' b hb (by omega)
  have pa := hx.pos hv a ha (by omega)
  have f1 := hx.fair b a hb ha (fun e => ab e.symm) (by omega) (by omega)
  have f2 := hy.fair a b ha hb ab (by omega) (by omega)
  have l1 := f1.le
  have l2 := f2.le
  have m1 : v a * dv way (x b) ≤ v' a * dv way (y b - 1) := Int.mul_le_mul va (dv_mono (by omega)) (dv_nonneg x0) (by omega)
  have m2 : v' b * dv way (y a) ≤ v b * dv way (x a - 1) := Int.mul_le_mul vb (dv_mono (by omega)) (dv_nonneg y0) (by omega)
  have t1 := f1.tie (by omega)
  have t2 := f2.tie (by omega)
  omega
end
/-- Where the sums are alike and one has fewer, another one has more. -/
theorem sum_other (x y : Nat → Int) (n : Nat) (h : sumTo x n ≤ sumTo y n) (a : Nat) (ha : a < n) (l : y a < x a) : ∃ b, b < n ∧ x b < y b := by
  have key : ∀ m, m ≤ n → (∀ b, b < m → y b ≤ x b) → (sumTo y m ≤ sumTo x m ∧ (a < m → sumTo y m < sumTo x m)) := by
    intro m
    induction m with
    | zero => intro _ _; exact ⟨by simp [sumTo], by omega⟩
    | succ m ih =>
      intro hm hb
      have i := ih (by omega) (fun b hb' => hb b (by omega))
      have := hb m (by omega)
      rw [sumTo, sumTo]
      refine ⟨by omega, fun am => ?_⟩
      by_cases e : a = m
      · subst e; omega
      · have := i.2 (by omega); omega
  by_cases c : ∃ b, b < n ∧ x b < y b
  · exact c
  · have := (key n (Nat.le_refl _) (fun b hb => by
      by_cases z : x b < y b
      · exact absurd ⟨b, hb, z⟩ c
      · omega)).2 ha
    omega
theorem sum_lt {f g : Nat → Int} {n : Nat} (h : ∀ k, k < n → f k ≤ g k) (i : Nat) (hi : i < n) (l : f i < g i) : sumTo f n < sumTo g n := by
  by_cases c : sumTo g n ≤ sumTo f n
  · obtain ⟨b, hb, z⟩ := sum_other g f n c i hi l
    have := h b hb; omega
  · omega
theorem sum_mulD (c : Int) (g : Nat → Int) (n : Nat) : sumTo (fun i => c * g i) n = c * sumTo g n := by
  induction n with
  | zero => simp [sumTo]
  | succ n ih => rw [sumTo, sumTo, ih, Int.mul_add]
theorem sum_mulr (c : Int) (g : Nat → Int) (n : Nat) : sumTo (fun i => g i * c) n = sumTo g n * c := by
  rw [sumTo_congr n (h := fun i => c * g i) (fun j _ => Int.mul_comm _ _), sum_mulD, Int.mul_comm]

end Go.Proofs.Ytklbikifcebckaa
