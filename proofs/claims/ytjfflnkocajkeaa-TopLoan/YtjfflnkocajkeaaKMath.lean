/-
  Plain mathematics of loans: what is left after so many periods, the number of rows, the least payment. No condition but those that each theorem names.
-/
import Derived.Test.YtjfflnkocajkeaaUWalkP
namespace Go.Proofs.Ytjfflnkocajkeaa

/-- The interest of a period. -/
def itR (r L : Int) : Int := rnd (L * r) 1000000 2
theorem itR_nonneg {r L : Int} (h : 0 ≤ L) (r0 : 0 ≤ r) : 0 ≤ itR r L := rnd_nonneg _ _ _ (by omega) (Int.mul_nonneg h r0) (by omega) (by omega)
theorem itR_le {r L : Int} (h : 0 ≤ L) (r1 : r ≤ 1000000) : itR r L ≤ L := rnd_le _ _ _ _ (by omega) (Int.mul_le_mul_of_nonneg_left r1 h) (by omega) (by omega)
theorem itR_zero (r : Int) : itR r 0 = 0 := by unfold itR; rw [Int.zero_mul]; rfl
theorem itR_free (L : Int) : itR 0 L = 0 := by unfold itR; rw [Int.mul_zero]; rfl
theorem itR_mono {r s L M : Int} (h : L ≤ M) (L0 : 0 ≤ L) (r0 : 0 ≤ r) (rs : r ≤ s) : itR r L ≤ itR s M := by
  have a : L * r ≤ M * s := Int.mul_le_mul h rs r0 (by omega)
  exact rnd_mono _ _ _ _ _ (by omega) (by omega) (Int.mul_le_mul_of_nonneg_right a (by omega)) (by omega) (by omega)
/-- What is left after a period. -/
def nx (r pay L : Int) : Int := max 0 (L + itR r L - pay)
/-- .. after so many. -/
def bal (r pay L : Int) : Nat → Int
  | 0 => L
  | k + 1 => nx r pay (bal r pay L k)
theorem bal_shift (r pay L : Int) (k : Nat) : bal r pay L (k + 1) = bal r pay (nx r pay L) k := by
  induction k with
  | zero => rfl
  | succ k ih => rw [bal, ih, bal]
theorem nx_nonneg (r pay L : Int) : 0 ≤ nx r pay L := by unfold nx; omega
theorem nx_zero {r pay : Int} (h : 0 ≤ pay) : nx r pay 0 = 0 := by unfold nx; rw [itR_zero]; omega
theorem bal_nonneg (r pay : Int) {L : Int} (h : 0 ≤ L) (k : Nat) : 0 ≤ bal r pay L k := by
  cases k with
  | zero => exact h
  | succ k => exact nx_nonneg _ _ _
/-- More owed, a greater rate, a smaller payment: no less is left. -/
theorem bal_mono {r s p q L M : Int} (L0 : 0 ≤ L) (h : L ≤ M) (r0 : 0 ≤ r) (rs : r ≤ s) (qp : q ≤ p) (k : Nat) : bal r p L k ≤ bal s q M k := by
  induction k with
  | zero => exact h
  | succ k ih =>
    have := itR_mono ih (bal_nonneg r p L0 k) r0 rs
    rw [bal, bal]; unfold nx; omega
theorem bal_stay {r p L : Int} (hp : 0 ≤ p) (k : Nat) (h : bal r p L k = 0) (m : Nat) (hm : k ≤ m) : bal r p L m = 0 := by
  induction m with
  | zero => obtain rfl : k = 0 := by omega
            exact h
  | succ m ih =>
    by_cases e : k = m + 1
    · subst e; exact h
    · rw [bal, ih (by omega), nx_zero hp]
/-- Paid more than the interest it falls. -/
theorem bal_falls {r p L : Int} (L0 : 0 ≤ L) (r0 : 0 ≤ r) (h : itR r L < p) (k : Nat) : bal r p L k ≤ L ∧ itR r (bal r p L k) < p := by
  induction k with
  | zero => exact ⟨Int.le_refl _, h⟩
  | succ k ih =>
    have b := bal_nonneg r p L0 k
    have le : bal r p L (k + 1) ≤ bal r p L k := by rw [bal]; unfold nx; omega
    have m := itR_mono le (bal_nonneg r p L0 (k + 1)) r0 (Int.le_refl r)
    omega
/-- Paid no more than the interest it never falls. -/
theorem bal_grows {r p L : Int} (L0 : 0 ≤ L) (r0 : 0 ≤ r) (h : p ≤ itR r L) (k : Nat) : L ≤ bal r p L k := by
  induction k with
  | zero => exact Int.le_refl _
  | succ k ih =>
    have m := itR_mono ih L0 r0 (Int.le_refl r)
    rw [bal]; unfold nx; omega
/-- How many rows there are, of at most so many. -/
def cnt (r pay : Int) : Nat → Int → Nat
  | 0, _ => 0
  | m + 1, L => if L = 0 then 0 else cnt r pay m (nx r pay L) + 1
theorem cnt_le (r pay : Int) (m : Nat) (L : Int) : cnt r pay m L ≤ m := by
  induction m generalizing L with
  | zero => simp [cnt]
  | succ m ih => unfold cnt; split
                 · omega
                 · have := ih (nx r pay L); omega
/-- The first one at which nothing is left. -/
theorem cnt_first {r pay : Int} {k : Nat} : ∀ (m : Nat) (L : Int), k ≤ m → bal r pay L k = 0 → (∀ j, j < k → bal r pay L j ≠ 0) → cnt r pay m L = k := by
  induction k with
  | zero =>
    intro m L _ h _
    cases m with
    | zero => rfl
    | succ m => unfold cnt; rw [if_pos (show L = 0 from h)]
  | succ k ih =>
    intro m L hm h hj
    cases m with
    | zero => omega
    | succ m =>
      unfold cnt
      rw [if_neg (show ¬ L = 0 from hj 0 (by omega)), ih m (nx r pay L) (by omega) (by rw [← bal_shift]; exact h) (fun j hlt => by rw [← bal_shift]; exact hj (j + 1) (by omega))]
theorem cnt_full {r pay : Int} : ∀ (m : Nat) (L : Int), (∀ j, j < m → bal r pay L j ≠ 0) → cnt r pay m L = m := by
  intro m
  induction m with
  | zero => intro L _; rfl
  | succ m ih =>
    intro L h
    unfold cnt
    rw [if_neg (show ¬ L = 0 from h 0 (by omega)), ih (nx r pay L) (fun j hj => by rw [← bal_shift]; exact h (j + 1) (by omega))]
theorem cnt_spec {r pay : Int} : ∀ (m : Nat) (L : Int), (∀ j, j < cnt r pay m L → bal r pay L j ≠ 0) ∧ (cnt r pay m L < m → bal r pay L (cnt r pay m L) = 0) := by
  intro m
  induction m with
  | zero => intro L; simp [cnt]
  | succ m ih =>
    intro L
    obtain ⟨a, b⟩ := ih (nx r pay L)
    unfold cnt
    by_cases h : L = 0
    · rw [if_pos h]
      exact ⟨fun j hj => by omega, fun _ => h⟩
    · rw [if_neg h]
      refine ⟨fun j hj => ?_, fun hl => ?_⟩
      · cases j with
        | zero => exact h
        | succ j => rw [bal_shift]; exact a j (by omega)
      · rw [bal_shift]; exact b (by omega)
theorem cnt_end {r pay : Int} (m : Nat) (L : Int) (h : bal r pay L m = 0) : bal r pay L (cnt r pay m L) = 0 := by
  have c := cnt_le r pay m L
  by_cases e : cnt r pay m L < m
  · exact (cnt_spec m L).2 e
  · rw [show cnt r pay m L = m by omega]; exact h
/-- It is paid by so many rows. -/
theorem cnt_iff {r pay L : Int} (hp : 0 ≤ pay) (m n : Nat) (h : bal r pay L m = 0) : cnt r pay m L ≤ n ↔ bal r pay L n = 0 := by
  constructor
  · intro c
    exact bal_stay hp _ (cnt_end m L h) n c
  · intro b
    by_cases c : cnt r pay m L ≤ n
    · exact c
    · exact absurd b ((cnt_spec m L).1 n (by omega))
/-- A row: interest, what goes off, what is left. -/
structure Rw where
  i : Nat → Int
  o : Nat → Int
  l : Nat → Int
def rwF (r pay L : Int) : Rw := ⟨fun j => itR r (bal r pay L j), fun j => bal r pay L j - bal r pay L (j + 1), fun j => bal r pay L (j + 1)⟩
/-- The smallest payment. -/
structure Lst (r L : Int) (n : Nat) (p : Int) : Prop where
  one : 1 ≤ p
  pays : bal r p L n = 0
  less : ∀ q, 1 ≤ q → q < p → bal r q L n ≠ 0
theorem Lst.le {r L p q : Int} {n : Nat} (h : Lst r L n p) (q1 : 1 ≤ q) (hq : bal r q L n = 0) : p ≤ q := by
  by_cases c : p ≤ q
  · exact c
  · exact absurd hq (h.less q q1 (by omega))
theorem Lst.eq {r L p q : Int} {n : Nat} (h : Lst r L n p) (k : Lst r L n q) : p = q := by
  have a := h.le k.one k.pays
  have b := k.le h.one h.pays
  omega
/-- By what lies beside it. -/
theorem Lst.of {r L p : Int} {n : Nat} (L0 : 0 ≤ L) (r0 : 0 ≤ r) (p1 : 1 ≤ p) (h : bal r p L n = 0) (k : p = 1 ∨ bal r (p - 1) L n ≠ 0) : Lst r L n p := by
  refine ⟨p1, h, fun q q1 hq e => ?_⟩
  rcases k with k | k
  · omega
  · have m := bal_mono (p := p - 1) (q := q) L0 (Int.le_refl L) r0 (Int.le_refl r) (by omega) n
    have z := bal_nonneg r (p - 1) L0 n
    exact k (by omega)
theorem bal_once {r L p : Int} {n : Nat} (n1 : 1 ≤ n) (p0 : 0 ≤ p) (h : L + itR r L ≤ p) : bal r p L n = 0 :=
  bal_stay p0 1 (by rw [bal, bal]; unfold nx; omega) n n1
theorem Lst.top {r L p : Int} {n : Nat} (h : Lst r L n p) (n1 : 1 ≤ n) (L0 : 0 ≤ L) (r0 : 0 ≤ r) : p ≤ 1 ∨ p ≤ L + itR r L := by
  have i := itR_nonneg L0 r0
  by_cases c : 1 ≤ L + itR r L
  · right; exact h.le c (bal_once n1 (by omega) (Int.le_refl _))
  · left; exact h.le (Int.le_refl 1) (bal_once n1 (by omega) (by omega))
/-- Without interest. -/
theorem bal_free {p L : Int} (p0 : 0 ≤ p) (L0 : 0 ≤ L) (k : Nat) : bal 0 p L k = max 0 (L - p * k) := by
  induction k with
  | zero => rw [bal]; simp; omega
  | succ k ih =>
    have : 0 ≤ p * (k : Int) := Int.mul_nonneg p0 (by omega)
    rw [bal, ih]; unfold nx
    rw [itR_free, show ((k + 1 : Nat) : Int) = (k : Int) + 1 by omega, Int.mul_add]; omega
/-- Rounded up. -/
theorem up_spec (a b : Int) (hb : 1 ≤ b) : a ≤ b * ((a + b - 1) / b) ∧ b * ((a + b - 1) / b) < a + b := by
  obtain ⟨e, r0, r1⟩ := div_spec (a + b - 1) b hb
  omega
theorem lst_free {L : Int} {n : Nat} (L1 : 1 ≤ L) (n1 : 1 ≤ n) : Lst 0 L n ((L + n - 1) / n) := by
  obtain ⟨a, b⟩ := up_spec L n (by omega)
  have p1 : 1 ≤ (L + n - 1) / n := Int.le_ediv_of_mul_le (by omega) (by omega)
  generalize (L + n - 1) / (n : Int) = p at *
  rw [Int.mul_comm] at a b
  refine Lst.of (by omega) (by omega) p1 ?_ (.inr ?_)
  · rw [bal_free (by omega) (by omega)]; omega
  · rw [bal_free (by omega) (by omega), Int.sub_mul]; omega
theorem cnt_free {L p : Int} {m : Nat} (L1 : 1 ≤ L) (p1 : 1 ≤ p) (h : bal 0 p L m = 0) : ((cnt 0 p m L : Nat) : Int) = (L + p - 1) / p := by
  obtain ⟨a, b⟩ := up_spec L p p1
  have k1 : 1 ≤ (L + p - 1) / p := Int.le_ediv_of_mul_le (by omega) (by omega)
  generalize hk : (L + p - 1) / p = k at *
  have z : bal 0 p L k.toNat = 0 := by rw [bal_free (by omega) (by omega), Int.toNat_of_nonneg (by omega)]; omega
  have y : bal 0 p L (k.toNat - 1) ≠ 0 := by
    rw [bal_free (by omega) (by omega), show ((k.toNat - 1 : Nat) : Int) = k - 1 by omega, Int.mul_sub]; omega
  have lt : k.toNat ≤ m := by
    by_cases c : k.toNat ≤ m
    · exact c
    · exact absurd (bal_stay (by omega) m h (k.toNat - 1) (by omega)) y
  rw [cnt_first m L lt z (fun j hj e => y (bal_stay (by omega) j e _ (by omega)))]
  omega
/-- Sums of interest. -/
theorem sum_less {g h : Nat → Int} {n m : Nat} (nm : n ≤ m) (h0 : ∀ j, 0 ≤ h j) (gh : ∀ j, j < n → g j ≤ h j) : sumTo g n ≤ sumTo h m := by
  have a : sumTo g n ≤ sumTo h n := by
    clear nm
    induction n with
    | zero => simp [sumTo]
    | succ n ih => have := ih (fun j hj => gh j (by omega)); have := gh n (by omega); rw [sumTo, sumTo]; omega
  have b : sumTo h n ≤ sumTo h m := by
    clear a gh
    induction m with
    | zero => obtain rfl : n = 0 := by omega
              exact Int.le_refl _
    | succ m ih =>
      by_cases e : n = m + 1
      · subst e; exact Int.le_refl _
      · have := ih (by omega); have := h0 m; rw [sumTo]; omega
  omega

end Go.Proofs.Ytjfflnkocajkeaa
