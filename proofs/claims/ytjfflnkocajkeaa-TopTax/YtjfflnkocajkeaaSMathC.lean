/-
  Plain mathematics of Hamilton's method: who is given a unit, what all parts come to, and that the order is one. No condition.
-/
import Derived.Test.YtjfflnkocajkeaaSWalkE
namespace Go.Proofs.Ytjfflnkocajkeaa

theorem Ordered.inR {k : Int → Int} {n : Nat} {d : Nat → Int} (h : Ordered k n d) : InR n d := h.1.inR (Nat.le_refl _) (fun q hq => by unfold idn; omega)
theorem Ordered.inj {k : Int → Int} {n : Nat} {d : Nat → Int} (h : Ordered k n d) (i j : Nat) (hi : i < n) (hj : j < n) (e : d i = d j) : i = j :=
  h.1.inj (fun a b _ _ _ _ e => by unfold idn at e; omega) i j (Nat.zero_le _) hi (Nat.zero_le _) hj e
theorem Ordered.surj {k : Int → Int} {n : Nat} {d : Nat → Int} (h : Ordered k n d) (q : Nat) (hq : q < n) : ∃ j, j < n ∧ d j = q := by
  obtain ⟨r, _, r1, hr⟩ := h.1.back q (Nat.zero_le _) hq
  exact ⟨r, r1, by unfold idn at hr; exact hr.symm⟩
/-- The order is one. -/
theorem Ordered.unique {k : Int → Int} {n : Nat} {d e : Nat → Int} (h : Ordered k n d) (h' : Ordered k n e) : ∀ j, j < n → d j = e j := by
  intro j
  induction j using Nat.strongRecOn with
  | ind j ih =>
    intro hj
    by_cases c : d j = e j
    · exact c
    · exfalso
      have rd := h.inR j hj
      have re := h'.inR j hj
      obtain ⟨a, a1, ha⟩ := h'.surj (d j).toNat (by omega)
      obtain ⟨b, b1, hb⟩ := h.surj (e j).toNat (by omega)
      rw [Int.toNat_of_nonneg (by omega)] at ha hb
      have ja : j < a := by
        by_cases z : a < j
        · have := ih a z a1
          have := h.inj a j a1 hj (by rw [this, ha]); omega
        · by_cases z2 : a = j
          · subst z2; exact absurd ha.symm c
          · omega
      have jb : j < b := by
        by_cases z : b < j
        · have := ih b z b1
          have := h'.inj b j b1 hj (by rw [← this, hb]); omega
        · by_cases z2 : b = j
          · subst z2; exact absurd hb c
          · omega
      have l1 := h'.2 j a (Nat.zero_le _) ja a1
      have l2 := h.2 j b (Nat.zero_le _) jb b1
      rw [ha] at l1
      rw [hb] at l2
      exact L_asymm l1 l2
/-- Who is given one. -/
def Giv (d : Nat → Int) (u q : Nat) : Prop := ∃ j, j < u ∧ d j = q
theorem addU_not (d g : Nat → Int) (n u : Nat) (hI : InR n d) (hu : u ≤ n) (q : Nat) (h : ¬ Giv d u q) : addU d g u q = g q := by
  induction u with
  | zero => rfl
  | succ u ih =>
    have r := hI u (by omega)
    have e : q ≠ (d u).toNat := fun z => h ⟨u, by omega, by omega⟩
    unfold addU
    rw [up_ne _ _ e]
    exact ih (by omega) (fun ⟨j, hj, hd⟩ => h ⟨j, by omega, hd⟩)
theorem addU_yes {k : Int → Int} {d g : Nat → Int} {n u : Nat} (ho : Ordered k n d) (hu : u ≤ n) (q : Nat) (h : Giv d u q) : addU d g u q = g q + 1 := by
  induction u with
  | zero => obtain ⟨j, hj, _⟩ := h; omega
  | succ u ih =>
    have r := ho.inR u (by omega)
    unfold addU
    by_cases e : q = (d u).toNat
    · subst e
      rw [up_same, addU_not d g n u ho.inR (by omega)]
      rintro ⟨j, hj, hd⟩
      have := ho.inj j u (by omega) (by omega) (by omega)
      omega
    · rw [up_ne _ _ e]
      obtain ⟨j, hj, hd⟩ := h
      have : j ≠ u := by rintro rfl; omega
      exact ih (by omega) ⟨j, by omega, hd⟩
theorem sum_up (g : Nat → Int) (n i : Nat) (v : Int) (hi : i < n) : sumTo (up g i v) n = sumTo g n + v - g i := by
  induction n with
  | zero => omega
  | succ n ih =>
    rw [sumTo, sumTo]
    by_cases c : i < n
    · rw [ih c, up_ne g v (by omega)]; omega
    · obtain rfl : i = n := by omega
      rw [up_same, sumTo_congr (h := g) i (fun j hj => up_ne g v (show j ≠ i by omega))]; omega
theorem sum_addU (d g : Nat → Int) (n u : Nat) (hI : InR n d) (hu : u ≤ n) : sumTo (addU d g u) n = sumTo g n + u := by
  induction u with
  | zero => simp [addU]
  | succ u ih =>
    have r := hI u (by omega)
    unfold addU
    rw [sum_up _ _ _ _ (by omega), ih (by omega)]; omega
theorem sum_mono (f g : Nat → Int) (n : Nat) (h : ∀ i, i < n → f i ≤ g i) : sumTo f n ≤ sumTo g n := by
  induction n with
  | zero => simp [sumTo]
  | succ n ih => have a := ih (fun i hi => h i (by omega)); have b := h n (by omega); rw [sumTo, sumTo]; omega
/-- Who is given a unit had something left. -/
theorem giv_pos {r : Nat → Int} {n u : Nat} {d : Nat → Int} {T : Int} (ho : Ordered (keyOf r) n d) (hu : u ≤ n) (h0 : ∀ i, i < n → 0 ≤ r i ∧ r i < T) (hT : 0 < T) (hs : sumTo r n = u * T) (q : Nat) (hq : q < n) (h : Giv d u q) : 0 < r q := by
  obtain ⟨j, hj, hd⟩ := h
  by_cases c : 0 < r q
  · exact c
  · exfalso
    have rq := h0 q hq
    have le : ∀ i, i < n → r i ≤ (T - 1) * addU d (fun _ => 0) j i := by
      intro i hi
      by_cases g : Giv d j i
      · rw [addU_yes ho (by omega) i g]; have := h0 i hi; simp; omega
      · rw [addU_not d _ n j ho.inR (by omega) i g]
        obtain ⟨t, t1, ht⟩ := ho.surj i hi
        have tj : j ≤ t := by
          by_cases z : t < j
          · exact absurd ⟨t, z, ht⟩ g
          · omega
        by_cases z : t = j
        · subst z
          have : i = q := by omega
          subst this; simp; omega
        · have l := ho.2 j t (Nat.zero_le _) (by omega) t1
          unfold L keyOf at l
          rw [hd, ht, Int.toNat_natCast, Int.toNat_natCast] at l
          simp; omega
    have a := sum_mono r (fun i => (T - 1) * addU d (fun _ => 0) j i) n le
    rw [sum_mul, sum_addU d _ n j ho.inR (by omega), show sumTo (fun _ => (0 : Int)) n = 0 by
      have := sum_mul (fun _ => (0 : Int)) 0 n; simp at this; exact this, hs] at a
    have b : (T - 1) * (j : Int) ≤ (T - 1) * (u : Int) := Int.mul_le_mul_of_nonneg_left (by omega) (by omega)
    have e : (u : Int) * T = (T - 1) * (u : Int) + u := by rw [Int.sub_mul, Int.mul_comm (u : Int) T]; omega
    have f : (0 : Int) + (j : Int) = j := by omega
    rw [f] at a
    omega
/-- A key scaled up gives the same order. -/
theorem Ordered.scale {r s : Nat → Int} {n : Nat} {d : Nat → Int} (ho : Ordered (keyOf s) n d) (h : ∀ i j, i < n → j < n → (s i < s j ↔ r i < r j)) : Ordered (keyOf r) n d := by
  refine ⟨ho.1, fun i j i0 ij jn => ?_⟩
  have l := ho.2 i j i0 ij jn
  have ri := ho.inR i (by omega)
  have rj := ho.inR j jn
  unfold L keyOf at *
  have a := h (d i).toNat (d j).toNat (by omega) (by omega)
  have b := h (d j).toNat (d i).toNat (by omega) (by omega)
  generalize r (d i).toNat = x at *
  generalize r (d j).toNat = y at *
  generalize s (d i).toNat = z at *
  generalize s (d j).toNat = t at *
  omega
theorem addU_eq {k : Int → Int} {n u : Nat} {d e g : Nat → Int} (h : Ordered k n d) (h' : Ordered k n e) (hu : u ≤ n) : addU d g u = addU e g u := by
  induction u with
  | zero => rfl
  | succ u ih =>
    unfold addU
    rw [ih (by omega), h.unique h' u (by omega)]
theorem sum_tab_congr (f g : Nat → Int) (n : Nat) (h : tab n f = tab n g) : ∀ i, i < n → f i = g i := by
  intro i hi
  have : (tab n f)[i]? = (tab n g)[i]? := by rw [h]
  unfold tab at this
  simpa [hi] using this

end Go.Proofs.Ytjfflnkocajkeaa
