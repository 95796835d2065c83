/-
  Plain mathematics of the reference's dealing: all claims by their numbers, in the order by votes and divisor, give what dealing one by one gives. No condition but those that each theorem names.
-/
import Derived.Test.YtpkdknddncnceaaQMathB
import Derived.Test.YtpkdknddncnceaaDMath
namespace Go.Proofs.Ytpkdknddncnceaa

/-- A number that all divisors divide. -/
def fac : Nat → Nat
  | 0 => 1
  | n + 1 => (n + 1) * fac n
theorem fac_pos (n : Nat) : 0 < fac n := by
  induction n with
  | zero => decide
  | succ n ih => rw [fac]; exact Nat.mul_pos (by omega) ih
theorem fac_dvd (n d : Nat) (h0 : 1 ≤ d) (h1 : d ≤ n) : d ∣ fac n := by
  induction n with
  | zero => omega
  | succ n ih =>
    rw [fac]
    by_cases e : d = n + 1
    · subst e; exact Nat.dvd_mul_right _ _
    · exact Nat.dvd_trans (ih (by omega)) (Nat.dvd_mul_left _ _)
/-- A claim's key, over a common multiple. -/
def kv (M v d : Int) : Int := if d = 0 then 1000001 * M else v * (M / d)
/-- Does the first claim go before the second one? -/
def lsB (v d v' d' : Int) : Bool := if d = 0 ∨ d' = 0 then decide (d = 0 ∧ 0 < d') else decide (v' * d < v * d')
theorem lsB_def (v d v' d' : Int) : lsB v d v' d' = if d = 0 ∨ d' = 0 then decide (d = 0 ∧ 0 < d') else decide (v' * d < v * d') := rfl
theorem kv_small {M v d : Int} (hM : 0 < M) (_v0 : 0 < v) (v1 : v ≤ 1000000) (d0 : 0 < d) : v * (M / d) < 1000001 * M := by
  have a : M / d ≤ M := Int.ediv_le_self _ (by omega)
  have b : 0 ≤ M / d := Int.ediv_nonneg (by omega) (by omega)
  have : v * (M / d) ≤ 1000000 * M := Int.mul_le_mul v1 a b (by omega)
  omega
theorem key_eq {M v d v' d' : Int} (hM : 0 < M) (hd : 0 < d → d ∣ M) (hd' : 0 < d' → d' ∣ M) (v0 : 0 < v) (v1 : v ≤ 1000000) (d0 : 0 ≤ d) (v0' : 0 < v') (v1' : v' ≤ 1000000) (d0' : 0 ≤ d') :
    lsB v d v' d' = decide (kv M v' d' < kv M v d) := by
  rw [lsB_def]
  unfold kv
  by_cases e : d = 0
  · rw [if_pos (.inl e), if_pos e]
    by_cases e' : d' = 0
    · rw [if_pos e']; simp; omega
    · rw [if_neg e']
      have := kv_small hM v0' v1' (show 0 < d' by omega)
      rw [show decide (d = 0 ∧ 0 < d') = true by simp; omega, show decide (v' * (M / d') < 1000001 * M) = true by simpa using this]
  · rw [if_neg e]
    by_cases e' : d' = 0
    · rw [if_pos (.inr e'), if_pos e']
      have := kv_small hM v0 v1 (show 0 < d by omega)
      rw [show decide (d = 0 ∧ 0 < d') = false by simp; omega, show decide (1000001 * M < v * (M / d)) = false by simp; omega]
    · rw [if_neg (by omega), if_neg e']
      have ea : M / d * d = M := Int.ediv_mul_cancel (hd (by omega))
      have eb : M / d' * d' = M := Int.ediv_mul_cancel (hd' (by omega))
      generalize M / d = a at *
      generalize M / d' = b at *
      have x1 : v' * b * (d * d') = v' * d * M := by rw [← eb]; simp only [Int.mul_left_comm, Int.mul_comm]
      have x2 : v * a * (d * d') = v * d' * M := by rw [← ea]; simp only [Int.mul_left_comm, Int.mul_comm]
      have pd : 0 < d * d' := Int.mul_pos (by omega) (by omega)
      have iff1 : v' * d < v * d' ↔ v' * b < v * a := by
        constructor
        · intro h
          have : v' * d * M < v * d' * M := Int.mul_lt_mul_of_pos_right h hM
          rw [← x1, ← x2] at this
          exact Int.lt_of_mul_lt_mul_right this (by omega)
        · intro h
          have : v' * b * (d * d') < v * a * (d * d') := Int.mul_lt_mul_of_pos_right h pd
          rw [x1, x2] at this
          exact Int.lt_of_mul_lt_mul_right this (by omega)
      simp only [iff1]

/-- How many with votes there are ahead. -/
def ps (v : Nat → Int) : Nat → Nat
  | 0 => 0
  | i + 1 => ps v i + (if 0 < v i then 1 else 0)
theorem ps_yes {v : Nat → Int} {i : Nat} (h : 0 < v i) : ps v (i + 1) = ps v i + 1 := by rw [ps, if_pos h]
theorem ps_no {v : Nat → Int} {i : Nat} (h : ¬ 0 < v i) : ps v (i + 1) = ps v i := by rw [ps, if_neg h]; rfl
theorem ps_mono (v : Nat → Int) {i j : Nat} (h : i ≤ j) : ps v i ≤ ps v j := by
  induction j with
  | zero => rw [show i = 0 by omega]; exact Nat.le_refl _
  | succ j ih =>
    by_cases e : i = j + 1
    · subst e; exact Nat.le_refl _
    · have := ih (by omega)
      rw [ps]; omega
theorem ps_lt {v : Nat → Int} {i j : Nat} (h : i < j) (p : 0 < v i) : ps v i + 1 ≤ ps v j := by
  have := ps_mono v (show i + 1 ≤ j by omega)
  rw [ps_yes p] at this; exact this
theorem ps_le (v : Nat → Int) (i : Nat) : ps v i ≤ i := by
  induction i with
  | zero => exact Nat.le_refl _
  | succ i ih => rw [ps]; split <;> omega
/-- Whose a claim is. -/
def cw (v : Nat → Int) (S : Nat) : Nat → Nat → Nat
  | 0, _ => 0
  | i + 1, q => if 0 < v i ∧ ps v i * S ≤ q then i else cw v S i q
theorem cw_spec (v : Nat → Int) (S n q : Nat) (h : q < ps v n * S) : cw v S n q < n ∧ 0 < v (cw v S n q) ∧ ps v (cw v S n q) * S ≤ q ∧ q < ps v (cw v S n q) * S + S := by
  induction n with
  | zero => simp [ps] at h
  | succ n ih =>
    rw [cw]
    by_cases c : 0 < v n ∧ ps v n * S ≤ q
    · rw [if_pos c]
      rw [ps_yes c.1, Nat.add_mul, Nat.one_mul] at h
      exact ⟨by omega, c.1, c.2, h⟩
    · rw [if_neg c]
      have : q < ps v n * S := by
        by_cases p : 0 < v n
        · by_cases z : ps v n * S ≤ q
          · exact absurd ⟨p, z⟩ c
          · omega
        · rw [ps_no p] at h; exact h
      have := ih this
      exact ⟨by omega, this.2⟩
theorem mul_far {a b S : Nat} (h : a + 1 ≤ b) : a * S + S ≤ b * S := by
  have := Nat.mul_le_mul_right S h
  rw [Nat.add_mul, Nat.one_mul] at this
  exact this
theorem cw_idx (v : Nat → Int) (S n i t : Nat) (hi : i < n) (p : 0 < v i) (ht : t < S) : cw v S n (ps v i * S + t) = i := by
  induction n with
  | zero => omega
  | succ n ih =>
    rw [cw]
    by_cases e : i = n
    · subst e; rw [if_pos ⟨p, by omega⟩]
    · rw [if_neg]
      · exact ih (by omega)
      · rintro ⟨_, z⟩
        have := mul_far (S := S) (ps_lt (show i < n by omega) p)
        omega
theorem idx_lt (v : Nat → Int) (S n i t : Nat) (hi : i < n) (p : 0 < v i) (ht : t < S) : ps v i * S + t < ps v n * S := by
  have := mul_far (S := S) (ps_lt hi p)
  omega
/-- The claims: votes, divisor, party. -/
def clV (v : Nat → Int) (S n : Nat) : Nat → Int := fun q => v (cw v S n q)
def clD (way : Int) (v : Nat → Int) (S n : Nat) : Nat → Int := fun q => dv way ((q - ps v (cw v S n q) * S : Nat) : Int)
def clW (v : Nat → Int) (S n : Nat) : Nat → Int := fun q => (cw v S n q : Int)
def clK (way : Int) (v : Nat → Int) (S n : Nat) : Int → Int := fun x => kv (fac 2001 : Nat) (clV v S n x.toNat) (clD way v S n x.toNat)
section
variable {way : Int} {v : Nat → Int} {S n : Nat}
theorem cl_at (i t : Nat) (hi : i < n) (p : 0 < v i) (ht : t < S) : clV v S n (ps v i * S + t) = v i ∧ clD way v S n (ps v i * S + t) = dv way t ∧ clW v S n (ps v i * S + t) = i := by
  unfold clV clD clW
  rw [cw_idx v S n i t hi p ht]
  refine ⟨rfl, ?_, rfl⟩
  rw [show ps v i * S + t - ps v i * S = t by omega]
theorem cl_bd (hw : ∀ i, i < n → 0 ≤ v i ∧ v i ≤ 1000000) (hS : S ≤ 1000) (q : Nat) (hq : q < ps v n * S) :
    0 < clV v S n q ∧ clV v S n q ≤ 1000000 ∧ 0 ≤ clD way v S n q ∧ clD way v S n q ≤ 2001 := by
  obtain ⟨a, b, c, e⟩ := cw_spec v S n q hq
  unfold clV clD
  have := dv_le (way := way) (s := ((q - ps v (cw v S n q) * S : Nat) : Int)) (by omega)
  refine ⟨b, (hw _ a).2, dv_nonneg (by omega), by omega⟩
theorem cl_key (hw : ∀ i, i < n → 0 ≤ v i ∧ v i ≤ 1000000) (hS : S ≤ 1000) (x y : Int) (_x0 : 0 ≤ x) (x1 : x < (ps v n * S : Nat)) (y0 : 0 ≤ y) (y1 : y < (ps v n * S : Nat)) :
    lsB (clV v S n x.toNat) (clD way v S n x.toNat) (clV v S n y.toNat) (clD way v S n y.toNat) = decide (clK way v S n y < clK way v S n x) := by
  have a := cl_bd (way := way) hw hS x.toNat (by omega)
  have b := cl_bd (way := way) hw hS y.toNat (by omega)
  have dd : ∀ d : Int, 0 < d → d ≤ 2001 → d ∣ ((fac 2001 : Nat) : Int) := by
    intro d d0 d1
    have := Int.ofNat_dvd.2 (fac_dvd 2001 d.toNat (by omega) (by omega))
    rwa [Int.toNat_of_nonneg (by omega)] at this
  unfold clK
  exact key_eq (by have := fac_pos 2001; omega) (fun h => dd _ h a.2.2.2) (fun h => dd _ h b.2.2.2) a.1 a.2.1 a.2.2.1 b.1 b.2.1 b.2.2.1
/-- Of one party the claims come one after the other. -/
theorem cl_same (hw : ∀ i, i < n → 0 ≤ v i ∧ v i ≤ 1000000) (hS : S ≤ 1000) (i s t : Nat) (hi : i < n) (p : 0 < v i) (st : s < t) (ht : t < S) : L (clK way v S n) ((ps v i * S + s : Nat) : Int) ((ps v i * S + t : Nat) : Int) := by
  have l1 := idx_lt v S n i s hi p (by omega)
  have l2 := idx_lt v S n i t hi p ht
  have k := cl_key (way := way) hw hS ((ps v i * S + s : Nat) : Int) ((ps v i * S + t : Nat) : Int) (by omega) (by omega) (by omega) (by omega)
  rw [Int.toNat_natCast, Int.toNat_natCast] at k
  obtain ⟨a1, a2, _⟩ := cl_at (way := way) i s hi p (show s < S by omega)
  obtain ⟨b1, b2, _⟩ := cl_at (way := way) i t hi p ht
  rw [a1, a2, b1, b2] at k
  have dl := dv_lt (way := way) (show (s : Int) < (t : Int) by omega)
  have d0 := dv_nonneg (way := way) (show (0 : Int) ≤ (s : Int) by omega)
  have T : lsB (v i) (dv way s) (v i) (dv way t) = true := by
    rw [lsB_def]
    by_cases z : dv way s = 0
    · rw [if_pos (.inl z)]; simp; omega
    · rw [if_neg (by omega)]
      have := Int.mul_lt_mul_of_pos_left dl p
      simpa using this
  rw [T] at k
  exact .inl (by simpa using k.symm)
/-- Of two parties: by votes and divisor, and by place. -/
theorem cl_pre (hw : ∀ i, i < n → 0 ≤ v i ∧ v i ≤ 1000000) (hS : S ≤ 1000) (i s j t : Nat) (hi : i < n) (hj : j < n) (ij : i ≠ j) (p : 0 < v i) (q : 0 < v j) (hs : s < S) (ht : t < S)
    (h : L (clK way v S n) ((ps v i * S + s : Nat) : Int) ((ps v j * S + t : Nat) : Int)) : Pre (v i) (dv way s) i (v j) (dv way t) j := by
  have l1 := idx_lt v S n i s hi p hs
  have l2 := idx_lt v S n j t hj q ht
  have k1 := cl_key (way := way) hw hS ((ps v i * S + s : Nat) : Int) ((ps v j * S + t : Nat) : Int) (by omega) (by omega) (by omega) (by omega)
  have k2 := cl_key (way := way) hw hS ((ps v j * S + t : Nat) : Int) ((ps v i * S + s : Nat) : Int) (by omega) (by omega) (by omega) (by omega)
  rw [Int.toNat_natCast, Int.toNat_natCast] at k1 k2
  obtain ⟨a1, a2, _⟩ := cl_at (way := way) i s hi p hs
  obtain ⟨b1, b2, _⟩ := cl_at (way := way) j t hj q ht
  rw [a1, a2, b1, b2] at k1 k2
  have d0 := dv_nonneg (way := way) (show (0 : Int) ≤ (s : Int) by omega)
  have e0 := dv_nonneg (way := way) (show (0 : Int) ≤ (t : Int) by omega)
  rw [lsB_def] at k1 k2
  generalize dv way (s : Int) = d at *
  generalize dv way (t : Int) = e at *
  rcases h with h | ⟨h, l⟩
  · rw [show decide (clK way v S n ((ps v j * S + t : Nat) : Int) < clK way v S n ((ps v i * S + s : Nat) : Int)) = true by simpa using h] at k1
    left
    by_cases z : d = 0 ∨ e = 0
    · rw [if_pos z] at k1
      have k1' : d = 0 ∧ 0 < e := by simpa using k1
      rw [k1'.1, Int.mul_zero]
      exact Int.mul_pos p k1'.2
    · rw [if_neg z] at k1
      simpa using k1
  · rw [show decide (clK way v S n ((ps v j * S + t : Nat) : Int) < clK way v S n ((ps v i * S + s : Nat) : Int)) = false by rw [decide_eq_false_iff_not, h]; exact Int.lt_irrefl _] at k1
    rw [show decide (clK way v S n ((ps v i * S + s : Nat) : Int) < clK way v S n ((ps v j * S + t : Nat) : Int)) = false by rw [decide_eq_false_iff_not, h]; exact Int.lt_irrefl _] at k2
    right
    refine ⟨?_, ?_⟩
    · by_cases z : d = 0 ∨ e = 0
      · rw [if_pos z] at k1
        rw [if_pos (by omega)] at k2
        have k1' : ¬ (d = 0 ∧ 0 < e) := by simpa using k1
        have k2' : ¬ (e = 0 ∧ 0 < d) := by simpa using k2
        obtain rfl : d = 0 := by omega
        obtain rfl : e = 0 := by omega
        simp
      · rw [if_neg z] at k1
        rw [if_neg (by omega)] at k2
        have k1' : ¬ (v j * d < v i * e) := by simpa using k1
        have k2' : ¬ (v i * e < v j * d) := by simpa using k2
        omega
    · by_cases c : i < j
      · exact c
      · have := mul_far (S := S) (ps_lt (show j < i by omega) q)
        omega
theorem Pre.asymm {va da vb db : Int} {a b : Nat} (h : Pre va da a vb db b) (k : Pre vb db b va da a) : False := by
  unfold Pre at *; omega
/-- What is listed, after so many. -/
def Lst (d : Nat → Int) (j q : Nat) : Prop := ∃ r, r < j ∧ d r = (q : Int)
theorem Ordered.place {k : Int → Int} {m : Nat} {d : Nat → Int} (h : Ordered k m d) (q : Nat) (hq : q < m) : ∃ r, r < m ∧ d r = (q : Int) := by
  obtain ⟨r, _, r1, hr⟩ := h.1.back q (Nat.zero_le _) hq
  exact ⟨r, r1, hr.symm⟩
theorem Ordered.first {k : Int → Int} {m : Nat} {d : Nat → Int} (h : Ordered k m d) (j q : Nat) (hj : j < m) (hq : q < m) (l : L k (q : Int) (d j)) : Lst d j q := by
  obtain ⟨r, r1, hr⟩ := h.place q hq
  refine ⟨r, ?_, hr⟩
  by_cases c : r < j
  · exact c
  · exfalso
    by_cases e : r = j
    · subst e; rw [hr] at l; exact L_ne l rfl
    · have := h.2 j r (Nat.zero_le _) (by omega) r1
      rw [hr] at this
      exact L_asymm l this
theorem Ordered.next {k : Int → Int} {m : Nat} {d : Nat → Int} (h : Ordered k m d) (j q : Nat) (hj : j < m) (hq : q < m) (n1 : ¬ Lst d j q) (n2 : d j ≠ (q : Int)) : L k (d j) (q : Int) := by
  rcases L_total k n2 with l | l
  · exact l
  · exact absurd (h.first j q hj hq l) n1
theorem Ordered.uniq {k : Int → Int} {m : Nat} {d : Nat → Int} (h : Ordered k m d) {i j : Nat} (hi : i < m) (hj : j < m) (e : d i = d j) : i = j := by
  rcases Nat.lt_trichotomy i j with l | l | l
  · exact absurd e (L_ne (h.2 i j (Nat.zero_le _) l hj))
  · exact l
  · exact absurd e.symm (L_ne (h.2 j i (Nat.zero_le _) l hi))
/-- Whose the next claim is: who is next when seats are dealt one by one. -/
theorem who_next (hw : ∀ i, i < n → 0 ≤ v i ∧ v i ≤ 1000000) (T : 0 < sumTo v n) (hS : S ≤ 1000) {d : Nat → Int} (h : Ordered (clK way v S n) (ps v n * S) d) (hm : S ≤ ps v n * S) (j : Nat) (hj : j < S)
    (ih : ∀ i t, i < n → 0 < v i → t < S → (Lst d j (ps v i * S + t) ↔ (t : Int) < dl way v n j i)) :
    ∃ i t : Nat, i < n ∧ 0 < v i ∧ t < S ∧ d j = ((ps v i * S + t : Nat) : Int) ∧ (t : Int) = dl way v n j i ∧ dl way v n (j + 1) = up (dl way v n j) i (dl way v n j i + 1) := by
  have rj := h.inR j (by omega)
  obtain ⟨q, hq⟩ := Int.eq_ofNat_of_zero_le rj.1
  obtain ⟨c1, c2, c3, c4⟩ := cw_spec v S n q (by omega)
  generalize hi0 : cw v S n q = i at *
  obtain ⟨t, ht⟩ : ∃ t, q = ps v i * S + t := ⟨q - ps v i * S, by omega⟩
  have tS : t < S := by omega
  have nl : ¬ Lst d j q := by
    rintro ⟨r, r0, hr⟩
    have := h.uniq (show r < ps v n * S by omega) (show j < ps v n * S by omega) (by rw [hr, hq])
    omega
  have bd := dl_nn way v n j i
  have t1 : ¬ (t : Int) < dl way v n j i := by
    rw [← ih i t c1 c2 tS, ← ht]; exact nl
  have t2 : (t : Int) = dl way v n j i := by
    by_cases z : (t : Int) = dl way v n j i
    · exact z
    · exfalso
      obtain ⟨u, hu⟩ := Int.eq_ofNat_of_zero_le bd.1
      have l := cl_same (way := way) hw hS i u t c1 c2 (by omega) tS
      rw [← ht, ← hq] at l
      have := (ih i u c1 c2 (by omega)).1 (h.first j _ (by omega) (idx_lt v S n i u c1 c2 (by omega)) l)
      omega
  have N : nx way v (dl way v n j) n = i := by
    obtain ⟨c, e, cn, vc, hc⟩ := nx_in (way := way) (fun q hq => (hw q hq).1) (fun q _ => (dl_nn way v n j q).1) T
    rw [e]
    by_cases ci : c = i
    · subst ci; rfl
    · exfalso
      have p1 := hc i c1 (fun z => ci z.symm) c2
      obtain ⟨u, hu⟩ := Int.eq_ofNat_of_zero_le (dl_nn way v n j c).1
      have ub := dl_nn way v n j c
      have nu : ¬ Lst d j (ps v c * S + u) := by
        rw [ih c u cn vc (by omega)]; omega
      have ne : d j ≠ ((ps v c * S + u : Nat) : Int) := by
        rw [hq]
        intro z
        have z' : q = ps v c * S + u := by omega
        have := cw_idx v S n c u cn vc (by omega)
        rw [← z', hi0] at this
        exact ci this.symm
      have l := h.next j _ (by omega) (idx_lt v S n c u cn vc (by omega)) nu ne
      rw [hq, ht] at l
      have p2 := cl_pre (way := way) hw hS i t c u c1 cn (fun z => ci z.symm) c2 vc tS (by omega) l
      rw [hu] at p1
      rw [← t2] at p1
      exact Pre.asymm p1 p2
  exact ⟨i, t, c1, c2, tS, by rw [hq, ht], t2, by rw [dl, N, Int.toNat_natCast]⟩
/-- The claims in order give what dealing one by one gives. -/
theorem listed (hw : ∀ i, i < n → 0 ≤ v i ∧ v i ≤ 1000000) (T : 0 < sumTo v n) (hS : S ≤ 1000) {d : Nat → Int} (h : Ordered (clK way v S n) (ps v n * S) d) (hm : S ≤ ps v n * S) (j : Nat) (hj : j ≤ S) :
    ∀ i t, i < n → 0 < v i → t < S → (Lst d j (ps v i * S + t) ↔ (t : Int) < dl way v n j i) := by
  induction j with
  | zero =>
    intro i t hi p ht
    constructor
    · rintro ⟨r, r0, _⟩; omega
    · intro z; simp [dl] at z; omega
  | succ j ih =>
    have ih := ih (by omega)
    obtain ⟨i, t, c1, c2, tS, hq, t2, D⟩ := who_next hw T hS h hm j (by omega) ih
    intro i2 s hi2 p2 hs
    rw [D]
    constructor
    · rintro ⟨r, r0, hr⟩
      by_cases e : r = j
      · subst e
        have : ps v i * S + t = ps v i2 * S + s := by omega
        have e1 := cw_idx v S n i t c1 c2 tS
        have e2 := cw_idx v S n i2 s hi2 p2 hs
        rw [← this, e1] at e2
        subst e2
        rw [up_same]; omega
      · have := (ih i2 s hi2 p2 hs).1 ⟨r, by omega, hr⟩
        unfold up; split
        · next e2 => subst e2; omega
        · exact this
    · intro z
      by_cases e : i2 = i
      · subst e
        rw [up_same] at z
        by_cases y : (s : Int) < dl way v n j i2
        · obtain ⟨r, r0, hr⟩ := (ih i2 s hi2 p2 hs).2 y
          exact ⟨r, by omega, hr⟩
        · obtain rfl : s = t := by omega
          exact ⟨j, by omega, hq⟩
      · rw [up_ne _ _ e] at z
        obtain ⟨r, r0, hr⟩ := (ih i2 s hi2 p2 hs).2 z
        exact ⟨r, by omega, hr⟩
/-- .. so each claim in its turn goes to who is next. -/
theorem deal_next (hw : ∀ i, i < n → 0 ≤ v i ∧ v i ≤ 1000000) (T : 0 < sumTo v n) (hS : S ≤ 1000) {d : Nat → Int} (h : Ordered (clK way v S n) (ps v n * S) d) (hm : S ≤ ps v n * S) (j : Nat) (hj : j < S) :
    ∃ i : Nat, i < n ∧ clW v S n (d j).toNat = i ∧ dl way v n (j + 1) = up (dl way v n j) i (dl way v n j i + 1) := by
  obtain ⟨i, t, c1, c2, tS, hq, _, D⟩ := who_next hw T hS h hm j hj (listed hw T hS h hm j (by omega))
  refine ⟨i, c1, ?_, D⟩
  rw [hq, Int.toNat_natCast]
  exact (cl_at (way := way) i t c1 c2 tS).2.2
theorem ps_pos (T : 0 < sumTo v n) : 1 ≤ ps v n := by
  obtain ⟨i, hi, p⟩ := sumTo_pos_ex v n T
  have := ps_lt hi p
  omega
end

end Go.Proofs.Ytpkdknddncnceaa
