import Derived.Test.YtdgiljndoeldcaaTMath
/-
  Plain mathematics of the stable sort: the order, sorted rows, permutations of a part of a row, insertion. No condition.
-/
namespace Go.Proofs.Ytdgiljndoeldcaa

/-- Less, equal, greater. -/
def cmpV (x y : Int) : Int := if x < y then -1 else if y < x then 1 else 0
theorem cmpV_neg (x y : Int) : cmpV x y < 0 ↔ x < y := by
  unfold cmpV
  by_cases h : x < y
  · rw [if_pos h]; omega
  · rw [if_neg h]
    by_cases k : y < x
    · rw [if_pos k]; omega
    · rw [if_neg k]; omega
/-- The order: the greatest key first; of equal ones the least number first. -/
def L (k : Int → Int) (x y : Int) : Prop := k y < k x ∨ k x = k y ∧ x < y
theorem L_trans {k : Int → Int} {x y z : Int} (h : L k x y) (h' : L k y z) : L k x z := by unfold L at *; omega
theorem L_total (k : Int → Int) {x y : Int} (h : x ≠ y) : L k x y ∨ L k y x := by unfold L; omega
theorem L_asymm {k : Int → Int} {x y : Int} (h : L k x y) : ¬ L k y x := by unfold L at *; omega
theorem L_ne {k : Int → Int} {x y : Int} (h : L k x y) : x ≠ y := by
  intro e; subst e; unfold L at h; omega
def Sorted (k : Int → Int) (d : Nat → Int) (a b : Nat) : Prop := ∀ i j, a ≤ i → i < j → j < b → L k (d i) (d j)
/-- Where keys are equal, the one ahead is the lesser number. -/
def Cross (k : Int → Int) (d : Nat → Int) (a m b : Nat) : Prop := ∀ i j, a ≤ i → i < m → m ≤ j → j < b → k (d i) = k (d j) → d i < d j
/-- A permutation of the places from a to b. -/
def SegPerm (a b : Nat) (d d' : Nat → Int) : Prop :=
  ∃ σ τ : Nat → Nat, (∀ q, τ (σ q) = q) ∧ (∀ q, σ (τ q) = q) ∧ (∀ q, d' q = d (σ q)) ∧ (∀ q, q < a ∨ b ≤ q → σ q = q)
theorem SegPerm.refl (a b : Nat) (d : Nat → Int) : SegPerm a b d d := ⟨id, id, fun _ => rfl, fun _ => rfl, fun _ => rfl, fun _ _ => rfl⟩
theorem SegPerm.trans {a b : Nat} {d e f : Nat → Int} (h : SegPerm a b d e) (k : SegPerm a b e f) : SegPerm a b d f := by
  obtain ⟨σ, τ, h1, h2, h3, h4⟩ := h
  obtain ⟨σ', τ', k1, k2, k3, k4⟩ := k
  refine ⟨fun q => σ (σ' q), fun q => τ' (τ q), fun q => ?_, fun q => ?_, fun q => ?_, fun q hq => ?_⟩
  · show τ' (τ (σ (σ' q))) = q
    rw [h1, k1]
  · show σ (σ' (τ' (τ q))) = q
    rw [k2, h2]
  · rw [k3, h3]
  · show σ (σ' q) = q
    rw [k4 q hq, h4 q hq]
theorem SegPerm.mono {a b a' b' : Nat} {d e : Nat → Int} (h : SegPerm a b d e) (ha : a' ≤ a) (hb : b ≤ b') : SegPerm a' b' d e := by
  obtain ⟨σ, τ, h1, h2, h3, h4⟩ := h
  exact ⟨σ, τ, h1, h2, h3, fun q hq => h4 q (by omega)⟩
theorem SegPerm.inside {a b : Nat} {σ τ : Nat → Nat} (h1 : ∀ q, τ (σ q) = q) (h4 : ∀ q, q < a ∨ b ≤ q → σ q = q) (q : Nat) (ha : a ≤ q) (hb : q < b) : a ≤ σ q ∧ σ q < b := by
  by_cases c : σ q < a ∨ b ≤ σ q
  · have e := h4 (σ q) c
    have : τ (σ (σ q)) = τ (σ q) := by rw [e]
    rw [h1, h1] at this
    omega
  · omega
theorem SegPerm.src {a b : Nat} {d e : Nat → Int} (h : SegPerm a b d e) (q : Nat) (ha : a ≤ q) (hb : q < b) : ∃ r, a ≤ r ∧ r < b ∧ e q = d r := by
  obtain ⟨σ, τ, h1, h2, h3, h4⟩ := h
  have := SegPerm.inside h1 h4 q ha hb
  exact ⟨σ q, this.1, this.2, h3 q⟩
theorem SegPerm.out {a b : Nat} {d e : Nat → Int} (h : SegPerm a b d e) (q : Nat) (hq : q < a ∨ b ≤ q) : e q = d q := by
  obtain ⟨σ, τ, h1, h2, h3, h4⟩ := h
  rw [h3, h4 q hq]
theorem SegPerm.back {a b : Nat} {d e : Nat → Int} (h : SegPerm a b d e) (q : Nat) (ha : a ≤ q) (hb : q < b) : ∃ r, a ≤ r ∧ r < b ∧ d q = e r := by
  obtain ⟨σ, τ, h1, h2, h3, h4⟩ := h
  have t4 : ∀ q, q < a ∨ b ≤ q → τ q = q := fun q hq => by
    have := h1 q; rw [h4 q hq] at this; exact this
  have := SegPerm.inside h2 t4 q ha hb
  exact ⟨τ q, this.1, this.2, by rw [h3, h2]⟩
theorem SegPerm.inj {a b : Nat} {d e : Nat → Int} (h : SegPerm a b d e) (hd : ∀ i j, a ≤ i → i < b → a ≤ j → j < b → d i = d j → i = j) :
    ∀ i j, a ≤ i → i < b → a ≤ j → j < b → e i = e j → i = j := by
  obtain ⟨σ, τ, h1, h2, h3, h4⟩ := h
  intro i j i0 i1 j0 j1 he
  rw [h3, h3] at he
  have a1 := SegPerm.inside h1 h4 i i0 i1
  have a2 := SegPerm.inside h1 h4 j j0 j1
  have e := hd _ _ a1.1 a1.2 a2.1 a2.2 he
  have : τ (σ i) = τ (σ j) := by rw [e]
  rw [h1, h1] at this; exact this
theorem SegPerm.swap {a b : Nat} (d : Nat → Int) {i j : Nat} (hi : a ≤ i ∧ i < b) (hj : a ≤ j ∧ j < b) : SegPerm a b d (sw d i j) := by
  refine ⟨fun q => if q = j then i else if q = i then j else q, fun q => if q = j then i else if q = i then j else q, fun q => ?_, fun q => ?_, fun q => ?_, fun q hq => ?_⟩
  · dsimp only; repeat' split
    all_goals omega
  · dsimp only; repeat' split
    all_goals omega
  · rw [sw_at]; dsimp only; repeat' split
    all_goals rfl
  · dsimp only; rw [if_neg (by omega), if_neg (by omega)]
theorem SegPerm.rot {a b : Nat} (d : Nat → Int) (s m e : Nat) (h0 : a ≤ s) (h1 : s ≤ m) (h2 : m ≤ e) (h3 : e ≤ b) : SegPerm a b d (rot d s m e) := by
  refine ⟨fun q => if s ≤ q ∧ q < s + (e - m) then q - s + m else if s + (e - m) ≤ q ∧ q < e then q - (e - m) else q,
    fun q => if s ≤ q ∧ q < m then q + (e - m) else if m ≤ q ∧ q < e then q - m + s else q, fun q => ?_, fun q => ?_, fun q => ?_, fun q hq => ?_⟩
  · dsimp only; repeat' split
    all_goals omega
  · dsimp only; repeat' split
    all_goals omega
  · unfold Proofs.Ytdgiljndoeldcaa.rot; dsimp only; repeat' split
    all_goals rfl
  · dsimp only; rw [if_neg (by omega), if_neg (by omega)]
/-- All numbers are places. -/
def InR (N : Nat) (d : Nat → Int) : Prop := ∀ q, q < N → 0 ≤ d q ∧ d q < N
theorem SegPerm.inR {a b N : Nat} {d e : Nat → Int} (h : SegPerm a b d e) (hb : b ≤ N) (hd : InR N d) : InR N e := by
  intro q hq
  by_cases c : a ≤ q ∧ q < b
  · obtain ⟨r, r0, r1, hr⟩ := h.src q c.1 c.2
    rw [hr]; exact hd r (by omega)
  · rw [h.out q (by omega)]; exact hd q hq

/-! Insertion. -/
structure Ins (k : Int → Int) (d : Nat → Int) (a i j : Nat) : Prop where
  a1 : ∀ p q, a ≤ p → p < q → q ≤ i → p ≠ j → q ≠ j → L k (d p) (d q)
  a2 : ∀ q, j < q → q ≤ i → L k (d j) (d q)
  a3 : ∀ p, a ≤ p → p < j → k (d p) = k (d j) → d p < d j
theorem Ins.start {k : Int → Int} {d : Nat → Int} {a i b : Nat} (hs : Sorted k d a i) (hc : Cross k d a i b) (hi : i < b) : Ins k d a i i :=
  ⟨fun p q h1 h2 h3 h4 h5 => hs p q h1 h2 (by omega), fun q h1 h2 => by omega, fun p h1 h2 => hc p i h1 h2 (Nat.le_refl _) hi⟩
theorem Ins.step {k : Int → Int} {d : Nat → Int} {a i j : Nat} (h : Ins k d a i j) (hj : a < j) (hji : j ≤ i) (hl : k (d (j - 1)) < k (d j)) : Ins k (sw d j (j - 1)) a i (j - 1) := by
  have f : ∀ q, sw d j (j - 1) q = if q = j - 1 then d j else if q = j then d (j - 1) else d q := fun q => sw_at d j (j - 1) q
  refine ⟨fun p q h1 h2 h3 h4 h5 => ?_, fun q h1 h2 => ?_, fun p h1 h2 => ?_⟩
  · rw [f p, f q, if_neg h4, if_neg h5]
    by_cases e1 : p = j
    · subst e1
      rw [if_pos rfl, if_neg (by omega)]
      exact h.a1 (p - 1) q (by omega) (by omega) h3 (by omega) (by omega)
    · rw [if_neg e1]
      by_cases e2 : q = j
      · subst e2
        rw [if_pos rfl]
        exact h.a1 p (q - 1) h1 (by omega) (by omega) e1 (by omega)
      · rw [if_neg e2]; exact h.a1 p q h1 h2 h3 e1 e2
  · rw [f (j - 1), f q, if_pos rfl, if_neg (by omega)]
    by_cases e2 : q = j
    · subst e2; rw [if_pos rfl]; exact .inl hl
    · rw [if_neg e2]; exact h.a2 q (by omega) h2
  · rw [f p, f (j - 1), if_pos rfl, if_neg (by omega), if_neg (by omega)]
    exact h.a3 p h1 (by omega)
theorem Ins.done {k : Int → Int} {d : Nat → Int} {a i j : Nat} (h : Ins k d a i j) (hj : a ≤ j) (hji : j ≤ i) (hl : j = a ∨ ¬ k (d (j - 1)) < k (d j)) : Sorted k d a (i + 1) := by
  intro p q h1 h2 h3
  by_cases e1 : p = j
  · subst e1; exact h.a2 q h2 (by omega)
  · by_cases e2 : q = j
    · subst e2
      rcases hl with hl | hl
      · omega
      · have b : L k (d (q - 1)) (d q) := by
          by_cases c : k (d (q - 1)) = k (d q)
          · exact .inr ⟨c, h.a3 (q - 1) (by omega) (by omega) c⟩
          · exact .inl (by omega)
        by_cases e3 : p = q - 1
        · subst e3; exact b
        · exact L_trans (h.a1 p (q - 1) h1 (by omega) (by omega) e1 (by omega)) b
    · exact h.a1 p q h1 h2 (by omega) e1 e2
/-- The round of insertions: the first ones in order, the others as they came. -/
def Outer (k : Int → Int) (d : Nat → Int) (a b i : Nat) : Prop := Sorted k d a i ∧ ∀ p q, a ≤ p → p < q → q < b → i ≤ q → k (d p) = k (d q) → d p < d q
theorem Outer.cross {k : Int → Int} {d : Nat → Int} {a b i : Nat} (h : Outer k d a b i) : Cross k d a i b :=
  fun p q h1 h2 h3 h4 => h.2 p q h1 (by omega) h4 h3
theorem Outer.step {k : Int → Int} {d e : Nat → Int} {a b i : Nat} (h : Outer k d a b i) (hp : SegPerm a (i + 1) d e) (hs : Sorted k e a (i + 1)) : Outer k e a b (i + 1) := by
  refine ⟨hs, fun p q h1 h2 h3 h4 => ?_⟩
  rw [hp.out q (by omega)]
  by_cases c : p < i + 1
  · obtain ⟨r, r0, r1, hr⟩ := hp.src p h1 c
    rw [hr]; exact h.2 r q r0 (by omega) h3 (by omega)
  · rw [hp.out p (by omega)]; exact h.2 p q h1 h2 h3 (by omega)

end Go.Proofs.Ytdgiljndoeldcaa

/-
  Plain mathematics of merging in place: one number carried over a sorted part, and two sorted parts cut and rotated. No condition.
-/
namespace Go.Proofs.Ytdgiljndoeldcaa

/-- The number at a carried on to k. -/
def shl (d : Nat → Int) (a k : Nat) : Nat → Int := fun q => if a ≤ q ∧ q < k then d (q + 1) else if q = k then d a else d q
theorem shl_start (d : Nat → Int) (a : Nat) : shl d a a = d := by
  funext q; unfold shl; repeat' split
  all_goals first | rfl | (exfalso; omega) | (congr 1; omega)
theorem shl_step (d : Nat → Int) (a k : Nat) (h : a ≤ k) : sw (shl d a k) k (k + 1) = shl d a (k + 1) := by
  funext q; rw [sw_at]; unfold shl; repeat' split
  all_goals first | rfl | (exfalso; omega) | (congr 1; omega)
theorem shl_end (d : Nat → Int) (a i : Nat) (h : a + 1 ≤ i) : shl d a (i - 1) = rot d a (a + 1) i := by
  funext q; unfold shl rot; repeat' split
  all_goals first | rfl | (exfalso; omega) | (congr 1; omega)
/-- The number at m carried back to k. -/
def shr (d : Nat → Int) (m k : Nat) : Nat → Int := fun q => if k < q ∧ q ≤ m then d (q - 1) else if q = k then d m else d q
theorem shr_start (d : Nat → Int) (m : Nat) : shr d m m = d := by
  funext q; unfold shr; repeat' split
  all_goals first | rfl | (exfalso; omega) | (congr 1; omega)
theorem shr_step (d : Nat → Int) (m k : Nat) (h : k ≤ m) (h0 : 1 ≤ k) : sw (shr d m k) k (k - 1) = shr d m (k - 1) := by
  funext q; rw [sw_at]; unfold shr; repeat' split
  all_goals first | rfl | (exfalso; omega) | (congr 1; omega)
theorem shr_end (d : Nat → Int) (m i : Nat) (h : i ≤ m) : shr d m i = rot d i m (m + 1) := by
  funext q; unfold shr rot; repeat' split
  all_goals first | rfl | (exfalso; omega) | (congr 1; omega)

/-- Two sorted parts, cut where all ahead is less than all behind. -/
structure CutAt (k : Int → Int) (d : Nat → Int) (a s m e b : Nat) : Prop where
  h0 : a ≤ s
  h1 : s ≤ m
  h2 : m ≤ e
  h3 : e ≤ b
  x3 : ∀ p q, a ≤ p → p < s → e ≤ q → q < b → L k (d p) (d q)
  x4 : ∀ p q, m ≤ p → p < e → s ≤ q → q < m → L k (d p) (d q)
/-- What of the rotated row lies where. -/
theorem rot_low {d : Nat → Int} {s m e : Nat} (q : Nat) (h : q < s) : rot d s m e q = d q := by
  unfold rot; rw [if_neg (by omega), if_neg (by omega)]
theorem rot_b1 {d : Nat → Int} {s m e : Nat} (q : Nat) (h0 : s ≤ q) (h1 : q < s + (e - m)) : rot d s m e q = d (q - s + m) := by
  unfold rot; rw [if_pos ⟨h0, h1⟩]
theorem rot_a2 {d : Nat → Int} {s m e : Nat} (q : Nat) (h0 : s + (e - m) ≤ q) (h1 : q < e) : rot d s m e q = d (q - (e - m)) := by
  unfold rot; rw [if_neg (by omega), if_pos ⟨h0, h1⟩]
theorem rot_high {d : Nat → Int} {s m e : Nat} (q : Nat) (_h1 : s ≤ e) (h : e ≤ q) (h2 : s + (e - m) ≤ e) : rot d s m e q = d q := by
  unfold rot; rw [if_neg (by omega), if_neg (by omega)]
section
variable {k : Int → Int} {d : Nat → Int} {a s m e b : Nat}
/-- All ahead of the middle is less than all behind. -/
theorem CutAt.lt (c : CutAt k d a s m e b) (hs : Sorted k d a m) (ht : Sorted k d m b) (p q : Nat) (p0 : a ≤ p) (p1 : p < s + (e - m)) (q0 : s + (e - m) ≤ q) (q1 : q < b) :
    L k (rot d s m e p) (rot d s m e q) := by
  have h0 := c.h0; have h1 := c.h1; have h2 := c.h2; have h3 := c.h3
  by_cases cp : p < s
  · rw [rot_low p cp]
    by_cases cq : q < e
    · rw [rot_a2 q q0 cq]; exact hs p _ p0 (by omega) (by omega)
    · rw [rot_high q (by omega) (by omega) (by omega)]; exact c.x3 p q p0 cp (by omega) q1
  · rw [rot_b1 p (by omega) p1]
    by_cases cq : q < e
    · rw [rot_a2 q q0 cq]; exact c.x4 _ _ (by omega) (by omega) (by omega) (by omega)
    · rw [rot_high q (by omega) (by omega) (by omega)]; exact ht _ q (by omega) (by omega) q1
/-- The four pieces are sorted still. -/
theorem CutAt.s1 (c : CutAt k d a s m e b) (hs : Sorted k d a m) : Sorted k (rot d s m e) a s := by
  intro i j i0 ij js
  have h1 := c.h1
  rw [rot_low i (by omega), rot_low j js]; exact hs i j i0 ij (by omega)
theorem CutAt.s2 (c : CutAt k d a s m e b) (ht : Sorted k d m b) : Sorted k (rot d s m e) s (s + (e - m)) := by
  intro i j i0 ij js
  have h2 := c.h2; have h3 := c.h3
  rw [rot_b1 i i0 (by omega), rot_b1 j (by omega) js]; exact ht _ _ (by omega) (by omega) (by omega)
theorem CutAt.s3 (c : CutAt k d a s m e b) (hs : Sorted k d a m) : Sorted k (rot d s m e) (s + (e - m)) e := by
  intro i j i0 ij js
  have h0 := c.h0; have h1 := c.h1; have h2 := c.h2
  rw [rot_a2 i i0 (by omega), rot_a2 j (by omega) js]; exact hs _ _ (by omega) (by omega) (by omega)
theorem CutAt.s4 (c : CutAt k d a s m e b) (ht : Sorted k d m b) : Sorted k (rot d s m e) e b := by
  intro i j i0 ij js
  have h1 := c.h1; have h2 := c.h2
  rw [rot_high i (by omega) i0 (by omega), rot_high j (by omega) (by omega) (by omega)]; exact ht _ _ (by omega) ij js
/-- Where keys are equal the left one is the lesser number still. -/
theorem CutAt.c1 (c : CutAt k d a s m e b) (hc : Cross k d a m b) : Cross k (rot d s m e) a s (s + (e - m)) := by
  intro i j i0 is js j1
  have h1 := c.h1; have h2 := c.h2; have h3 := c.h3
  rw [rot_low i is, rot_b1 j js j1]; exact hc i _ i0 (by omega) (by omega) (by omega)
theorem CutAt.c2 (c : CutAt k d a s m e b) (hc : Cross k d a m b) : Cross k (rot d s m e) (s + (e - m)) e b := by
  intro i j i0 is js j1
  have h0 := c.h0; have h1 := c.h1; have h2 := c.h2
  rw [rot_a2 i i0 is, rot_high j (by omega) js (by omega)]; exact hc _ j (by omega) (by omega) (by omega) j1
end
/-- Two halves, each sorted by itself, all ahead less than all behind: sorted. -/
theorem halves {k : Int → Int} {T D : Nat → Int} {a mid b : Nat} (hm : a ≤ mid) (hb : mid ≤ b) (hlt : ∀ p q, a ≤ p → p < mid → mid ≤ q → q < b → L k (T p) (T q))
    {E : Nat → Int} (hE : SegPerm a mid T E) (hD : SegPerm mid b E D) (s1 : Sorted k E a mid) (s2 : Sorted k D mid b) : Sorted k D a b ∧ SegPerm a b T D := by
  refine ⟨fun i j i0 ij jb => ?_, (hE.mono (Nat.le_refl _) hb).trans (hD.mono hm (Nat.le_refl _))⟩
  by_cases ci : i < mid
  · by_cases cj : j < mid
    · rw [hD.out i (by omega), hD.out j (by omega)]; exact s1 i j i0 ij cj
    · rw [hD.out i (by omega)]
      obtain ⟨r, r0, r1, hr⟩ := hE.src i i0 ci
      obtain ⟨t, t0, t1, ht⟩ := hD.src j (by omega) jb
      rw [hr, ht, hE.out t (by omega)]; exact hlt r t r0 r1 t0 t1
  · exact s2 i j (by omega) ij jb
/-- The cut of one number ahead. -/
theorem cut_left {k : Int → Int} {d : Nat → Int} {a i b : Nat} (hi : a + 1 ≤ i) (hb : i ≤ b) (ht : Sorted k d (a + 1) b) (hc : Cross k d a (a + 1) b)
    (l : i = a + 1 ∨ k (d a) < k (d (i - 1))) (r : i = b ∨ ¬ k (d a) < k (d i)) : CutAt k d a a (a + 1) i b := by
  refine ⟨Nat.le_refl _, by omega, hi, hb, fun p q p0 p1 => by omega, fun p q p0 p1 q0 q1 => ?_⟩
  obtain rfl : q = a := by omega
  rcases l with l | l
  · omega
  · have z : L k (d (i - 1)) (d q) := .inl l
    by_cases e : p = i - 1
    · subst e; exact z
    · exact L_trans (ht p (i - 1) p0 (by omega) (by omega)) z
theorem cut_left_rest {k : Int → Int} {d : Nat → Int} {a i b : Nat} (hi : a + 1 ≤ i) (ht : Sorted k d (a + 1) b) (hc : Cross k d a (a + 1) b)
    (r : i = b ∨ ¬ k (d a) < k (d i)) (q : Nat) (q0 : i ≤ q) (q1 : q < b) : L k (d a) (d q) := by
  rcases r with r | r
  · omega
  · have z : L k (d a) (d i) := by
      by_cases e : k (d a) = k (d i)
      · exact .inr ⟨e, hc a i (Nat.le_refl _) (by omega) (by omega) (by omega) e⟩
      · exact .inl (by omega)
    by_cases e : q = i
    · subst e; exact z
    · exact L_trans z (ht i q hi (by omega) q1)
theorem sorted_left {k : Int → Int} {d : Nat → Int} {a i b : Nat} (hi : a + 1 ≤ i) (hb : i ≤ b) (ht : Sorted k d (a + 1) b) (hc : Cross k d a (a + 1) b)
    (l : i = a + 1 ∨ k (d a) < k (d (i - 1))) (r : i = b ∨ ¬ k (d a) < k (d i)) : Sorted k (rot d a (a + 1) i) a b := by
  have c := cut_left hi hb ht hc l r
  have hs : Sorted k d a (a + 1) := fun p q p0 pq q1 => by omega
  intro p q p0 pq qb
  by_cases cp : p < a + (i - (a + 1))
  · by_cases cq : q < a + (i - (a + 1))
    · exact c.s2 ht p q (by omega) pq cq
    · exact c.lt hs ht p q p0 cp (by omega) qb
  · by_cases e : p < i
    · rw [rot_a2 p (by omega) e, show p - (i - (a + 1)) = a by omega, rot_high q (by omega) (by omega) (by omega)]
      exact cut_left_rest hi ht hc r q (by omega) qb
    · exact c.s4 ht p q (by omega) pq qb
theorem sorted_right {k : Int → Int} {d : Nat → Int} {a i m : Nat} (hi : a ≤ i) (hm : i ≤ m) (hs : Sorted k d a m) (hc : Cross k d a m (m + 1))
    (l : i = a ∨ ¬ k (d (i - 1)) < k (d m)) (r : i = m ∨ k (d i) < k (d m)) : Sorted k (rot d i m (m + 1)) a (m + 1) := by
  have lo : ∀ p, a ≤ p → p < i → L k (d p) (d m) := by
    intro p p0 p1
    rcases l with l | l
    · omega
    · have z : L k (d (i - 1)) (d m) := by
        by_cases e : k (d (i - 1)) = k (d m)
        · exact .inr ⟨e, hc (i - 1) m (by omega) (by omega) (Nat.le_refl _) (by omega) e⟩
        · exact .inl (by omega)
      by_cases e : p = i - 1
      · subst e; exact z
      · exact L_trans (hs p (i - 1) p0 (by omega) (by omega)) z
  have hi2 : ∀ q, i ≤ q → q < m → L k (d m) (d q) := by
    intro q q0 q1
    rcases r with r | r
    · omega
    · have z : L k (d m) (d i) := .inl r
      by_cases e : q = i
      · subst e; exact z
      · exact L_trans z (hs i q hi (by omega) q1)
  intro p q p0 pq qb
  by_cases cp : p < i
  · rw [rot_low p cp]
    by_cases cq : q < i
    · rw [rot_low q cq]; exact hs p q p0 pq (by omega)
    · by_cases e : q = i
      · subst e; rw [rot_b1 q (by omega) (by omega), show q - q + m = m by omega]; exact lo p p0 cp
      · rw [rot_a2 q (by omega) (by omega)]; exact hs p _ p0 (by omega) (by omega)
  · by_cases e : p = i
    · subst e
      rw [rot_b1 p (by omega) (by omega), show p - p + m = m by omega, rot_a2 q (by omega) (by omega)]
      exact hi2 _ (by omega) (by omega)
    · rw [rot_a2 p (by omega) (by omega), rot_a2 q (by omega) (by omega)]
      exact hs _ _ (by omega) (by omega) (by omega)
/-- The cut that the search finds. -/
theorem cut_main {k : Int → Int} {d : Nat → Int} {a m b mid s lo hi : Nat} (ha : a < m) (hb : m < b) (hmid : mid = (a + b) / 2)
    (hlo : m ≤ mid ∧ lo = a ∧ hi = m ∨ mid < m ∧ lo = mid + m - b ∧ hi = mid) (h0 : lo ≤ s) (h1 : s ≤ hi)
    (hs : Sorted k d a m) (ht : Sorted k d m b) (hc : Cross k d a m b)
    (l : s = lo ∨ ¬ k (d (s - 1)) < k (d (mid + m - 1 - (s - 1)))) (r : s = hi ∨ k (d s) < k (d (mid + m - 1 - s))) :
    CutAt k d a s m (mid + m - s) b ∧ s + (mid + m - s - m) = mid ∧ s ≤ mid ∧ mid ≤ mid + m - s := by
  have q1 : a ≤ s := by omega
  have q2 : s ≤ m := by omega
  have q3 : s ≤ mid := by omega
  have q4 : mid + m - s ≤ b := by omega
  refine ⟨⟨q1, q2, by omega, q4, fun p q p0 p1 e0 e1 => ?_, fun p q p0 p1 e0 e1 => ?_⟩, by omega, q3, by omega⟩
  · have z : L k (d (s - 1)) (d (mid + m - s)) := by
      rcases l with l | l
      · omega
      · rw [show mid + m - 1 - (s - 1) = mid + m - s by omega] at l
        by_cases e : k (d (s - 1)) = k (d (mid + m - s))
        · exact .inr ⟨e, hc (s - 1) (mid + m - s) (by omega) (by omega) (by omega) (by omega) e⟩
        · exact .inl (by omega)
    have z1 : L k (d p) (d (mid + m - s)) := by
      by_cases e : p = s - 1
      · subst e; exact z
      · exact L_trans (hs p (s - 1) p0 (by omega) (by omega)) z
    by_cases e : q = mid + m - s
    · subst e; exact z1
    · exact L_trans z1 (ht (mid + m - s) q (by omega) (by omega) e1)
  · have z : L k (d (mid + m - s - 1)) (d s) := by
      rcases r with r | r
      · omega
      · rw [show mid + m - 1 - s = mid + m - s - 1 by omega] at r
        exact .inl r
    have z1 : L k (d p) (d s) := by
      by_cases e : p = mid + m - s - 1
      · subst e; exact z
      · exact L_trans (ht p (mid + m - s - 1) p0 (by omega) (by omega)) z
    by_cases e : q = s
    · subst e; exact z1
    · exact L_trans z1 (hs s q q1 (by omega) e1)

end Go.Proofs.Ytdgiljndoeldcaa
