/-
  Plain mathematics of the stable sort: the order, sorted rows, permutations of a part of a row, insertion. No condition.
-/
import Derived.Test.YtdgiljndoeldcaaTMath
namespace Go.Proofs.Ytdgiljndoeldcaa

/-- Less, equal, greater. -/
def cmpV (x y : Int) : Int := if x < y then -1 else if y < x then 1 else 0
theorem cmpV_neg (x y : Int) : cmpV x y < 0 ↔ x < y := by
  unfold cmpV
  by_cases h : x < y
  · rw [if_pos h]; omega
  · rw [if_neg h]
    by_cases k : y < x
    · rw [if_pos k]; omega
    · rw [if_neg k]; omega
/-- The order: the greatest key first; of equal ones the least number first. -/
def L (k : Int → Int) (x y : Int) : Prop := k y < k x ∨ k x = k y ∧ x < y
theorem L_trans {k : Int → Int} {x y z : Int} (h : L k x y) (h' : L k y z) : L k x z := by unfold L at *; omega
theorem L_total (k : Int → Int) {x y : Int} (h : x ≠ y) : L k x y ∨ L k y x := by unfold L; omega
theorem L_asymm {k : Int → Int} {x y : Int} (h : L k x y) : ¬ L k y x := by unfold L at *; omega
theorem L_ne {k : Int → Int} {x y : Int} (h : L k x y) : x ≠ y := by
  intro e; subst e; unfold L at h; omega
def Sorted (k : Int → Int) (d : Nat → Int) (a b : Nat) : Prop := ∀ i j, a ≤ i → i < j → j < b → L k (d i) (d j)
/-- Where keys are equal, the one ahead is the lesser number. -/
def Cross (k : Int → Int) (d : Nat → Int) (a m b : Nat) : Prop := ∀ i j, a ≤ i → i < m → m ≤ j → j < b → k (d i) = k (d j) → d i < d j
/-- A permutation of the places from a to b. -/
def SegPerm (a b : Nat) (d d' : Nat → Int) : Prop :=
  ∃ σ τ : Nat → Nat, (∀ q, τ (σ q) = q) ∧ (∀ q, σ (τ q) = q) ∧ (∀ q, d' q = d (σ q)) ∧ (∀ q, q < a ∨ b ≤ q → σ q = q)
theorem SegPerm.refl (a b : Nat) (d : Nat → Int) : SegPerm a b d d := ⟨id, id, fun _ => rfl, fun _ => rfl, fun _ => rfl, fun _ _ => rfl⟩
theorem SegPerm.trans {a b : Nat} {d e f : Nat → Int} (h : SegPerm a b d e) (k : SegPerm a b e f) : SegPerm a b d f := by
  obtain ⟨σ, τ, h1, h2, h3, h4⟩ := h
  obtain ⟨σ', τ', k1, k2, k3, k4⟩ := k
  refine ⟨fun q => σ (σ' q), fun q => τ' (τ q), fun q => ?_, fun q => ?_, fun q => ?_, fun q hq => ?_⟩
  · show τ' (τ (σ (σ' q))) = q
    rw [h1, k1]
  · show σ (σ' (τ' (τ q))) = q
    rw [k2, h2]
  · rw [k3, h3]
  · show σ (σ' q) = q
    rw [k4 q hq, h4 q hq]
theorem SegPerm.mono {a b a' b' : Nat} {d e : Nat → Int} (h : SegPerm a b d e) (ha : a' ≤ a) (hb : b ≤ b') : SegPerm a' b' d e := by
  obtain ⟨σ, τ, h1, h2, h3, h4⟩ := h
  exact ⟨σ, τ, h1, h2, h3, fun q hq => h4 q (by omega)⟩
theorem SegPerm.inside {a b : Nat} {σ τ : Nat → Nat} (h1 : ∀ q, τ (σ q) = q) (h4 : ∀ q, q < a ∨ b ≤ q → σ q = q) (q : Nat) (ha : a ≤ q) (hb : q < b) : a ≤ σ q ∧ σ q < b := by
  by_cases c : σ q < a ∨ b ≤ σ q
  · have e := h4 (σ q) c
    have : τ (σ (σ q)) = τ (σ q) := by rw [e]
    rw [h1, h1] at this
    omega
  · omega
theorem SegPerm.src {a b : Nat} {d e : Nat → Int} (h : SegPerm a b d e) (q : Nat) (ha : a ≤ q) (hb : q < b) : ∃ r, a ≤ r ∧ r < b ∧ e q = d r := by
  obtain ⟨σ, τ, h1, h2, h3, h4⟩ := h
  have := SegPerm.inside h1 h4 q ha hb
  exact ⟨σ q, this.1, this.2, h3 q⟩
theorem SegPerm.out {a b : Nat} {d e : Nat → Int} (h : SegPerm a b d e) (q : Nat) (hq : q < a ∨ b ≤ q) : e q = d q := by
  obtain ⟨σ, τ, h1, h2, h3, h4⟩ := h
  rw [h3, h4 q hq]
theorem SegPerm.back {a b : Nat} {d e : Nat → Int} (h : SegPerm a b d e) (q : Nat) (ha : a ≤ q) (hb : q < b) : ∃ r, a ≤ r ∧ r < b ∧ d q = e r := by
  obtain ⟨σ, τ, h1, h2, h3, h4⟩ := h
  have t4 : ∀ q, q < a ∨ b ≤ q → τ q = q := fun q hq => by
    have := h1 q; rw [h4 q hq] at this; exact this
  have := SegPerm.inside h2 t4 q ha hb
  exact ⟨τ q, this.1, this.2, by rw [h3, h2]⟩
theorem SegPerm.inj {a b : Nat} {d e : Nat → Int} (h : SegPerm a b d e) (hd : ∀ i j, a ≤ i → i < b → a ≤ j → j < b → d i = d j → i = j) :
    ∀ i j, a ≤ i → i < b → a ≤ j → j < b → e i = e j → i = j := by
  obtain ⟨σ, τ, h1, h2, h3, h4⟩ := h
  intro i j i0 i1 j0 j1 he
  rw [h3, h3] at he
  have a1 := SegPerm.inside h1 h4 i i0 i1
  have a2 := SegPerm.inside h1 h4 j j0 j1
  have e := hd _ _ a1.1 a1.2 a2.1 a2.2 he
  have : τ (σ i) = τ (σ j) := by rw [e]
  rw [h1, h1] at this; exact this
theorem SegPerm.swap {a b : Nat} (d : Nat → Int) {i j : Nat} (hi : a ≤ i ∧ i < b) (hj : a ≤ j ∧ j < b) : SegPerm a b d (sw d i j) := by
  refine ⟨fun q => if q = j then i else if q = i then j else q, fun q => if q = j then i else if q = i then j else q, fun q => ?_, fun q => ?_, fun q => ?_, fun q hq => ?_⟩
  · dsimp only; repeat' split
    all_goals omega
  · dsimp only; repeat' split
    all_goals omega
  · rw [sw_at]; dsimp only; repeat' split
    all_goals rfl
  · dsimp only; rw [if_neg (by omega), if_neg (by omega)]
theorem SegPerm.rot {a b : Nat} (d : Nat → Int) (s m e : Nat) (h0 : a ≤ s) (h1 : s ≤ m) (h2 : m ≤ e) (h3 : e ≤ b) : SegPerm a b d (rot d s m e) := by
  refine ⟨fun q => if s ≤ q ∧ q < s + (e - m) then q - s + m else if s + (e - m) ≤ q ∧ q < e then q - (e - m) else q,
    fun q => if s ≤ q ∧ q < m then q + (e - m) else if m ≤ q ∧ q < e then q - m + s else q, fun q => ?_, fun q => ?_, fun q => ?_, fun q hq => ?_⟩
  · dsimp only; repeat' split
    all_goals omega
  · dsimp only; repeat' split
    all_goals omega
  · unfold Proofs.Ytdgiljndoeldcaa.rot; dsimp only; repeat' split
    all_goals rfl
  · dsimp only; rw [if_neg (by omega), if_neg (by omega)]
/-- All numbers are places. -/
def InR (N : Nat) (d : Nat → Int) : Prop := ∀ q, q < N → 0 ≤ d q ∧ d q < N
theorem SegPerm.inR {a b N : Nat} {d e : Nat → Int} (h : SegPerm a b d e) (hb : b ≤ N) (hd : InR N d) : InR N e := by
  intro q hq
  by_cases c : a ≤ q ∧ q < b
  · obtain ⟨r, r0, r1, hr⟩ := h.src q c.1 c.2
    rw [hr]; exact hd r (by omega)
  · rw [h.out q (by omega)]; exact hd q hq

/-! Insertion. -/
structure Ins (k : Int → Int) (d : Nat → Int) (a i j : Nat) : Prop where
  a1 : ∀ p q, a ≤ p → p < q → q ≤ i → p ≠ j → q ≠ j → L k (d p) (d q)
  a2 : ∀ q, j < q → q ≤ i → L k (d j) (d q)
  a3 : ∀ p, a ≤ p → p < j → k (d p) = k (d j) → d p < d j
theorem Ins.start {k : Int → Int} {d : Nat → Int} {a i b : Nat} (hs : Sorted k d a i) (hc : Cross k d a i b) (hi : i < b) : Ins k d a i i :=
  ⟨fun p q h1 h2 h3 h4 h5 => hs p q h1 h2 (by omega), fun q h1 h2 => by omega, fun p h1 h2 => hc p i h1 h2 (Nat.le_refl _) hi⟩
theorem Ins.step {k : Int → Int} {d : Nat → Int} {a i j : Nat} (h : Ins k d a i j) (hj : a < j) (hji : j ≤ i) (hl : k (d (j - 1)) < k (d j)) : Ins k (sw d j (j - 1)) a i (j - 1) := by
  have f : ∀ q, sw d j (j - 1) q = if q = j - 1 then d j else if q = j then d (j - 1) else d q := fun q => sw_at d j (j - 1) q
  refine ⟨fun p q h1 h2 h3 h4 h5 => ?_, fun q h1 h2 => ?_, fun p h1 h2 => ?_⟩
  · rw [f p, f q, if_neg h4, if_neg h5]
    by_cases e1 : p = j
    · subst e1
      rw [if_pos rfl, if_neg (by omega)]
      exact h.a1 (p - 1) q (by omega) (by omega) h3 (by omega) (by omega)
    · rw [if_neg e1]
      by_cases e2 : q = j
      · subst e2
        rw [if_pos rfl]
        exact h.a1 p (q - 1) h1 (by omega) (by omega) e1 (by omega)
      · rw [if_neg e2]; exact h.a1 p q h1 h2 h3 e1 e2
  · rw [f (j - 1), f q, if_pos rfl, if_neg (by omega)]
    by_cases e2 : q = j
    · subst e2; rw [if_pos rfl]; exact .inl hl
    · rw [if_neg e2]; exact h.a2 q (by omega) h2
  · rw [f p, f (j - 1), if_pos rfl, if_neg (by omega), if_neg (by omega)]
    exact h.a3 p h1 (by omega)
theorem Ins.done {k : Int → Int} {d : Nat → Int} {a i j : Nat} (h : Ins k d a i j) (hj : a ≤ j) (hji : j ≤ i) (hl : j = a ∨ ¬ k (d (j - 1)) < k (d j)) : Sorted k d a (i + 1) := by
  intro p q h1 h2 h3
  by_cases e1 : p = j
  · subst e1; exact h.a2 q h2 (by omega)
  · by_cases e2 : q = j
    · subst e2
      rcases hl with hl | hl
      · omega
      · have b : L k (d (q - 1)) (d q) := by
          by_cases c : k (d (q - 1)) = k (d q)
          · exact .inr ⟨c, h.a3 (q - 1) (by omega) (by omega) c⟩
          · exact .inl (by omega)
        by_cases e3 : p = q - 1
        · subst e3; exact b
        · exact L_trans (h.a1 p (q - 1) h1 (by omega) (by omega) e1 (by omega)) b
    · exact h.a1 p q h1 h2 (by omega) e1 e2
/-- The round of insertions: the first ones in order, the others as they came. -/
def Outer (k : Int → Int) (d : Nat → Int) (a b i : Nat) : Prop := Sorted k d a i ∧ ∀ p q, a ≤ p → p < q → q < b → i ≤ q → k (d p) = k (d q) → d p < d q
theorem Outer.cross {k : Int → Int} {d : Nat → Int} {a b i : Nat} (h : Outer k d a b i) : Cross k d a i b :=
  fun p q h1 h2 h3 h4 => h.2 p q h1 (by omega) h4 h3
theorem Outer.step {k : Int → Int} {d e : Nat → Int} {a b i : Nat} (h : Outer k d a b i) (hp : SegPerm a (i + 1) d e) (hs : Sorted k e a (i + 1)) : Outer k e a b (i + 1) := by
  refine ⟨hs, fun p q h1 h2 h3 h4 => ?_⟩
  rw [hp.out q (by omega)]
  by_cases c : p < i + 1
  · obtain ⟨r, r0, r1, hr⟩ := hp.src p h1 c
    rw [hr]; exact h.2 r q r0 (by omega) h3 (by omega)
  · rw [hp.out p (by omega)]; exact h.2 p q h1 h2 h3 (by omega)

end Go.Proofs.Ytdgiljndoeldcaa
