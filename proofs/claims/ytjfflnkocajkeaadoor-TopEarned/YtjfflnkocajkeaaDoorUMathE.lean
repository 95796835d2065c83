/-
  Earnings that are posted month by month: the ends of the months, and what the books have of it. No condition but those that each theorem names.
-/
import Derived.Test.YtjfflnkocajkeaaDoorEWalkB
import Derived.Deep.AppendLies
namespace Go.Proofs.YtjfflnkocajkeaaDoor
open Go.RowKit
set_option linter.unusedVariables false

/-! Months are not short. -/
theorem last_28 (n : Int) (n0 : 0 ≤ n) (n1 : n ≤ 292193) (h : lastV n ≠ 292193) : lastV n + 28 ≤ lastV (lastV n + 1) := by
  obtain ⟨d1, _, n3⟩ := last_next n n0 n1 h
  have l0 := (idx_last n n0 n1).2.2.2.1
  obtain ⟨v, e⟩ := Cal.date (lastV n + 1) (by omega) n3
  rw [d1] at e
  have d := Cal.dim_bd (Cal.Y (lastV n + 1)) (Cal.M (lastV n + 1))
  obtain ⟨x, hx⟩ : ∃ x, lastV n + 1 = x := ⟨_, rfl⟩
  rw [hx] at e d ⊢
  unfold Cal.num at e
  have q : lastV x = Cal.ys (Cal.Y x) + Cal.cum (Cal.Y x) (Cal.M x) + Cal.dim (Cal.Y x) (Cal.M x) - 1 := rfl
  omega
theorem en_far (f t : Int) (f0 : 0 ≤ f) (ft : f ≤ t) (t1 : t ≤ 292193) : ∀ k : Nat, (k : Int) < mCt f t → f + 28 * (k : Int) ≤ enD f (k + 1)
  | 0, h => by have := (enD_spec f t f0 ft t1 0 h).2.2.2.1; simpa using this
  | k + 1, h => by
    have ih := en_far f t f0 ft t1 k (by omega)
    obtain ⟨_, lt, _, _, _⟩ := enD_spec f t f0 ft t1 (k + 1) h
    obtain ⟨_, _, _, g0, g1, _, _, ll⟩ := enD_spec f t f0 ft t1 k (by omega)
    have := last_28 (enD f (k + 1)) (by omega) g1 (by rw [ll]; omega)
    rw [ll] at this
    show _ ≤ lastV (enD f (k + 1) + 1)
    omega
theorem mCt_40 (f t : Int) (f0 : 0 ≤ f) (ft : f ≤ t) (t1 : t ≤ 292193) (h : t ≤ f + 999) : mCt f t ≤ 40 := by
  by_cases c : mCt f t ≤ 40
  · exact c
  · exfalso
    have a : f + 28 * 39 ≤ enD f 40 := en_far f t f0 ft t1 39 (by omega)
    have b := (enD_spec f t f0 ft t1 40 (by omega)).2.1
    omega
theorem enD_lt (f t : Int) (f0 : 0 ≤ f) (ft : f ≤ t) (t1 : t ≤ 292193) {i j : Nat} (h : i < j) (hj : (j : Int) ≤ mCt f t) : enD f i < enD f j := by
  induction j with
  | zero => omega
  | succ j ih =>
    have a := (enD_spec f t f0 ft t1 j (by omega)).2.2.1
    by_cases e : i = j
    · subst e; exact a
    · have := ih (by omega) (by omega); omega
theorem enD_le (f t : Int) (f0 : 0 ≤ f) (ft : f ≤ t) (t1 : t ≤ 292193) {i j : Nat} (h : i ≤ j) (hj : (j : Int) ≤ mCt f t) : enD f i ≤ enD f j := by
  by_cases e : i = j
  · subst e; exact Int.le_refl _
  · exact Int.le_of_lt (enD_lt f t f0 ft t1 (by omega) hj)
theorem eaP_nonneg {a f t : Int} (f0 : 0 ≤ f) (ft : f ≤ t) (t1 : t ≤ 292193) (a0 : 0 ≤ a) {k : Nat} (h : (k : Int) < mCt f t) : 0 ≤ eaP a f t k := by
  have := eaV_mono (a := a) (f := f) (t := t) ft (enD_le f t f0 ft t1 (i := k) (j := k + 1) (by omega) (by omega)) a0
  unfold eaP eaC; omega
theorem isB_self (c : ByteArray) (a : Int) : isB c (c, a) = true := isB_iff.2 rfl
theorem isB_not {c d : ByteArray} (h : d ≠ c) (a : Int) : isB c (d, a) = false := by
  cases e : isB c (d, a)
  · rfl
  · exact absurd (isB_iff.1 e) h
theorem ow_sums (a : Int) : codeS c40 (mvL c10 c20 a) = 0 ∧ codeS c20 (mvL c10 c20 a) = -a := by
  have b1 : ∀ a, isB c20 (c10, a) = false := isB_not (by decide)
  have b2 : ∀ a, isB c40 (c10, a) = false := isB_not (by decide)
  have b3 : ∀ a, isB c40 (c20, a) = false := isB_not (by decide)
  have b4 : ∀ a, isB c20 (c20, a) = true := isB_self _
  unfold mvL
  simp [codeS, b1, b2, b3, b4]
theorem en_sums (a : Int) : codeS c40 (mvL c20 c40 a) = -a ∧ codeS c20 (mvL c20 c40 a) = a := by
  have b1 : ∀ a, isB c40 (c20, a) = false := isB_not (by decide)
  have b2 : ∀ a, isB c20 (c40, a) = false := isB_not (by decide)
  have b3 : ∀ a, isB c40 (c40, a) = true := isB_self _
  have b4 : ∀ a, isB c20 (c20, a) = true := isB_self _
  unfold mvL
  simp [codeS, b1, b2, b3, b4]
/-- What the books have of it, months that are past. -/
structure EaSt (b : Bk) (a f t : Int) (m k : Nat) : Prop where
  e40 : ∀ j : Nat, 1 ≤ j → j ≤ m → balS c40 (enD f j) b.ens = -(eaC a f t (min j k))
  e20 : ∀ j : Nat, 1 ≤ j → j ≤ m → balS c20 (enD f j) b.ens = -a + eaC a f t (min j k)
theorem EaSt.first {a f t : Int} {m : Nat} (f0 : 0 ≤ f) (ft : f ≤ t) (t1 : t ≤ 292193) (hm : mCt f t = m) (a1 : 1 ≤ a) (a2 : a ≤ 1000000000000) :
    poE topB ⟨kyS 99, f, mvL c10 c20 a⟩ = 0 ∧ Tp (poV topB ⟨kyS 99, f, mvL c10 c20 a⟩) (fun j => j < 0 ∨ j = 99) 1 ∧ EaSt (poV topB ⟨kyS 99, f, mvL c10 c20 a⟩) a f t m 0 := by
  obtain ⟨ok, ev, tp⟩ := Tp.new.post (n := 99) (d := f) (l := mvL c10 c20 a) (by omega) (fun h => h) (by omega) (by omega) (by omega) (mvL_ok (by decide +kernel) (by decide +kernel) (by decide) (by decide +kernel) (by decide +kernel) (by omega) (by omega) (by omega))
  obtain ⟨s1, s2⟩ := ow_sums a
  have z := eaC_zero a f t ft
  refine ⟨ok, tp.mono (fun j hj => by rcases hj with h | h; exact h.elim; exact .inr h) (Nat.le_refl _), ?_⟩
  rw [ev]
  refine ⟨fun j j1 jm => ?_, fun j j1 jm => ?_⟩
  · have h1 := enD_le f t f0 ft t1 (i := 1) (j := j) j1 (by omega)
    have h2 := (enD_spec f t f0 ft t1 0 (by omega)).2.2.2.1
    simp only [balS_ins]; rw [if_pos (show f ≤ enD f j by simp at h2; omega), s1, show min j 0 = 0 by omega, z]; simp [topB, balS, allS]
  · have h1 := enD_le f t f0 ft t1 (i := 1) (j := j) j1 (by omega)
    have h2 := (enD_spec f t f0 ft t1 0 (by omega)).2.2.2.1
    simp only [balS_ins]; rw [if_pos (show f ≤ enD f j by simp at h2; omega), s2, show min j 0 = 0 by omega, z]; simp [topB, balS, allS]
theorem EaSt.skip {b : Bk} {a f t : Int} {m k : Nat} (h : EaSt b a f t m k) (z : eaP a f t k = 0) : EaSt b a f t m (k + 1) := by
  have e : eaC a f t (k + 1) = eaC a f t k := by unfold eaP at z; omega
  have q : ∀ j : Nat, eaC a f t (min j (k + 1)) = eaC a f t (min j k) := fun j => by
    by_cases c : k + 1 ≤ j
    · rw [show min j (k + 1) = k + 1 by omega, show min j k = k by omega, e]
    · rw [show min j (k + 1) = min j k by omega]
  exact ⟨fun j j1 jm => by rw [q]; exact h.e40 j j1 jm, fun j j1 jm => by rw [q]; exact h.e20 j j1 jm⟩
theorem EaSt.step {b : Bk} {a f t n : Int} {m k : Nat} (h : EaSt b a f t m k) (hT : Tp b (fun j => j < k ∨ j = 99) (k + 1)) (f0 : 0 ≤ f) (ft : f ≤ t) (t1 : t ≤ 292193) (hm : mCt f t = m) (km : k < m) (k40 : k < 40) (hn : eaP a f t k = n) (n0 : n ≠ 0) (n1 : -1000000000000 ≤ n) (n2 : n ≤ 1000000000000) :
    poE b ⟨kyS k, enD f (k + 1), mvL c20 c40 n⟩ = 0 ∧ Tp (poV b ⟨kyS k, enD f (k + 1), mvL c20 c40 n⟩) (fun j => j < k + 1 ∨ j = 99) (k + 1 + 1) ∧ EaSt (poV b ⟨kyS k, enD f (k + 1), mvL c20 c40 n⟩) a f t m (k + 1) := by
  obtain ⟨_, _, _, d0, d1, _⟩ := enD_spec f t f0 ft t1 k (by omega)
  obtain ⟨ok, ev, tp⟩ := hT.post (n := k) (d := enD f (k + 1)) (l := mvL c20 c40 n) (by omega) (by omega) (by omega) (by omega) d1 (mvL_ok (by decide +kernel) (by decide +kernel) (by decide) (by decide +kernel) (by decide +kernel) n0 n1 n2)
  obtain ⟨s1, s2⟩ := en_sums n
  have ec : eaC a f t (k + 1) = eaC a f t k + n := by unfold eaP at hn; omega
  refine ⟨ok, tp.mono (fun j hj => by omega) (Nat.le_refl _), ?_⟩
  rw [ev]
  refine ⟨fun j j1 jm => ?_, fun j j1 jm => ?_⟩
  all_goals
    simp only [balS_ins]
    by_cases c : k + 1 ≤ j
    · have := enD_le f t f0 ft t1 c (by omega)
      rw [if_pos this]
      first
        | rw [s1, h.e40 j j1 jm, show min j (k + 1) = k + 1 by omega, show min j k = k by omega, ec]; omega
        | rw [s2, h.e20 j j1 jm, show min j (k + 1) = k + 1 by omega, show min j k = k by omega, ec]; omega
    · have := enD_lt f t f0 ft t1 (i := j) (j := k + 1) (by omega) (by omega)
      rw [if_neg (by omega), show min j (k + 1) = min j k by omega]
      first
        | rw [h.e40 j j1 jm]; omega
        | rw [h.e20 j j1 jm]; omega
/-- What lies from a block on reads the same. -/
def Same (B : Nat) (w w' : World) : Prop := w.heap.size ≤ w'.heap.size ∧ ∀ a : Addr, B ≤ a.block → a.block < w.heap.size → w'.cell? a = w.cell? a
theorem Same.grown {B : Nat} {w w' : World} {o : Option Nat} (g : w.grownBy w' o) (h : ∀ j, o = some j → j < B) : Same B w w' :=
  ⟨g.size, fun a h1 h2 => g.cell_far a h2 fun e => by have := h _ e.symm; omega⟩
theorem PRow.same {B : Nat} {w w' : World} {p off : Nat} {l : List Pr} (h : PRow w p off l) (s : Same B w w') (hp : B ≤ p) : PRow w' p off l :=
  ⟨Nat.lt_of_lt_of_le h.lt s.1, fun j hj => (s.2 ⟨p, _, none⟩ hp h.lt).trans (h.c0 j hj), fun j hj => (s.2 ⟨p, _, none⟩ hp h.lt).trans (h.c1 j hj)⟩
theorem LnA.same {B : Nat} {w w' : World} {v : Value} {l : List Pr} (h : LnA w v l) (s : Same B w w') (hv : NewV B v) : LnA w' v l := by
  obtain ⟨a, cap, rfl, h1, h2, h3⟩ := h
  refine ⟨a, cap, rfl, h1, h2, ?_⟩
  rcases h3 with h3 | ⟨p, off, rfl, h3⟩
  · exact .inl h3
  · exact .inr ⟨p, off, rfl, h3.same s (hv p off _ _ rfl)⟩
theorem Enc.same {B : Nat} {w w' : World} (s : Same B w w') : ∀ {l : List Et} {cs : List Value}, Enc w l cs → (∀ v ∈ cs, NewV B v) → Enc w' l cs
  | [], _, h, _ => h
  | x :: _, _, ⟨v, t, e, h1, h2⟩, ho => ⟨v, t, e, h1.same s (ho v (by rw [e]; simp)), h2.same s fun z hz => ho z (by rw [e]; simp [hz])⟩
theorem BkF.same {w w' : World} {B : Nat} {q : BkA} {b : Bk} (h : BkF w B q b) (s : Same B w w') : BkF w' B q b := by
  obtain ⟨p, e, h1, hp⟩ := h.acs
  obtain ⟨g, cs, e2, h2, hl, hc, hd, hn⟩ := h.ens
  exact ⟨⟨p, e, h1, hp.same s h1⟩, h.sha, h.la, h.lca, ⟨g, cs, e2, h2, Nat.lt_of_lt_of_le hl s.1, hc.same s hn, fun j v hj => (s.2 ⟨g, j, none⟩ h2 hl).trans (hd j v hj), hn⟩, h.she, h.le, h.lce⟩
theorem VBk.grown {w w' : World} {p : Nat} {q : BkA} {b : Bk} {o : Option Nat} (h : VBk w p q b) (g : w.grownBy w' o) (hne : o ≠ some p) : VBk w' p q b := by
  obtain ⟨⟨a, c0, c1, c2⟩, f0, f1, f2⟩ := h
  have hn : some p ≠ o := fun e => hne e.symm
  exact ⟨⟨Nat.lt_of_lt_of_le a g.size, g.cell c0 hn, g.cell c1 hn, g.cell c2 hn⟩, (g.frozen_far ⟨p, 0, Option.none⟩ a hn).trans f0, (g.frozen_far ⟨p, 1, Option.none⟩ a hn).trans f1, (g.frozen_far ⟨p, 2, Option.none⟩ a hn).trans f2⟩
/-- Where a loop's book lies, beside a row that grows: where it lay at W, or in memory of its own that the row doesn't share. -/
def BkW (W w : World) (p : Nat) (q : BkA) (b : Bk) (v : Value) : Prop := BkM W q b ∨ ∃ B V, p < B ∧ BkF V B q b ∧ Same B V w ∧ ∀ j, v.ownBlock = some j → j < B ∨ V.heap.size ≤ j
theorem Same.refl (B : Nat) (w : World) : Same B w w := ⟨Nat.le_refl _, fun _ _ _ => rfl⟩
theorem Same.trans {B : Nat} {u v w : World} (h : Same B u v) (k : Same B v w) : Same B u w := ⟨Nat.le_trans h.1 k.1, fun a h1 h2 => (k.2 a h1 (Nat.lt_of_lt_of_le h2 h.1)).trans (h.2 a h1 h2)⟩
theorem Same.kept {B : Nat} {u v w : World} (h : Same B u v) (k : Kept v w) : Same B u w := ⟨Nat.le_trans h.1 k.le, fun a h1 h2 => (k.grownBy.cell_far a (Nat.lt_of_lt_of_le h2 h.1) (by simp)).trans (h.2 a h1 h2)⟩
theorem BkW.m {W w : World} {p : Nat} {q : BkA} {b : Bk} {v : Value} (h : BkW W w p q b v) (k : Kept W w) : BkM w q b := by
  rcases h with h | ⟨B, V, _, h, s, _⟩
  · exact h.later k
  · exact (h.same s).m
theorem BkW.later {W w w' : World} {p : Nat} {q : BkA} {b : Bk} {v : Value} (h : BkW W w p q b v) (k : Kept w w') : BkW W w' p q b v := by
  rcases h with h | ⟨B, V, hB, h, s, o⟩
  · exact .inl h
  · exact .inr ⟨B, V, hB, h, s.kept k, o⟩
theorem BkW.grown {W w w' : World} {p : Nat} {q : BkA} {b : Bk} {v v' : Value} (h : BkW W w p q b v) (g : w.grownBy w' v.ownBlock) (m : Moved w v v') : BkW W w' p q b v' := by
  rcases h with h | ⟨B, V, hB, h, s, o⟩
  · exact .inl h
  · refine .inr ⟨B, V, hB, h, ⟨Nat.le_trans s.1 g.size, fun a h1 h2 => ?_⟩, fun j hj => ?_⟩
    · refine (g.cell_far a (Nat.lt_of_lt_of_le h2 s.1) fun e => ?_).trans (s.2 a h1 h2)
      rcases o _ e.symm with c | c <;> omega
    · rcases m with e | ⟨i, e, hi⟩
      · exact o j (e ▸ hj)
      · rw [e] at hj; cases hj
        have := s.1
        exact .inr (by omega)
/-- A row that grows, and a box below it that is written. -/
theorem Gr.put {B n : Nat} {w : World} {v u : Value} {g : Nat → Int} {p i : Nat} (a : Gr B w v n g) (hp : p < B) : Gr B (w.setCell ⟨p, i, none⟩ u) v n g := by
  refine ⟨a.own.1, ?_⟩
  rcases a.own.2 with h | ⟨b, cap, cur, rfl, hb, hh, hr⟩
  · exact .inl h
  · refine .inr ⟨b, cap, cur, rfl, hb, ?_, hr⟩
    show (w.heap.modify p _)[b]? = _
    rw [Array.getElem?_modify, if_neg (by omega)]
    exact hh
end Go.Proofs.YtjfflnkocajkeaaDoor
