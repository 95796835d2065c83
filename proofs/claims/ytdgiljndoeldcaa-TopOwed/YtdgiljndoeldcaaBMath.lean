/-
  When an entry is right: every line right, no code twice; lines in another order, a line changed. No condition but those that each theorem names.
-/
import Derived.Test.YtdgiljndoeldcaaBWalkC
namespace Go.Proofs.Ytdgiljndoeldcaa
open Go.RowKit
set_option linter.unusedVariables false

/-- A line that is right by itself. -/
def okLn (x : Pr) : Prop := codeB x.1 = true ∧ -1000000000000 ≤ x.2 ∧ x.2 ≤ 1000000000000 ∧ x.2 ≠ 0
theorem hasB_iff {s : ByteArray} {l : List Pr} : hasB s l = true ↔ ∃ y ∈ l, y.1 = s := by
  unfold hasB
  rw [List.any_eq_true]
  constructor
  · rintro ⟨y, hy, e⟩
    exact ⟨y, hy, ba_ext (beq_iff_eq.1 e)⟩
  · rintro ⟨y, hy, rfl⟩
    exact ⟨y, hy, by simp⟩
theorem lnE_iff {x : Pr} {l : List Pr} : lnE x l = 0 ↔ okLn x ∧ ∀ y ∈ l, y.1 ≠ x.1 := by
  constructor
  · intro h
    obtain ⟨a, b, c, d, e⟩ := lnE_ok h
    refine ⟨⟨a, b, c, d⟩, fun y hy q => ?_⟩
    have := hasB_iff.2 ⟨y, hy, q⟩
    rw [this] at e; cases e
  · rintro ⟨⟨a, b, c, d⟩, e⟩
    unfold lnE
    rw [if_pos a, if_neg (by omega), if_neg]
    intro h
    obtain ⟨y, hy, q⟩ := hasB_iff.1 h
    exact e y hy q
/-- No code twice. -/
def Dist : List Pr → Prop
  | [] => True
  | x :: r => (∀ y ∈ r, y.1 ≠ x.1) ∧ Dist r
theorem lnsE_iff : ∀ (l done : List Pr), lnsE done l = 0 ↔ (∀ x ∈ l, okLn x ∧ ∀ y ∈ done, y.1 ≠ x.1) ∧ Dist l
  | [], _ => by simp [lnsE, Dist]
  | x :: r, done => by
    rw [lnsE]
    constructor
    · intro h
      split at h
      · rename_i c
        obtain ⟨h1, h2⟩ := (lnsE_iff r (done ++ [x])).1 h
        obtain ⟨o, e⟩ := lnE_iff.1 c
        refine ⟨fun y hy => ?_, fun y hy q => (h1 y hy).2 x (by simp) q.symm, h2⟩
        rcases List.mem_cons.1 hy with rfl | hy
        · exact ⟨o, e⟩
        · exact ⟨(h1 y hy).1, fun z hz => (h1 y hy).2 z (by simp [hz])⟩
      · rename_i c; exact absurd h c
    · rintro ⟨h1, h2, h3⟩
      rw [if_pos (lnE_iff.2 (h1 x List.mem_cons_self))]
      refine (lnsE_iff r (done ++ [x])).2 ⟨fun y hy => ⟨(h1 y (List.mem_cons_of_mem _ hy)).1, fun z hz => ?_⟩, h3⟩
      rcases List.mem_append.1 hz with hz | hz
      · exact (h1 y (List.mem_cons_of_mem _ hy)).2 z hz
      · obtain rfl : z = x := by simpa using hz
        exact fun q => h2 y hy q.symm
theorem Dist_iff : ∀ l : List Pr, Dist l ↔ (l.map Prod.fst).Nodup
  | [] => by simp [Dist]
  | x :: r => by
    rw [Dist, List.map_cons, List.nodup_cons, Dist_iff r]
    constructor
    · rintro ⟨a, b⟩
      refine ⟨fun h => ?_, b⟩
      obtain ⟨y, hy, e⟩ := List.mem_map.1 h
      exact a y hy e
    · rintro ⟨a, b⟩
      exact ⟨fun y hy e => a (List.mem_map.2 ⟨y, hy, e⟩), b⟩
theorem enE_iff {k : ByteArray} {d : Int} {l : List Pr} : enE k d l = 0 ↔ hdE k d = 0 ∧ 2 ≤ l.length ∧ l.length ≤ 12 ∧ (∀ x ∈ l, okLn x) ∧ (l.map Prod.fst).Nodup ∧ sumL l = 0 := by
  constructor
  · intro h
    obtain ⟨a, b, c, e, f⟩ := enE_ok h
    obtain ⟨g1, g2⟩ := (lnsE_iff l []).1 e
    exact ⟨a, b, c, fun x hx => (g1 x hx).1, (Dist_iff l).1 g2, f⟩
  · rintro ⟨a, b, c, e, f, g⟩
    unfold enE
    rw [if_pos a, if_neg (by omega)]
    exact tlE_ok ((lnsE_iff l []).2 ⟨fun x hx => ⟨e x hx, by simp⟩, (Dist_iff l).2 f⟩) (by omega) g
/-- The lines turned round. -/
def rotL (l : List Pr) (t : Nat) : List Pr := l.drop t ++ l.take t
theorem rotL_perm (l : List Pr) (t : Nat) : (rotL l t).Perm l := by
  unfold rotL
  have h := List.perm_append_comm (l₁ := l.drop t) (l₂ := l.take t)
  rw [List.take_append_drop] at h
  exact h
theorem enE_rot {k : ByteArray} {d : Int} {l : List Pr} (t : Nat) (h : enE k d l = 0) : enE k d (rotL l t) = 0 := by
  obtain ⟨a, b, c, e, f, g⟩ := enE_iff.1 h
  have p := rotL_perm l t
  refine enE_iff.2 ⟨a, by rw [p.length_eq]; exact b, by rw [p.length_eq]; exact c, fun x hx => e x (p.mem_iff.1 hx), (p.map Prod.fst).nodup_iff.2 f, ?_⟩
  have e1 : sumL (rotL l t) = sumL (l.drop t) + sumL (l.take t) := sumL_append _ _
  have e2 : sumL l = sumL (l.take t) + sumL (l.drop t) := by rw [← sumL_append, List.take_append_drop]
  omega
theorem short_rot {l : List Pr} (t : Nat) (h : Shortish l) : Shortish (rotL l t) := fun x hx => h x ((rotL_perm l t).mem_iff.1 hx)
/-- One amount changed. -/
def setA (l : List Pr) (i : Nat) (z : Int) : List Pr := l.set i ((l.getD i noP).1, z)
theorem sumL_set : ∀ (l : List Pr) (i : Nat) (h : i < l.length) (x : Pr), sumL (l.set i x) = sumL l - (l[i]).2 + x.2
  | y :: r, 0, _, x => by simp [sumL]; omega
  | y :: r, i + 1, h, x => by
    rw [List.set_cons_succ, sumL, sumL, sumL_set r i (by simpa using h) x, List.getElem_cons_succ]; omega
theorem setA_eq {l : List Pr} {i : Nat} (h : i < l.length) (z : Int) : setA l i z = l.set i ((l[i]).1, z) := by
  unfold setA; rw [List.getD_eq_getElem?_getD, List.getElem?_eq_getElem h]; rfl
theorem setA_fst {l : List Pr} {i : Nat} (h : i < l.length) (z : Int) : (setA l i z).map Prod.fst = l.map Prod.fst := by
  rw [setA_eq h, List.map_set]
  apply List.ext_getElem
  · simp
  · intro j h1 h2
    by_cases e : i = j
    · subst e; simp
    · simp [List.getElem_set_ne e]
theorem short_setA {l : List Pr} {i : Nat} (h : i < l.length) (z : Int) (hs : Shortish l) : Shortish (setA l i z) := by
  intro x hx
  have : x.1 ∈ (setA l i z).map Prod.fst := List.mem_map_of_mem hx
  rw [setA_fst h] at this
  obtain ⟨y, hy, e⟩ := List.mem_map.1 this
  rw [← e]; exact hs y hy
theorem setA_len (l : List Pr) (i : Nat) (z : Int) : (setA l i z).length = l.length := by unfold setA; simp
theorem enE_set {k : ByteArray} {d : Int} {l : List Pr} {i : Nat} {z : Int} (hi : i < l.length) (h : enE k d l = 0) (z1 : -1000000000000 ≤ z) (z2 : z ≤ 1000000000000) (z0 : z ≠ 0) (hz : z ≠ (l[i]).2) : enE k d (setA l i z) = 7 := by
  obtain ⟨a, b, c, e, f, g⟩ := enE_iff.1 h
  have ok : ∀ x ∈ setA l i z, okLn x := by
    intro x hx
    rw [setA_eq hi] at hx
    rcases List.mem_or_eq_of_mem_set hx with hx | rfl
    · exact e x hx
    · exact ⟨(e l[i] (List.getElem_mem _)).1, z1, z2, z0⟩
  have s : sumL (setA l i z) ≠ 0 := by rw [setA_eq hi, sumL_set l i hi]; show sumL l - (l[i]).2 + z ≠ 0; omega
  unfold enE
  rw [if_pos a, setA_len, if_neg (by omega)]
  exact tlE_sum ((lnsE_iff _ []).2 ⟨fun x hx => ⟨ok x hx, by simp⟩, (Dist_iff _).2 (by rw [setA_fst hi]; exact f)⟩) (.inr s)
theorem half_form (a : Int) : (0 ≤ a ∧ -(a.tdiv 2) = -(a / 2)) ∨ (a < 0 ∧ -(a.tdiv 2) = (-a) / 2) := by
  by_cases h : 0 ≤ a
  · exact .inl ⟨h, by rw [Int.tdiv_eq_ediv_of_nonneg h]⟩
  · exact .inr ⟨by omega, by rw [← Int.neg_tdiv]; exact Int.tdiv_eq_ediv_of_nonneg (by omega)⟩
theorem half_ne {a : Int} (h : a ≠ 0) : -(a.tdiv 2) ≠ a := by
  rcases half_form a with ⟨h1, h2⟩ | ⟨h1, h2⟩ <;> rw [h2] <;> omega
theorem half_bd {a : Int} (h1 : -1000000000000 ≤ a) (h2 : a ≤ 1000000000000) : -1000000000000 ≤ -(a.tdiv 2) ∧ -(a.tdiv 2) ≤ 1000000000000 := by
  rcases half_form a with ⟨h3, h4⟩ | ⟨h3, h4⟩ <;> rw [h4] <;> omega
end Go.Proofs.Ytdgiljndoeldcaa
