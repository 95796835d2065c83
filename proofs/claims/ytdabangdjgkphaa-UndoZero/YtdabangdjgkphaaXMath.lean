/-
  Closings and reversals: the lines of a closing, the errors, the books. No condition but those that each theorem names.
-/
import Derived.Test.YtdabangdjgkphaaVMath
namespace Go.Proofs.Ytdabangdjgkphaa
set_option linter.unusedVariables false

/-- The line that takes what one account holds, if it is one of income or expense. -/
def clO (f : ByteArray → Int) (a : Pr) : List Pr := if 3 ≤ a.2 ∧ f a.1 ≠ 0 then [(a.1, -(f a.1))] else []
/-- .. of all accounts. -/
def clL (f : ByteArray → Int) : List Pr → List Pr
  | [] => []
  | a :: r => clO f a ++ clL f r
theorem clL_append (f : ByteArray → Int) : ∀ l m : List Pr, clL f (l ++ m) = clL f l ++ clL f m
  | [], m => rfl
  | a :: r, m => by rw [List.cons_append, clL, clL, clL_append f r m, List.append_assoc]
theorem clL_snoc {f : ByteArray → Int} {l : List Pr} {j : Nat} (h : j < l.length) : clL f (l.take (j + 1)) = clL f (l.take j) ++ clO f l[j] := by
  rw [List.take_succ_eq_append_getElem h, clL_append]; simp [clL]
theorem clO_len (f : ByteArray → Int) (a : Pr) : (clO f a).length ≤ 1 := by unfold clO; split <;> simp
theorem clL_len (f : ByteArray → Int) : ∀ l : List Pr, (clL f l).length ≤ l.length
  | [] => by simp [clL]
  | a :: r => by
    have := clL_len f r
    have := clO_len f a
    rw [clL, List.length_append, List.length_cons]; omega
theorem clL_mem {f : ByteArray → Int} {x : Pr} : ∀ {l : List Pr}, x ∈ clL f l ↔ ∃ a ∈ l, 3 ≤ a.2 ∧ f a.1 ≠ 0 ∧ x = (a.1, -(f a.1))
  | [] => by simp [clL]
  | a :: r => by
    rw [clL, List.mem_append, clL_mem (l := r)]
    constructor
    · rintro (h | ⟨b, hb, k⟩)
      · unfold clO at h
        split at h
        · rename_i hc
          rw [List.mem_singleton] at h
          exact ⟨a, by simp, hc.1, hc.2, h⟩
        · cases h
      · exact ⟨b, by simp [hb], k⟩
    · rintro ⟨b, hb, k1, k2, k3⟩
      rcases List.mem_cons.1 hb with rfl | hb
      · refine .inl ?_
        unfold clO
        rw [if_pos ⟨k1, k2⟩, k3]; simp
      · exact .inr ⟨b, hb, k1, k2, k3⟩
theorem clS_bd {f : ByteArray → Int} (h : ∀ c, -720000000000000 ≤ f c ∧ f c ≤ 720000000000000) : ∀ l : List Pr, -720000000000000 * (l.length : Int) ≤ sumL (clL f l) ∧ sumL (clL f l) ≤ 720000000000000 * (l.length : Int)
  | [] => by simp [clL, sumL]
  | a :: r => by
    have := clS_bd h r
    have := h a.1
    rw [clL, sumL_append, List.length_cons]
    unfold clO
    split
    · simp only [sumL]; omega
    · simp only [sumL]; omega
/-- All lines of a closing. -/
def clA (f : ByteArray → Int) (c : ByteArray) (l : List Pr) : List Pr := clL f l ++ (if sumL (clL f l) = 0 then [] else [(c, -(sumL (clL f l)))])
theorem clA_sum (f : ByteArray → Int) (c : ByteArray) (l : List Pr) : sumL (clA f c l) = 0 := by
  unfold clA
  rw [sumL_append]
  split
  · rename_i h; rw [h]; rfl
  · simp only [sumL]; omega
theorem clA_len (f : ByteArray → Int) (c : ByteArray) (l : List Pr) : (clA f c l).length ≤ l.length + 1 := by
  have := clL_len f l
  unfold clA
  rw [List.length_append]
  split <;> simp <;> omega
theorem clA_mem {f : ByteArray → Int} {c : ByteArray} {l : List Pr} {x : Pr} (h : x ∈ clA f c l) : (∃ a ∈ l, 3 ≤ a.2 ∧ f a.1 ≠ 0 ∧ x = (a.1, -(f a.1))) ∨ x = (c, -(sumL (clL f l))) := by
  unfold clA at h
  rcases List.mem_append.1 h with h | h
  · exact .inl (clL_mem.1 h)
  · split at h
    · cases h
    · exact .inr (List.mem_singleton.1 h)
theorem clA_nil {f : ByteArray → Int} {c : ByteArray} {l : List Pr} (h : clL f l = []) : clA f c l = [] := by
  unfold clA; rw [h]; rfl
theorem clA_not {f : ByteArray → Int} {c : ByteArray} {l : List Pr} (h : clL f l ≠ []) : clA f c l ≠ [] := by
  unfold clA; intro k; exact h (List.append_eq_nil_iff.1 k).1
theorem clA_short {f : ByteArray → Int} {c : ByteArray} {l : List Pr} (h : Shortish l) (hc : c.size ≤ maxLen) : Shortish (clA f c l) := fun x hx => by
  rcases clA_mem hx with ⟨a, ha, _, _, rfl⟩ | rfl
  · exact h a ha
  · exact hc

/-! P42. -/
/-- The error of what is asked before the lines. -/
def ccE (b : Bk) (d : Int) (c : ByteArray) : Int :=
  if bkE b = 0 then (if dyB d = true then (if hasB c b.acs = true then (if kiV b.acs c = 2 then 0 else 3) else 4) else 1) else bkE b
theorem ccE_ok {b : Bk} {d : Int} {c : ByteArray} (h : ccE b d c = 0) : Good b ∧ dyB d = true ∧ hasB c b.acs = true ∧ kiV b.acs c = 2 := by
  unfold ccE at h
  by_cases h1 : bkE b = 0
  · rw [if_pos h1] at h
    by_cases h2 : dyB d = true
    · rw [if_pos h2] at h
      by_cases h3 : hasB c b.acs = true
      · rw [if_pos h3] at h
        by_cases h4 : kiV b.acs c = 2
        · exact ⟨bkE_iff.1 h1, h2, h3, h4⟩
        · rw [if_neg h4] at h; omega
      · rw [if_neg h3] at h; omega
    · rw [if_neg h2] at h; omega
  · rw [if_neg h1] at h; exact absurd h h1
/-- What accounts hold at a day. -/
def baF (b : Bk) (d : Int) (c : ByteArray) : Int := balS c d b.ens
/-- The closing entry. -/
def clX (b : Bk) (k : ByteArray) (d : Int) (c : ByteArray) : Et := ⟨k, d, clA (baF b d) c b.acs⟩
/-- P42: the error, and the book. -/
def clE (b : Bk) (k : ByteArray) (d : Int) (c : ByteArray) : Int :=
  if ccE b d c = 0 then (if clL (baF b d) b.acs = [] then 4 else if poE b (clX b k d c) = 0 then shE (poV b (clX b k d c)) d else poE b (clX b k d c)) else ccE b d c
def clV (b : Bk) (k : ByteArray) (d : Int) (c : ByteArray) : Bk := ⟨(poV b (clX b k d c)).acs, (poV b (clX b k d c)).ens, d⟩
theorem clE_ok {b : Bk} {k : ByteArray} {d : Int} {c : ByteArray} (h : clE b k d c = 0) :
    ccE b d c = 0 ∧ clL (baF b d) b.acs ≠ [] ∧ poE b (clX b k d c) = 0 ∧ shE (poV b (clX b k d c)) d = 0 := by
  unfold clE at h
  by_cases h1 : ccE b d c = 0
  · rw [if_pos h1] at h
    by_cases h2 : clL (baF b d) b.acs = []
    · rw [if_pos h2] at h; omega
    · rw [if_neg h2] at h
      by_cases h3 : poE b (clX b k d c) = 0
      · rw [if_pos h3] at h; exact ⟨h1, h2, h3, h⟩
      · rw [if_neg h3] at h; exact absurd h h3
  · rw [if_neg h1] at h; exact absurd h h1

/-! P43. -/
def noEt : Et := ⟨⟨#[]⟩, 0, []⟩
/-- The entry with a key. -/
def atK (k : ByteArray) (l : List Et) : Et := l.getD (kyI k l) noEt
theorem atK_eq {k : ByteArray} {l : List Et} (h : kyI k l < l.length) : atK k l = l[kyI k l] := by
  unfold atK; rw [List.getD_eq_getElem?_getD, List.getElem?_eq_getElem h]; rfl
/-- The entry that is posted when one is turned. -/
def unX (b : Bk) (k y : ByteArray) (d : Int) : Et := ⟨y, d, negL (atK k b.ens).lns⟩
/-- P43: the error. The book is 'poV b (unX b k y d)'. -/
def unE (b : Bk) (k y : ByteArray) (d : Int) : Int :=
  if gtE b k = 0 then (if hdE y d = 0 then poE b (unX b k y d) else hdE y d) else gtE b k
theorem gtE_ok {b : Bk} {k : ByteArray} (h : gtE b k = 0) : Good b ∧ kyI k b.ens < b.ens.length := by
  unfold gtE at h
  by_cases h1 : bkE b = 0
  · rw [if_pos h1] at h
    by_cases h2 : kyI k b.ens < b.ens.length
    · exact ⟨bkE_iff.1 h1, h2⟩
    · rw [if_neg h2] at h; omega
  · rw [if_neg h1] at h; exact absurd h h1
theorem unE_ok {b : Bk} {k y : ByteArray} {d : Int} (h : unE b k y d = 0) : gtE b k = 0 ∧ hdE y d = 0 ∧ poE b (unX b k y d) = 0 := by
  unfold unE at h
  by_cases h1 : gtE b k = 0
  · rw [if_pos h1] at h
    by_cases h2 : hdE y d = 0
    · rw [if_pos h2] at h; exact ⟨h1, h2, h⟩
    · rw [if_neg h2] at h; exact absurd h h2
  · rw [if_neg h1] at h; exact absurd h h1
end Go.Proofs.Ytdabangdjgkphaa
