/-
  The order of texts by their bytes, and lists of accounts in that order. No condition but those that each theorem names.
-/
import Derived.Test.YtdgiljndoeldcaaAWalkB
import Derived.Lib.Strings
namespace Go.Proofs.Ytdgiljndoeldcaa
open Go.RowKit
set_option linter.unusedVariables false

theorem bl_irrefl : ∀ x : List UInt8, Op.bytesLess x x = false
  | [] => rfl
  | a :: x => by rw [Op.bytesLess, bl_irrefl x]; simp
theorem bl_trans : ∀ x y z : List UInt8, Op.bytesLess x y = true → Op.bytesLess y z = true → Op.bytesLess x z = true
  | _, _, [], _, h => by simp [Op.bytesLess] at h
  | _, [], _ :: _, h, _ => by simp [Op.bytesLess] at h
  | [], _ :: _, _ :: _, _, _ => rfl
  | a :: x, b :: y, c :: z, h, k => by
    rw [Op.bytesLess] at *
    simp only [Bool.or_eq_true, Bool.and_eq_true, decide_eq_true_eq, beq_iff_eq] at *
    rcases h with h | ⟨rfl, h⟩ <;> rcases k with k | ⟨rfl, k⟩
    · exact .inl (UInt8.lt_trans h k)
    · exact .inl h
    · exact .inl k
    · exact .inr ⟨rfl, bl_trans x y z h k⟩
theorem bl_asymm {x y : List UInt8} (h : Op.bytesLess x y = true) : Op.bytesLess y x = false := by
  cases e : Op.bytesLess y x
  · rfl
  · have := bl_trans x y x h e
    rw [bl_irrefl] at this; cases this
theorem bl_total : ∀ x y : List UInt8, (Op.bytesLess x y || x == y) = false → Op.bytesLess y x = true
  | [], [], h => by simp [Op.bytesLess] at h
  | [], _ :: _, h => by simp [Op.bytesLess] at h
  | _ :: _, [], h => rfl
  | a :: x, b :: y, h => by
    rw [Op.bytesLess] at *
    simp only [Bool.or_eq_false_iff, Bool.and_eq_false_iff, decide_eq_false_iff_not, beq_eq_false_iff_ne, Bool.or_eq_true, Bool.and_eq_true, decide_eq_true_eq, beq_iff_eq] at *
    obtain ⟨⟨h1, h2⟩, h3⟩ := h
    by_cases e : a = b
    · subst e
      refine .inr ⟨rfl, bl_total x y ?_⟩
      simp only [Bool.or_eq_false_iff, beq_eq_false_iff_ne]
      refine ⟨?_, fun q => h3 (by rw [q])⟩
      rcases h2 with h2 | h2
      · exact absurd rfl h2
      · exact h2
    · rcases UInt8.lt_or_lt_of_ne e with q | q
      · exact absurd q h1
      · exact .inl q
/-- One text strictly before another. -/
def ltB (a b : ByteArray) : Bool := Op.bytesLess a.toList b.toList
/-- All texts in order. -/
def Inc : List ByteArray → Prop
  | [] => True
  | x :: r => (∀ y ∈ r, ltB x y = true) ∧ Inc r
theorem ba_ext {a b : ByteArray} (h : a.toList = b.toList) : a = b := by
  rw [Lib.toList_data, Lib.toList_data] at h
  cases a; cases b
  simp at h
  rw [h]
theorem acL_inc : ∀ (l : List Pr) (b : ByteArray), acL b l = 0 → Inc (l.map Prod.fst) ∧ (∀ x ∈ l, codeB x.1 = true ∧ 0 ≤ x.2 ∧ x.2 ≤ 4) ∧ ∀ x ∈ l, ltB b x.1 = true
  | [], _, _ => ⟨trivial, by simp, by simp⟩
  | x :: r, b, h => by
    cases c1 : codeB x.1
    · rw [acL_form c1] at h; cases h
    · by_cases c2 : x.2 < 0 ∨ 4 < x.2
      · rw [acL_kind c1 c2] at h; cases h
      · cases c3 : leB x.1 b
        · rw [acL_next c1 c2 c3] at h
          obtain ⟨i1, i2, i3⟩ := acL_inc r x.1 h
          have hb : ltB b x.1 = true := bl_total _ _ c3
          refine ⟨⟨fun y hy => ?_, i1⟩, fun y hy => ?_, fun y hy => ?_⟩
          · obtain ⟨z, hz, rfl⟩ := List.mem_map.1 hy
            exact i3 z hz
          · rcases List.mem_cons.1 hy with rfl | hy
            · exact ⟨c1, by omega, by omega⟩
            · exact i2 y hy
          · rcases List.mem_cons.1 hy with rfl | hy
            · exact hb
            · exact bl_trans _ _ _ hb (i3 y hy)
        · rw [acL_le c1 c2 c3] at h; cases h
theorem acE_inc {l : List Pr} (h : acE l = 0) : Inc (l.map Prod.fst) ∧ (∀ x ∈ l, codeB x.1 = true ∧ 0 ≤ x.2 ∧ x.2 ≤ 4) := by
  have h24 := acE_24 h
  have : acL ⟨#[]⟩ l = 0 := by unfold acE at h; rw [if_neg (by omega)] at h; exact h
  exact ⟨(acL_inc l _ this).1, (acL_inc l _ this).2.1⟩
theorem Inc.filter {P : Pr → Bool} : ∀ {l : List Pr}, Inc (l.map Prod.fst) → Inc ((l.filter P).map Prod.fst)
  | [], _ => trivial
  | x :: r, h => by
    rw [List.filter_cons]
    have ih := Inc.filter (P := P) (l := r) h.2
    split
    · refine ⟨fun y hy => h.1 y ?_, ih⟩
      obtain ⟨z, hz, rfl⟩ := List.mem_map.1 hy
      exact List.mem_map_of_mem (List.mem_filter.1 hz).1
    · exact ih
theorem Inc.at : ∀ {l : List ByteArray}, Inc l → ∀ i j (hi : i < l.length) (hj : j < l.length), i < j → ltB l[i] l[j] = true
  | x :: r, h, 0, j + 1, _, hj, _ => h.1 _ (List.getElem_mem _)
  | x :: r, h, i + 1, j + 1, hi, hj, lt => Inc.at h.2 i j (by simpa using hi) (by simpa using hj) (by omega)
theorem und_inc {c : ByteArray} {l : List Pr} (h : acE l = 0) : Inc (undL c l) := (acE_inc h).1.filter
/-- How often a text is there. -/
def memB (c : ByteArray) (l : List ByteArray) : Bool := l.any fun s => c.toList == s.toList
theorem mem_und {c s : ByteArray} {l : List Pr} : s ∈ undL c l ↔ preB c s = true ∧ ∃ x ∈ l, x.1 = s := by
  unfold undL
  rw [List.mem_map]
  constructor
  · rintro ⟨x, hx, rfl⟩
    obtain ⟨a, b⟩ := List.mem_filter.1 hx
    exact ⟨b, x, a, rfl⟩
  · rintro ⟨h, x, hx, rfl⟩
    exact ⟨x, List.mem_filter.2 ⟨hx, h⟩, rfl⟩
theorem memB_iff {c : ByteArray} {l : List ByteArray} : memB c l = true ↔ c ∈ l := by
  unfold memB
  rw [List.any_eq_true]
  constructor
  · rintro ⟨s, hs, e⟩
    rw [ba_ext (beq_iff_eq.1 e)]; exact hs
  · intro h
    exact ⟨c, h, by simp⟩
end Go.Proofs.Ytdgiljndoeldcaa
