/-
  What is used of every walk over texts and rows of pairs (a text and a number): accounts and lines. No condition but those that each theorem names.
-/
import Derived.Test.YtiilljdeplihoaaSWalkB
namespace Go.Proofs.Ytiilljdeplihoaa
open Go.RowKit

/-- A digit. -/
def dgB (c : UInt8) : Bool := decide (48 ≤ c.toNat) && decide (c.toNat ≤ 57)
/-- Nothing but digits. -/
def digB (s : ByteArray) : Bool := s.data.toList.all dgB
/-- P28: a code. -/
def codeB (s : ByteArray) : Bool := decide (1 ≤ s.size) && decide (s.size ≤ 8) && digB s
theorem take_snoc (s : ByteArray) (k : Nat) (h : k < s.size) : s.data.toList.take (k + 1) = s.data.toList.take k ++ [s[k]] := by
  rw [List.take_succ_eq_append_getElem (by simpa using h)]; rfl
theorem take_all (s : ByteArray) : s.data.toList.take s.size = s.data.toList := List.take_of_length_le (by simp)
theorem mem_at (s : ByteArray) (k : Nat) (h : k < s.size) : s[k] ∈ s.data.toList := by
  have : s.data.toList[k]'(by simpa using h) ∈ s.data.toList := List.getElem_mem _
  exact this
theorem all_no {s : ByteArray} {p : UInt8 → Bool} {k : Nat} (h : k < s.size) (hp : p s[k] = false) : s.data.toList.all p = false := by
  rw [List.all_eq_false]; exact ⟨_, mem_at s k h, by simp [hp]⟩

/-- A pair: a text and a number. -/
abbrev Pr := ByteArray × Int
/-- A row of pairs that is read. -/
structure PRow (w : World) (p off : Nat) (l : List Pr) : Prop where
  lt : p < w.heap.size
  c0 : ∀ j (h : j < l.length), w.cell? ⟨p, off + j * 2, none⟩ = some (.string (l[j]).1)
  c1 : ∀ j (h : j < l.length), w.cell? ⟨p, off + j * 2 + 1, none⟩ = some (.int .i64 (l[j]).2)
theorem PRow.later {w w' : World} {p off : Nat} {l : List Pr} (h : PRow w p off l) (k : Kept w w') : PRow w' p off l :=
  ⟨Nat.lt_of_lt_of_le h.lt k.le, fun j hj => (k.rd.1 _ _ h.lt).trans (h.c0 j hj), fun j hj => (k.rd.1 _ _ h.lt).trans (h.c1 j hj)⟩
/-- A slice of pairs, nil included. -/
def PArg (w : World) (a : Option Addr) (l : List Pr) : Prop := l = [] ∨ ∃ p off, a = some ⟨p, off, none⟩ ∧ PRow w p off l
theorem PArg.later {w w' : World} {a : Option Addr} {l : List Pr} (h : PArg w a l) (k : Kept w w') : PArg w' a l := by
  rcases h with h | ⟨p, off, e, h⟩
  · exact .inl h
  · exact .inr ⟨p, off, e, h.later k⟩
theorem PArg.at {w : World} {a : Option Addr} {l : List Pr} (h : PArg w a l) {j : Nat} (hj : j < l.length) : ∃ p off, a = some ⟨p, off, none⟩ ∧ PRow w p off l := by
  rcases h with h | h
  · rw [h] at hj; simp at hj
  · exact h
/-- A row of texts. -/
structure TRow (w : World) (p off : Nat) (l : List ByteArray) : Prop where
  lt : p < w.heap.size
  c : ∀ j (h : j < l.length), w.cell? ⟨p, off + j, none⟩ = some (.string l[j])
theorem TRow.later {w w' : World} {p off : Nat} {l : List ByteArray} (h : TRow w p off l) (k : Kept w w') : TRow w' p off l :=
  ⟨Nat.lt_of_lt_of_le h.lt k.le, fun j hj => (k.rd.1 _ _ h.lt).trans (h.c j hj)⟩
def TArg (w : World) (a : Option Addr) (l : List ByteArray) : Prop := l = [] ∨ ∃ p off, a = some ⟨p, off, none⟩ ∧ TRow w p off l
theorem TArg.later {w w' : World} {a : Option Addr} {l : List ByteArray} (h : TArg w a l) (k : Kept w w') : TArg w' a l := by
  rcases h with h | ⟨p, off, e, h⟩
  · exact .inl h
  · exact .inr ⟨p, off, e, h.later k⟩
theorem TArg.at {w : World} {a : Option Addr} {l : List ByteArray} (h : TArg w a l) {j : Nat} (hj : j < l.length) : ∃ p off, a = some ⟨p, off, none⟩ ∧ TRow w p off l := by
  rcases h with h | h
  · rw [h] at hj; simp at hj
  · exact h

/-- A text before another, or the same. -/
def leB (a b : ByteArray) : Bool := Op.bytesLess a.toList b.toList || a.toList == b.toList
/-- P29, the accounts behind one. -/
def acL (b : ByteArray) : List Pr → Int
  | [] => 0
  | x :: r => if codeB x.1 = true then (if x.2 < 0 ∨ 4 < x.2 then 1 else if leB x.1 b = true then 3 else acL x.1 r) else 3
/-- P29: the error of a list of accounts. -/
def acE (l : List Pr) : Int := if 24 < l.length then 2 else acL ⟨#[]⟩ l
theorem drop_at {α : Type} (l : List α) (j : Nat) (h : j < l.length) : l.drop j = l[j] :: l.drop (j + 1) := List.drop_eq_getElem_cons h
end Go.Proofs.Ytiilljdeplihoaa
