/-
  The greatest and the least of a row, as functions of it; the first ones of a row. No condition but those that each theorem names.
-/
import Derived.Test.YtklbikifcebckaaLWalkA
namespace Go.Proofs.Ytklbikifcebckaa
open Go.RowKit

theorem Rd.take {w : World} {p off n : Nat} {g : Nat → Int} (h : Rd w p off (tab n g)) (k : Nat) (hk : k ≤ n) : Rd w p off (tab k g) :=
  ⟨h.lt, fun j hj => by
    rw [tab_len] at hj
    have := h.cell j (by rw [tab_len]; omega)
    rw [tab_get] at this ⊢; exact this⟩
def mxV (g : Nat → Int) : Nat → Int
  | 0 => g 0
  | k + 1 => if mxV g k < g k then g k else mxV g k
def mnV (g : Nat → Int) : Nat → Int
  | 0 => g 0
  | k + 1 => if g k < mnV g k then g k else mnV g k
theorem mxV_one (g : Nat → Int) (n : Nat) (n1 : 1 ≤ n) : ∃ j, j < n ∧ mxV g n = g j := by
  induction n with
  | zero => omega
  | succ n ih =>
    rw [mxV]
    by_cases c : n = 0
    · subst c; exact ⟨0, by omega, by rw [mxV]; split <;> rfl⟩
    · obtain ⟨j, hj, e⟩ := ih (by omega)
      split
      · exact ⟨n, by omega, rfl⟩
      · exact ⟨j, by omega, e⟩
theorem mnV_one (g : Nat → Int) (n : Nat) (n1 : 1 ≤ n) : ∃ j, j < n ∧ mnV g n = g j := by
  induction n with
  | zero => omega
  | succ n ih =>
    rw [mnV]
    by_cases c : n = 0
    · subst c; exact ⟨0, by omega, by rw [mnV]; split <;> rfl⟩
    · obtain ⟨j, hj, e⟩ := ih (by omega)
      split
      · exact ⟨n, by omega, rfl⟩
      · exact ⟨j, by omega, e⟩
end Go.Proofs.Ytklbikifcebckaa
