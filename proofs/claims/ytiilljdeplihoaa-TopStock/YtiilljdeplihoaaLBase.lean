/-
  A slice that came in; a box that a closure has captured; sums. No condition but those that each theorem names.
-/
import Derived.Test.YtiilljdeplihoaaUWalkA
namespace Go.Proofs.Ytiilljdeplihoaa
open Go.RowKit

/-- A slice that came in: none, or a row. -/
def Arg (w : World) (a : Option Addr) (n : Nat) (wt : Nat → Int) : Prop := n = 0 ∨ ∃ p off, a = some ⟨p, off, none⟩ ∧ Rd w p off (tab n wt)
theorem Arg.at {w : World} {a : Option Addr} {n : Nat} {wt : Nat → Int} (h : Arg w a n wt) (hn : 0 < n) : ∃ p off, a = some ⟨p, off, none⟩ ∧ Rd w p off (tab n wt) := by
  rcases h with h | h
  · omega
  · exact h
theorem Arg.later {w w' : World} {a : Option Addr} {n : Nat} {wt : Nat → Int} (h : Arg w a n wt) (k : Kept w w') : Arg w' a n wt := by
  rcases h with h | ⟨p, off, e, hR⟩
  · exact .inl h
  · exact .inr ⟨p, off, e, hR.later k⟩
theorem Arg.of {w : World} {p off n : Nat} {wt : Nat → Int} (h : Rd w p off (tab n wt)) : Arg w (some ⟨p, off, none⟩) n wt := .inr ⟨p, off, rfl, h⟩
/-- A box. -/
structure SlBox (w : World) (bx : Nat) (v : Value) : Prop where
  lt : bx < w.heap.size
  cell : w.cell? ⟨bx, 0, none⟩ = some v
theorem SlBox.new {w : World} {p : Nat} {v : Value} {t : TypeId} (hp : w.heap.size = p) : SlBox (w.alloc (.cells #[v] t)) p v := by
  subst hp; exact ⟨by simp, by simp⟩
theorem SlBox.later {w w' : World} {p : Nat} {v : Value} (h : SlBox w p v) (k : Kept w w') : SlBox w' p v := ⟨Nat.lt_of_lt_of_le h.lt k.le, (k.rd.1 _ _ h.lt).trans h.cell⟩
theorem SlBox.drew {w : World} {bx : Nat} {v : Value} (h : SlBox w bx v) : SlBox w.drew bx v := ⟨h.lt, h.cell⟩
theorem sum_nonneg (wt : Nat → Int) (n : Nat) (h : ∀ i, i < n → 0 ≤ wt i) : 0 ≤ sumTo wt n := by
  induction n with
  | zero => simp [sumTo]
  | succ n ih => have a := ih (fun i hi => h i (by omega)); have b := h n (by omega); rw [sumTo]; omega
theorem sum_le (wt : Nat → Int) (n : Nat) (M : Int) (h : ∀ i, i < n → wt i ≤ M) : sumTo wt n ≤ M * n := by
  induction n with
  | zero => simp [sumTo]
  | succ n ih =>
    have a := ih (fun i hi => h i (by omega)); have b := h n (by omega)
    rw [sumTo, show ((n + 1 : Nat) : Int) = (n : Int) + 1 by omega, Int.mul_add]; omega

end Go.Proofs.Ytiilljdeplihoaa
