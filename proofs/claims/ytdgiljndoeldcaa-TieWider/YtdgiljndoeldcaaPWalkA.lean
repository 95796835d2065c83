/-
  What package stock's check returns. No condition but those that each theorem names.
-/
import Derived.Test.YtdgiljndoeldcaaPMath
namespace Go.Proofs.Ytdgiljndoeldcaa
open Go.RowKit
set_option linter.unusedVariables false

/-- A struct of two numbers in a box of its own. -/
structure JBx (w : World) (p : Nat) (x : Mv) : Prop where
  lt : p < w.heap.size
  c0 : w.cell? ⟨p, 0, none⟩ = some (.int .i64 x.1)
  c1 : w.cell? ⟨p, 1, none⟩ = some (.int .i64 x.2)
theorem JBx.later {w w' : World} {p : Nat} {x : Mv} (h : JBx w p x) (k : Kept w w') : JBx w' p x :=
  ⟨Nat.lt_of_lt_of_le h.lt k.le, (k.rd.1 _ _ h.lt).trans h.c0, (k.rd.1 _ _ h.lt).trans h.c1⟩
theorem JBx.new {w : World} {p : Nat} (hp : w.heap.size = p) (x : Mv) (t : TypeId) : JBx (w.alloc (.cells #[.int .i64 x.1, .int .i64 x.2] t)) p x := by
  subst hp; exact ⟨by simp, by simp, by simp⟩
theorem skE_large {l : List Mv} (h : 40 < l.length) : skE l = 2 := by unfold skE; rw [if_pos h]
theorem cnt_small : ∀ {l : List Mv}, ckL l = 0 → ∀ j, j ≤ l.length → -1000000 * (j : Int) ≤ cnt (l.take j) ∧ cnt (l.take j) ≤ 1000000 * (j : Int) := by
  intro l h j hj
  have := MvOk.cnt (l := l.take j) (fun m hm => ckL_ok h m (List.mem_of_mem_take hm))
  rw [List.length_take, Nat.min_eq_left hj] at this
  omega
end Go.Proofs.Ytdgiljndoeldcaa
