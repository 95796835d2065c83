/-
  What package stock's Fifo returns. No condition but those that each theorem names.
-/
import Derived.Test.YtdgiljndoeldcaaPWalkB
namespace Go.Proofs.Ytdgiljndoeldcaa
open Go.RowKit
set_option linter.unusedVariables false

theorem JBx.cells {w : World} {p : Nat} {x : Mv} (h : JBx w p x) : ∀ j u, (eP.cells x)[j]? = some u → w.cell? ⟨p, j, none⟩ = some u := by
  intro j u hj
  match j, hj with
  | 0, hj => simp [eP] at hj; subst hj; exact h.c0
  | 1, hj => simp [eP] at hj; subst hj; exact h.c1
  | k + 2, hj => simp [eP] at hj
theorem one_cells {w : World} {p : Nat} {x : Int} (hp : w.heap.size = p) (t : TypeId) : ∀ j u, (eI.cells x)[j]? = some u → (w.alloc (.cells #[.int .i64 x] t)).cell? ⟨p, j, none⟩ = some u := by
  subst hp
  intro j u hj
  match j, hj with
  | 0, hj => simp [eI] at hj; subst hj; simp
  | k + 1, hj => simp [eI] at hj
theorem isInt : IsE eI 3 (.int .i64 0) 8 := by unfold IsE; kernel_rfl
/-- Fifo's answer where there is no error: two rows of its own, apart. -/
def FifoPost (w : World) (s : List Int × List Mv) (e : Ending) (w' : World) : Prop :=
  ∃ u v, e = .returned (.tuple #[u, v, .int .i64 0]) ∧ QRow eI w.heap.size w' u s.1 ∧ QRow eP w.heap.size w' v s.2 ∧ ApartQ u v ∧ Kept w w'
end Go.Proofs.Ytdgiljndoeldcaa
