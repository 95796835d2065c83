/-
  What Add and Mul return of fractions whose sum or product may be: by Lean's own rational numbers. No condition but those that each theorem names.
-/
import Derived.Test.YtkbbofpjelgiiaaFWalkD
import Derived.Test.YtkbbofpjelgiiaaFMathD
namespace Go.Proofs.Ytkbbofpjelgiiaa
open Go.RowKit

theorem addq (a b c d : Int) (r s t : Rat) (w : World) (h : okB a b = true) (h' : okB c d = true) (e1 : q a b = r) (e2 : q c d = s) (e : t = r + s) (o : OkR t) :
    Calls Try.prog 13 #[fr2 a b, fr2 c d] w fun e w' => e = .returned (.tuple #[fr2 (rn t) (rd t), .int .i64 0]) ∧ Kept w w' := by
  obtain ⟨s1, s2⟩ := sum_r e1 e2 e
  have z := add_yes a b c d w h h'
  unfold OkR at o
  unfold bN bD bE at z
  rw [s1, s2, if_pos o, if_pos o, if_pos o] at z
  exact z
theorem mulq (a b c d : Int) (r s t : Rat) (w : World) (h : okB a b = true) (h' : okB c d = true) (e1 : q a b = r) (e2 : q c d = s) (e : t = r * s) (o : OkR t) :
    Calls Try.prog 14 #[fr2 a b, fr2 c d] w fun e w' => e = .returned (.tuple #[fr2 (rn t) (rd t), .int .i64 0]) ∧ Kept w w' := by
  obtain ⟨s1, s2⟩ := prod_r e1 e2 e
  have z := mul_yes a b c d w h h'
  unfold OkR at o
  unfold bN bD bE at z
  rw [s1, s2, if_pos o, if_pos o, if_pos o] at z
  exact z
theorem normq (a b : Int) (r : Rat) (w : World) (h : okB a b = true) (e1 : q a b = r) :
    Calls Try.prog 12 #[fr2 a b] w fun e w' => e = .returned (.tuple #[fr2 (rn r) (rd r), .int .i64 0]) ∧ Kept w w' := by
  subst e1
  exact norm_yes a b w h
/-- The errors in a list: none. -/
theorem zeros (l : List Value) (h : ∀ v ∈ l, v = .int .i64 0) (w : World) (t : TypeId) (j : Nat) (hj : j < l.length) : (w.alloc (.cells l.toArray t)).cell? ⟨w.heap.size, j, none⟩ = some (.int .i64 0) := by
  have e : l[j]? = some (.int .i64 0) := by
    rw [List.getElem?_eq_getElem hj, h _ (List.getElem_mem hj)]
  simp [e]

end Go.Proofs.Ytkbbofpjelgiiaa
