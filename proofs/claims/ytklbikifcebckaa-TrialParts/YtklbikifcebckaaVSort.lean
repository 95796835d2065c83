/-
  What slices.Sort does to three integers in new memory: they come in order, and nothing that was there before that memory has turned. No condition.
-/
import Derived.Test.YtklbikifcebckaaSort
import Derived.Test.YtklbikifcebckaaVWalkD
namespace Go.Proofs.Ytklbikifcebckaa
open Go.RowKit Go.Sort

/-- Three in order, out of three. -/
def In3 (x a b c : Int) : Prop := x = a ∨ x = b ∨ x = c
theorem sorted3 (a b c : Int) : ∃ x y z, ([a, b, c].mergeSort fun x y => decide (x ≤ y)) = [x, y, z] ∧ x ≤ y ∧ y ≤ z ∧ In3 x a b c ∧ In3 z a b c := by
  have hl : ([a, b, c].mergeSort fun x y => decide (x ≤ y)).length = 3 := by simp
  have hp := List.mergeSort_perm [a, b, c] (fun x y => decide (x ≤ y))
  have hs := List.pairwise_mergeSort (le := fun (x y : Int) => decide (x ≤ y)) (by intro a b c h k; simp at *; omega) (by intro a b; simp; omega) [a, b, c]
  generalize ([a, b, c].mergeSort fun x y => decide (x ≤ y)) = l at *
  match l, hl with
  | [x, y, z], _ =>
    refine ⟨x, y, z, rfl, ?_, ?_, ?_, ?_⟩
    · simp at hs; omega
    · simp at hs; omega
    · have := hp.subset (show x ∈ [x, y, z] by simp)
      simpa [In3] using this
    · have := hp.subset (show z ∈ [x, y, z] by simp)
      simpa [In3] using this

/-- What is so behind the sort of three. -/
def Sort3 (a b c : Int) (w : World) (e : Ending) (w' : World) : Prop :=
  ∃ x y z : Int, x ≤ y ∧ y ≤ z ∧ In3 x a b c ∧ In3 z a b c ∧ e = .returned (.tuple #[]) ∧ Kept w w' ∧ w.heap.size < w'.heap.size ∧
    w'.cell? ⟨w.heap.size, 0, none⟩ = some (.int .i64 x) ∧ w'.cell? ⟨w.heap.size, 1, none⟩ = some (.int .i64 y) ∧ w'.cell? ⟨w.heap.size, 2, none⟩ = some (.int .i64 z)

theorem below_grow {W w : World} (h : Kept W w) (os : Array Obj) : Kept W (grow w os) := by
  refine ⟨h.os, h.tape, h.output, ?_, ?_⟩
  · have := h.size
    simp [grow]; omega
  · intro k hk
    have hs := h.size
    have hb := h.block k hk
    show (w.heap ++ os)[k]? = _
    rw [Array.getElem?_append_left (by omega)]; exact hb

theorem sort3_any (a b c : Int) (w : World) (t : TypeId) :
    Calls Try.prog 23 #[.slice (some ⟨w.heap.size, 0, none⟩) 3 3] (w.alloc (.cells #[.int .i64 a, .int .i64 b, .int .i64 c] t)) (Sort3 a b c w) := by
  have hH : Holds (Value.int .i64) (w.alloc (.cells #[.int .i64 a, .int .i64 b, .int .i64 c] t)) w.heap.size 0 [a, b, c].toArray := by
    intro j hj
    have hj3 : j < 3 := by simpa using hj
    rcases (show j = 0 ∨ j = 1 ∨ j = 2 by omega) with rfl | rfl | rfl <;> simp
  have hc := Try.slices_Sort_int w.heap.size 0 3 [a, b, c] (w.alloc (.cells #[.int .i64 a, .int .i64 b, .int .i64 c] t)) hH (by simp) (by simp)
  refine hc.mono ?_
  rintro e w' ⟨rfl, n, os, rfl⟩
  obtain ⟨x, y, z, hl, h1, h2, h3, h4⟩ := sorted3 a b c
  rw [hl]
  have hK : Kept w (grow (putRow (Value.int .i64) (Sort.ahead (w.alloc (.cells #[.int .i64 a, .int .i64 b, .int .i64 c] t)) n) w.heap.size 0 [x, y, z].toArray) os) := by
    refine below_grow ?_ os
    refine ⟨rfl, rfl, rfl, by simp, ?_⟩
    intro k hk
    show ((w.alloc (.cells #[.int .i64 a, .int .i64 b, .int .i64 c] t)).heap.modify w.heap.size _)[k]? = _
    rw [Array.getElem?_modify, if_neg (by omega)]
    exact Below.heap_alloc w _ k hk
  have hH2 : Holds (Value.int .i64) (grow (putRow (Value.int .i64) (Sort.ahead (w.alloc (.cells #[.int .i64 a, .int .i64 b, .int .i64 c] t)) n) w.heap.size 0 [x, y, z].toArray) os) w.heap.size 0 [x, y, z].toArray :=
    holds_grow _ _ _ _ _ _ (by simp) (holds_putRow _ _ _ _ [a, b, c].toArray [x, y, z].toArray (holds_ahead _ _ _ _ _ _ hH) (by simp))
  refine ⟨x, y, z, h1, h2, h3, h4, rfl, hK, ?_, ?_, ?_, ?_⟩
  · simp [grow]; omega
  · have := (hH2 0 (by simp)).1
    simpa using this
  · have := (hH2 1 (by simp)).1
    simpa using this
  · have := (hH2 2 (by simp)).1
    simpa using this

/-- .. said of its place. -/
theorem sort3_at (a b c : Int) (w : World) (t : TypeId) (p : Nat) (hp : w.heap.size = p) :
    Calls Try.prog 23 #[.slice (some ⟨p, 0, none⟩) 3 3] (w.alloc (.cells #[.int .i64 a, .int .i64 b, .int .i64 c] t)) fun e w' =>
      ∃ x y z : Int, x ≤ y ∧ y ≤ z ∧ In3 x a b c ∧ In3 z a b c ∧ e = .returned (.tuple #[]) ∧ Kept w w' ∧ p < w'.heap.size ∧
        w'.cell? ⟨p, 0, none⟩ = some (.int .i64 x) ∧ w'.cell? ⟨p, 1, none⟩ = some (.int .i64 y) ∧ w'.cell? ⟨p, 2, none⟩ = some (.int .i64 z) := by
  subst hp
  exact sort3_any a b c w t

/-- The three, read in a later world. -/
theorem row_later {W w' : World} {p : Nat} {a b c : Value} (s1 : p < W.heap.size) (f0 : W.cell? ⟨p, 0, none⟩ = some a) (f1 : W.cell? ⟨p, 1, none⟩ = some b) (f2 : W.cell? ⟨p, 2, none⟩ = some c) (h : Kept W w') :
    Kept W w' ∧ w'.cell? ⟨p, 0, none⟩ = some a ∧ w'.cell? ⟨p, 1, none⟩ = some b ∧ w'.cell? ⟨p, 2, none⟩ = some c := by
  rw [h.rd.1 _ _ s1, h.rd.1 _ _ s1, h.rd.1 _ _ s1]
  exact ⟨h, f0, f1, f2⟩

end Go.Proofs.Ytklbikifcebckaa
