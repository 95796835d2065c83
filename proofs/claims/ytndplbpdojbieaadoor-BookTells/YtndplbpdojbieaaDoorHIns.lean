/-
  What the library's slices.Insert returns at a full row of entries: a new row with one entry more. No condition but those that the theorem names.
-/
import Derived.Test.YtndplbpdojbieaaDoorHWalkA
import Derived.Shelf.Spec.SlicesInsert
import Derived.Lib.AppendZerosOnto
import Derived.Laws.NewBlocks
namespace Go.Proofs.YtndplbpdojbieaaDoor
open Go.RowKit Go.Lib
set_option linter.unusedVariables false
set_option linter.unusedSimpArgs false

/-- A new row. -/
def InsPost (w : World) (m : Nat) (ds : List Value) (e : Ending) (w' : World) : Prop :=
  ∃ p c, w.heap.size ≤ p ∧ e = .returned (.slice (some ⟨p, 0, none⟩) m c) ∧ m ≤ c ∧ c ≤ maxLen ∧ p < w'.heap.size ∧ (∀ j v, ds[j]? = some v → w'.cell? ⟨p, j, none⟩ = some v) ∧ Kept w w'
theorem Kept.grown {w w' : World} (h : w.grownBy w' Option.none) : Kept w w' := Below.grown (Kept.refl w) h (Nat.le_refl _) (fun j e => by cases e)
theorem splice_cells {W1 : World} {N i : Nat} {vs ds : List Value} {c1 : List Value} (j : Nat) (v : Value) (hN : ∀ t, t < c1.length + vs.length + ds.length → (W1.cell? ⟨N, t, none⟩).isSome = true)
    (hc : ∀ t u, c1[t]? = some u → W1.cell? ⟨N, t, none⟩ = some u) (hi : c1.length = i) (hj : (c1 ++ vs ++ ds)[j]? = some v) : ((W1.setCells N i vs).setCells N (i + vs.length) ds).cell? ⟨N, j, none⟩ = some v := by
  have hlt := (List.getElem?_eq_some_iff.1 hj).1
  simp only [List.length_append] at hlt
  by_cases h1 : j < i
  · rw [World.cell?_setCells_out _ _ _ _ _ (fun _ _ => .inl (by simp; omega)), World.cell?_setCells_out _ _ _ _ _ (fun _ _ => .inl (by simpa using h1))]
    rw [List.append_assoc, List.getElem?_append_left (by omega)] at hj
    exact hc j v hj
  · by_cases h2 : j < i + vs.length
    · rw [World.cell?_setCells_out _ _ _ _ _ (fun _ _ => .inl (by simpa using h2))]
      have := World.cell?_setCells_in N vs i W1 (fun t ht => hN _ (by omega)) (j - i) (by omega)
      rw [show i + (j - i) = j by omega] at this
      rw [this]
      rw [List.getElem?_append_left (by simp; omega), List.getElem?_append_right (by omega), hi] at hj
      rw [List.getElem?_eq_getElem (by omega)] at hj
      exact hj
    · have := World.cell?_setCells_in N ds (i + vs.length) (W1.setCells N i vs) (fun t ht => isSome_setCells _ _ _ _ (fun u hu => hN _ (by omega)) _ (hN _ (by omega))) (j - (i + vs.length)) (by omega)
      rw [show i + vs.length + (j - (i + vs.length)) = j by omega] at this
      rw [this]
      rw [List.getElem?_append_right (by simp; omega)] at hj
      simp only [List.length_append, hi] at hj
      rw [List.getElem?_eq_getElem (by omega)] at hj
      exact hj
theorem drew_setCells (g : Nat) : ∀ (vs : List Value) (o : Nat) (w : World), w.drew.setCells g o vs = (w.setCells g o vs).drew
  | [], _, _ => rfl
  | v :: r, o, w => by rw [World.setCells, World.setCells, show w.drew.setCell ⟨g, o, none⟩ v = (w.setCell ⟨g, o, none⟩ v).drew from rfl, drew_setCells g r]
theorem mixedOk : Tryd.prog.follows Departure.mixedOrders = true := by kernel_rfl
end Go.Proofs.YtndplbpdojbieaaDoor
