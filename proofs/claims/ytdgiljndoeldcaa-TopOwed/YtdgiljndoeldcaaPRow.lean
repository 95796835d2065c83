/-
  From handed slices of moves, and of numbers, to lists: nil, empty or any row. Condition: none.
-/
import Derived.Test.YtdgiljndoeldcaaPMath
import Derived.ProofKit
import Derived.OpenShut
import Derived.SizedLaws
import Derived.Lib.RowBridge
import Derived.Lib.SmallJoins
import Derived.Deep.SlicePairs
namespace Go.Proofs.Ytdgiljndoeldcaa
open Go.ChangeShapes Go.WideShapes Go.ChangeAt Go.RowKit Go.Deep
set_option linter.unusedVariables false

theorem laidOut : laidOutB Try.prog = true := by kernel_rfl
theorem lt_of_cell {w : World} {a : Addr} {v : Value} (h : w.cell? a = some v) : a.block < w.heap.size := by
  unfold World.cell? at h
  split at h
  · next e => exact (Array.getElem?_eq_some_iff.1 e).1
  · cases h
theorem cellsInt1 : Try.prog.cellsOf 3 = 1 := by kernel_rfl
theorem bytesInt1 : Try.prog.bytesOf 3 = 8 := by kernel_rfl
/-- The cells of a row of pairs, element by element. -/
theorem jrow_pairs {w : World} {p off : Nat} {l : List Mv} (lt : p < w.heap.size) (h0 : ∀ j (h : j < l.length), w.cell? ⟨p, off + j * 2, none⟩ = some (.int .i64 (l[j]).1)) (h1 : ∀ j (h : j < l.length), w.cell? ⟨p, off + (j * 2 + 1), none⟩ = some (.int .i64 (l[j]).2)) : JRow eP w p off l := by
  refine ⟨lt, fun j u hj => ?_⟩
  have hlt := (List.getElem?_eq_some_iff.1 hj).1
  rw [eP.cat_len] at hlt
  have hk : eP.k = 2 := rfl
  rw [hk] at hlt
  rcases (show j = j / 2 * 2 ∨ j = j / 2 * 2 + 1 by omega) with e | e
  · have g := eP.cat_get l (j / 2) 0 (by omega) (by decide)
    rw [hk, Nat.add_zero, ← e, hj] at g
    have c := h0 (j / 2) (by omega)
    rw [← e] at c
    rw [c]; simpa [eP] using g.symm
  · have g := eP.cat_get l (j / 2) 1 (by omega) (by decide)
    rw [hk, ← e, hj] at g
    have c := h1 (j / 2) (by omega)
    rw [← e] at c
    rw [c]; simpa [eP] using g.symm
theorem jrow_ints {w : World} {p off : Nat} {l : List Int} (lt : p < w.heap.size) (h0 : ∀ j (h : j < l.length), w.cell? ⟨p, off + j, none⟩ = some (.int .i64 l[j])) : JRow eI w p off l := by
  refine ⟨lt, fun j u hj => ?_⟩
  have hlt := (List.getElem?_eq_some_iff.1 hj).1
  rw [eI.cat_len] at hlt
  have hk : eI.k = 1 := rfl
  rw [hk, Nat.mul_one] at hlt
  have g := eI.cat_get l j 0 hlt (by decide)
  rw [hk, Nat.mul_one, Nat.add_zero, hj] at g
  rw [h0 j hlt]; simpa [eI] using g.symm
/-- A handed []int. -/
theorem ints_of {H : Type} {enc : TypeId × Value → H} {W : World} {base : Nat} {spare : Nat → Bool} {held : Bool} {fuel len cap : Nat} {a : Option Addr} {x : DataW H × List MemPlace}
    (h : DataW.trod enc Try.prog W base spare held fuel 23 [.slice a len cap] = some x) :
    ∃ l : List Int, l.length = len ∧ len ≤ cap ∧ cap ≤ maxLen ∧ JArg eI W a l ∧ (a = none → cap = 0) := by
  rcases open_ints Try.underlying23 Try.underlying3 cellsInt1 h with ⟨hcs, hx⟩ | ⟨ad, len', cap', zs, hcs, _, hl, hmx, hz, hx, hcell, hwz⟩
  · simp at hcs
    obtain ⟨rfl, rfl, rfl⟩ := hcs
    exact ⟨[], rfl, by omega, by omega, .inl rfl, fun _ => rfl⟩
  · simp at hcs
    obtain ⟨rfl, rfl, rfl⟩ := hcs
    have hzl : len ≤ zs.length := by rw [hz]; split <;> omega
    refine ⟨zs.take len, by rw [List.length_take]; omega, hl, hmx, ?_, fun e => by cases e⟩
    by_cases h0 : len = 0
    · exact .inl (by simp [h0])
    · obtain ⟨b, off, spot⟩ := ad
      have hc0 := hcell 0 (by omega)
      have hspot : spot = none := by simpa [Addr.add] using World.cell?_spot hc0
      subst hspot
      refine .inr ⟨b, off, rfl, jrow_ints (by simpa [Addr.add] using lt_of_cell hc0) (fun j hj => ?_)⟩
      rw [List.length_take] at hj
      have := hcell j (by omega)
      rw [add_plain, List.getD_eq_getElem?_getD, List.getElem?_eq_getElem (by omega)] at this
      simpa using this
end Go.Proofs.Ytdgiljndoeldcaa
