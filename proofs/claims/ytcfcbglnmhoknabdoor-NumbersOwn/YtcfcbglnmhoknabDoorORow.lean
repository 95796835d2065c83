/-
  From a handed []int to 'Arg', with its greatest length. Condition: none.
-/
import Derived.Test.YtcfcbglnmhoknabDoorSRow
namespace Go.Proofs.YtcfcbglnmhoknabDoor
open Go.ChangeShapes Go.WideShapes Go.ChangeAt Go.RowKit

theorem arg5 {H : Type} {enc : TypeId × Value → H} {W : World} {a0 : Option Addr} {len cap : Nat} {d0 : DataW H} {p0 : List MemPlace} {ts : List TypeId} {ds : List (DataW H)} {j : Nat}
    (h : DataW.Trod enc Tryd.prog W 0 (fun _ => true) true 25 (.slice a0 len cap) d0 p0)
    (hsz : (DataW.weightsEach Tryd.prog ts ds).all (· ≤ reachBytes) = true) (ht : ts[j]? = some 25) (hd : ds[j]? = some d0) :
    ∃ wt : Nat → Int, (len : Int) ≤ 17592186044416 ∧ Arg W a0 len wt ∧ (a0 = none → cap = 0 ∧ len = 0) := by
  obtain ⟨wt, _, hA, _⟩ := arg_of h hsz ht hd
  refine ⟨wt, ?_, hA, ?_⟩
  · obtain ⟨fuel, hf⟩ := h
    rcases open_ints Tryd.underlying25 Tryd.underlying3 cellsInt hf with ⟨hcs, hx⟩ | ⟨a, len', cap', zs, hcs, _, hl, hmx, hz, hx, hcell, hwz⟩
    · simp [Value.cells] at hcs
      omega
    · simp [Value.cells] at hcs
      obtain ⟨rfl, rfl, rfl⟩ := hcs
      simp only [Prod.mk.injEq] at hx
      obtain ⟨rfl, rfl⟩ := hx
      simp only [if_true] at hz
      have := sized_slice hsz ht hd Tryd.underlying25
      rw [bytesInt] at this
      simp only [lits, List.length_map, List.length_take, List.length_drop, reachBytes] at this
      omega
  · obtain ⟨fuel, hf⟩ := h
    rcases open_ints Tryd.underlying25 Tryd.underlying3 cellsInt hf with ⟨hcs, hx⟩ | ⟨a, len', cap', zs, hcs, _⟩
    · simp [Value.cells] at hcs
      intro _
      exact ⟨hcs.2.2, hcs.2.1⟩
    · simp [Value.cells] at hcs
      intro e
      rw [hcs.1] at e
      cases e

end Go.Proofs.YtcfcbglnmhoknabDoor
