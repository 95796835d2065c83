/-
  slices.Delete of one number of a row of the call's own, said of lists. No condition but those that each theorem names.
-/
import Derived.Test.YtdgiljndoeldcaaGAge
import Derived.Test.YtdgiljndoeldcaaNShelf
namespace Go.Proofs.Ytdgiljndoeldcaa
open Go.RowKit Go.WideShapes Go.Sort
set_option linter.unusedVariables false

/-- What Delete of one number returns; other rows are as they were. -/
def ErasePost (B w : World) (p c : Nat) (l : List Int) (e : Ending) (w' : World) : Prop :=
  e = .returned (.slice (some ⟨p, 0, none⟩) l.length c) ∧ Own w' p l ∧ Kept B w' ∧ (∀ (q : Nat) (r : List Int), q ≠ p → Own w q r → Own w' q r) ∧ (∀ b o, b ≠ p → w'.cell? ⟨b, o, none⟩ = w.cell? ⟨b, o, none⟩) ∧ w'.heap.size = w.heap.size
set_option maxHeartbeats 1000000 in
theorem erase_any (p c i : Nat) (l : List Int) (w B : World) (hO : Own w p l) (hp : B.heap.size ≤ p) (hK : Kept B w) (hi : i < l.length) (hc : l.length ≤ c) (hm : c ≤ 1000) :
    Calls Try.prog 51 #[.slice (some ⟨p, 0, none⟩) l.length c, .int .i64 (i : Int), .int .i64 ((i : Int) + 1)] w (ErasePost B w p c (l.eraseIdx i)) := by
  have hH : Holds (Value.int .i64) w p 0 l.toArray := by
    intro j hj
    have hj' : j < l.length := by simpa using hj
    refine ⟨?_, ?_⟩
    · rw [Nat.zero_add, hO.cell j hj', getElem!_pos _ j hj]; rfl
    · rw [Nat.zero_add]; exact hO.free j hj'
  have hd := Any.slices_Delete_int Try.laysNm223 p 0 c i (i + 1) l w hH hc (by omega) (by omega) (by omega)
  rw [show ((i + 1 : Nat) : Int) = (i : Int) + 1 by omega] at hd
  refine (show Calls Try.prog 51 _ _ _ from hd).mono ?_
  rintro e w' ⟨rfl, n, rfl⟩
  have el : (l.eraseIdx i).length = l.length - 1 := by rw [List.length_eraseIdx_of_lt hi]
  have ee : l.take i ++ l.drop (i + 1) ++ List.replicate (i + 1 - i) (0 : Int) = l.eraseIdx i ++ [0] := by
    rw [List.eraseIdx_eq_take_drop_succ, show i + 1 - i = 1 by omega]; rfl
  rw [ee]
  have dl : (l.eraseIdx i ++ [(0 : Int)]).length = l.length := by rw [List.length_append, el]; simp; omega
  have hH2 := holds_putRow (Value.int .i64) (Sort.ahead w n) p 0 l.toArray (l.eraseIdx i ++ [0]).toArray (holds_ahead _ _ _ _ _ _ hH) (by rw [List.size_toArray, List.size_toArray]; exact dl)
  refine ⟨by rw [el, show l.length - (i + 1 - i) = l.length - 1 by omega], ⟨by rw [size_putRow]; exact hO.lt, fun j hj => ?_, fun j hj => ?_⟩, ?_, ?_, ?_, ?_⟩
  · have hl : j < (l.eraseIdx i ++ [(0 : Int)]).length := by rw [List.length_append]; omega
    have := (hH2 j (by rw [List.size_toArray]; exact hl)).1
    rw [Nat.zero_add, getElem!_pos _ j (by rw [List.size_toArray]; exact hl), List.getElem_toArray, List.getElem_append_left hj] at this
    exact this
  · rw [frozen?_putRow]
    exact hO.free j (by omega)
  · refine ⟨hK.os, hK.tape, hK.output, by rw [size_putRow]; exact hK.size, ?_⟩
    intro k hk
    show (w.heap.modify p _)[k]? = _
    rw [Array.getElem?_modify, if_neg (by omega)]
    exact hK.block k hk
  · intro q r hq hR
    refine ⟨by rw [size_putRow]; exact hR.lt, fun j hj => ?_, fun j hj => ?_⟩
    · rw [cell?_putRow_other _ _ _ _ _ _ (.inl hq)]
      exact hR.cell j hj
    · rw [frozen?_putRow]
      exact hR.free j hj
  · intro b o hb
    rw [cell?_putRow_other _ _ _ _ _ _ (.inl hb)]
    rfl
  · rw [size_putRow]; rfl
end Go.Proofs.Ytdgiljndoeldcaa
