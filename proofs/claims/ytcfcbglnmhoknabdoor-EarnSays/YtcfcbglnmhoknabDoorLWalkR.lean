/-
  The reference of depreciation by the line and by digits: Off, Digits, Parts with its closure, Parted. No condition but those that each theorem names.
-/
import Derived.Test.YtcfcbglnmhoknabDoorMWalkC
namespace Go.Proofs.YtcfcbglnmhoknabDoor
open Go.RowKit

/-- What has grown by steps that keep all. -/
def PartedPost (w : World) (n : Nat) (g : Nat → Int) (e : Ending) (w' : World) : Prop :=
  ∃ (ad : Option Addr) (cap : Nat), e = .returned (.slice ad n cap) ∧ Arg w' ad n g ∧ Kept w w'
theorem Gr.ofDrew {B n : Nat} {w w' : World} {v : Value} {g : Nat → Int} (a : Gr B w v n g) (h : Drew w w') : Gr B w' v n g := by
  obtain ⟨m, rfl⟩ := h
  exact ⟨a.own⟩

end Go.Proofs.YtcfcbglnmhoknabDoor
