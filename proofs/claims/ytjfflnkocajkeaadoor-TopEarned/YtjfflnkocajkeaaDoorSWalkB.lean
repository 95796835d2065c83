/-
  What slices.Equal says of two rows that read alike, and slices.Max and slices.Min of a row: one of its numbers. No condition but those that each theorem names.
-/
import Derived.Test.YtjfflnkocajkeaaDoorSWalkA
namespace Go.Proofs.YtjfflnkocajkeaaDoor
open Go.RowKit

/-- One of the numbers. -/
def OneOf (g : Nat → Int) (n : Nat) (w : World) (e : Ending) (w' : World) : Prop := ∃ j, j < n ∧ e = .returned (.int .i64 (g j)) ∧ w = w'
end Go.Proofs.YtjfflnkocajkeaaDoor
