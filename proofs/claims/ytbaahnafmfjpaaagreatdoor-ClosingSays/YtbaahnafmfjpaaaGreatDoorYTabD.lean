/-
  The library's sort brings a row of 47 to 49 places that is sorted but for its last one into order: by the kernel. No condition.
-/
import Derived.Test.YtbaahnafmfjpaaaGreatDoorYMath
namespace Go.Proofs.YtbaahnafmfjpaaaGreatDoor
theorem all47 : allB 47 47 = true := by decide +kernel
theorem all48 : allB 48 48 = true := by decide +kernel
theorem all49 : allB 49 49 = true := by decide +kernel
end Go.Proofs.YtbaahnafmfjpaaaGreatDoor
