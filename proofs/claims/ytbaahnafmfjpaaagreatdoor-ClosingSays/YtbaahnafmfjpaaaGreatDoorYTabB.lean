/-
  The library's sort brings a row of 37 to 42 places that is sorted but for its last one into order: by the kernel. No condition.
-/
import Derived.Test.YtbaahnafmfjpaaaGreatDoorYMath
namespace Go.Proofs.YtbaahnafmfjpaaaGreatDoor
theorem all37 : allB 37 37 = true := by decide +kernel
theorem all38 : allB 38 38 = true := by decide +kernel
theorem all39 : allB 39 39 = true := by decide +kernel
theorem all40 : allB 40 40 = true := by decide +kernel
theorem all41 : allB 41 41 = true := by decide +kernel
theorem all42 : allB 42 42 = true := by decide +kernel
end Go.Proofs.YtbaahnafmfjpaaaGreatDoor
