/-
  The library's sort brings a row of 43 to 46 places that is sorted but for its last one into order: by the kernel. No condition.
-/
import Derived.Test.YtbaahnafmfjpaaaGreatDoorYMath
namespace Go.Proofs.YtbaahnafmfjpaaaGreatDoor
theorem all43 : allB 43 43 = true := by decide +kernel
theorem all44 : allB 44 44 = true := by decide +kernel
theorem all45 : allB 45 45 = true := by decide +kernel
theorem all46 : allB 46 46 = true := by decide +kernel
end Go.Proofs.YtbaahnafmfjpaaaGreatDoor
