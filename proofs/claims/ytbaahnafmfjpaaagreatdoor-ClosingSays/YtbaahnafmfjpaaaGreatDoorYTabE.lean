/-
  The library's sort brings a row of 50 to 60 places that is sorted but for its last one into order: by the kernel. No condition.
-/
import Derived.Test.YtbaahnafmfjpaaaGreatDoorYMath
namespace Go.Proofs.YtbaahnafmfjpaaaGreatDoor
theorem all50 : allB 50 50 = true := by decide +kernel
theorem all51 : allB 51 51 = true := by decide +kernel
theorem all52 : allB 52 52 = true := by decide +kernel
theorem all53 : allB 53 53 = true := by decide +kernel
theorem all54 : allB 54 54 = true := by decide +kernel
theorem all55 : allB 55 55 = true := by decide +kernel
theorem all56 : allB 56 56 = true := by decide +kernel
theorem all57 : allB 57 57 = true := by decide +kernel
theorem all58 : allB 58 58 = true := by decide +kernel
theorem all59 : allB 59 59 = true := by decide +kernel
theorem all60 : allB 60 60 = true := by decide +kernel
end Go.Proofs.YtbaahnafmfjpaaaGreatDoor
