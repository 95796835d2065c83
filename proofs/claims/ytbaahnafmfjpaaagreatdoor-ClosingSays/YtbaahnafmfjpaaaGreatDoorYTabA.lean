/-
  The library's sort brings a row of 1 to 36 places that is sorted but for its last one into order: by the kernel. No condition.
-/
import Derived.Test.YtbaahnafmfjpaaaGreatDoorYMath
namespace Go.Proofs.YtbaahnafmfjpaaaGreatDoor
theorem all1 : allB 1 1 = true := by decide +kernel
theorem all2 : allB 2 2 = true := by decide +kernel
theorem all3 : allB 3 3 = true := by decide +kernel
theorem all4 : allB 4 4 = true := by decide +kernel
theorem all5 : allB 5 5 = true := by decide +kernel
theorem all6 : allB 6 6 = true := by decide +kernel
theorem all7 : allB 7 7 = true := by decide +kernel
theorem all8 : allB 8 8 = true := by decide +kernel
theorem all9 : allB 9 9 = true := by decide +kernel
theorem all10 : allB 10 10 = true := by decide +kernel
theorem all11 : allB 11 11 = true := by decide +kernel
theorem all12 : allB 12 12 = true := by decide +kernel
theorem all13 : allB 13 13 = true := by decide +kernel
theorem all14 : allB 14 14 = true := by decide +kernel
theorem all15 : allB 15 15 = true := by decide +kernel
theorem all16 : allB 16 16 = true := by decide +kernel
theorem all17 : allB 17 17 = true := by decide +kernel
theorem all18 : allB 18 18 = true := by decide +kernel
theorem all19 : allB 19 19 = true := by decide +kernel
theorem all20 : allB 20 20 = true := by decide +kernel
theorem all21 : allB 21 21 = true := by decide +kernel
theorem all22 : allB 22 22 = true := by decide +kernel
theorem all23 : allB 23 23 = true := by decide +kernel
theorem all24 : allB 24 24 = true := by decide +kernel
theorem all25 : allB 25 25 = true := by decide +kernel
theorem all26 : allB 26 26 = true := by decide +kernel
theorem all27 : allB 27 27 = true := by decide +kernel
theorem all28 : allB 28 28 = true := by decide +kernel
theorem all29 : allB 29 29 = true := by decide +kernel
theorem all30 : allB 30 30 = true := by decide +kernel
theorem all31 : allB 31 31 = true := by decide +kernel
theorem all32 : allB 32 32 = true := by decide +kernel
theorem all33 : allB 33 33 = true := by decide +kernel
theorem all34 : allB 34 34 = true := by decide +kernel
theorem all35 : allB 35 35 = true := by decide +kernel
theorem all36 : allB 36 36 = true := by decide +kernel
end Go.Proofs.YtbaahnafmfjpaaaGreatDoor
