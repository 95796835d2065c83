/-
  What the reference's walks over sets stand on. No condition.
-/
import Derived.Test.YtbaahnafmfjpaaaGreatDoorMgCWalkA
import Derived.Test.YtbaahnafmfjpaaaGreatDoorHMap
