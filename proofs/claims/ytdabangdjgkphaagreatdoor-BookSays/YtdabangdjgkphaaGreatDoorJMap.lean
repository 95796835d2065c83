/-
  What the reference's walks over sets stand on. No condition.
-/
import Derived.Test.YtdabangdjgkphaaGreatDoorCWalkB
import Derived.Test.YtdabangdjgkphaaGreatDoorHMap
