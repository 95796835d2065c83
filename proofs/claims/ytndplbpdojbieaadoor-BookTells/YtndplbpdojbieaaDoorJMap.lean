/-
  What the reference's walks over sets stand on. No condition.
-/
import Derived.Test.YtndplbpdojbieaaDoorCWalkB
import Derived.Test.YtndplbpdojbieaaDoorHMap
