/-
  What package book's Post returns where the entry is new. No condition but those that each theorem names.
-/
import Derived.Test.YtndplbpdojbieaaDoorHWalkF
namespace Go.Proofs.YtndplbpdojbieaaDoor
open Go.RowKit
end Go.Proofs.YtndplbpdojbieaaDoor
