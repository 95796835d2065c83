/-
  What package book's Post returns. No condition but those that each theorem names.
-/
import Derived.Test.YtndplbpdojbieaaDoorHWalkD
import Derived.Test.YtndplbpdojbieaaDoorHIns
import Derived.StillTailTactics
namespace Go.Proofs.YtndplbpdojbieaaDoor
open Go.RowKit
set_option linter.unusedVariables false

abbrev enO (x : Et) (a : Option Addr) (cap : Nat) : Obj := .cells #[.string x.key, .int .i64 x.day, .slice a x.lns.length cap] 42
/-- An entry in memory. -/
structure EtM (w : World) (x : Et) (a : Option Addr) (cap : Nat) : Prop where
  key : x.key.size ≤ maxLen
  len : x.lns.length ≤ maxLen
  lns : PArg w a x.lns
  sh : Shortish x.lns
  le : x.lns.length ≤ cap
  cap : cap ≤ maxLen
theorem EtM.later {w w' : World} {x : Et} {a : Option Addr} {cap : Nat} (h : EtM w x a cap) (k : Kept w w') : EtM w' x a cap := ⟨h.key, h.len, h.lns.later k, h.sh, h.le, h.cap⟩
end Go.Proofs.YtndplbpdojbieaaDoor
