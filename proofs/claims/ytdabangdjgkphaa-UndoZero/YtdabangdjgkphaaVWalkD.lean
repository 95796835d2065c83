/-
  What package trial's Trial returns. No condition but those that each theorem names.
-/
import Derived.Test.YtdabangdjgkphaaVWalkC
namespace Go.Proofs.Ytdabangdjgkphaa
open Go.RowKit
set_option linter.unusedVariables false

/-- P39: three answers. -/
def TrPost (w : World) (x y er : Int) (e : Ending) (w' : World) : Prop := e = .returned (.tuple #[.int .i64 x, .int .i64 y, .int .i64 er]) ∧ Kept w w'
/-! The tests' first sale, as the reports see it. -/
def saleB : Bk := ⟨plainL, [saleE], -1⟩
theorem saleB_t : tcE saleB 5 5 = 0 ∧ tcE saleB 0 5 = 0 := by decide +kernel
theorem saleB_ud : upS (fun k => balS k 5 saleB.ens) saleB.acs = 7 ∧ dnS (fun k => balS k 5 saleB.ens) saleB.acs = 7 := by decide +kernel
theorem saleB_pr : prV saleB 0 5 = 7 ∧ prV saleB 5 5 = 7 := by decide +kernel
theorem saleB_sh : kinS saleB.acs 0 0 5 saleB.ens = 7 := by decide +kernel
theorem sale_post : poV plainB saleE = saleB := sale_po
end Go.Proofs.Ytdabangdjgkphaa
