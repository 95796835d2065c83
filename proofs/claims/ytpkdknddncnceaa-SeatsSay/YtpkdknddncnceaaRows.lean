/-
  No cell of these rows narrows 'for every input' (looked for: loops, veiled, ifaces, maps, wideKeys, modest, calm, conditions, laid).
  DERIVED. THE GIVEN ROWS OF THIS SEAT. 9 by the template 'for every input the law returns true; each argument reads behind the call as it read before'; 0 by the template 'total and deterministic' (their statements: YtpkdknddncnceaaTotals.lean).
  GIVEN WITH THE SEED: the statements are not yours to turn. If you find one false, say at which input.
  Laid BY PROGRAM, IN A SANDBOX (cutbox-rows.mjs): the forced cells as the released guide's own fill.sh prints them over the translation 82d7feb920a7ff9b… (all of the seat's roots in one cut). By AI agents, Wed Nov 11 2026. No macro, syntax, notation, axiom, sorry.
-/
import Derived.Test.YtpkdknddncnceaaChecked
import GoSem.Claim
import GoSem.ClaimJoined
import GoSem.ClaimMapViews
import Derived.JoinedTies
import Derived.KernelRfl
namespace Go.Proofs.Ytpkdknddncnceaa
/- THE CELL 'sum', in the pinned program and in every row, IS THE sha256 OF THE DUMP (.gsa) THAT YtpkdknddncnceaaProg.lean LOADS. Nothing in Lean hashes anything: it is a label: what it is worth is what the hold of that sum in a sandbox is worth. -/
noncomputable def Try.pinned : Pinned := { name := "ytpkdknddncnceaa", sum := "82d7feb920a7ff9bec5439ac63cfeb1ca0fd37fbd8845a4d8893cc2493c52396", checked := Try.checked }
namespace Rows
def none {H : Type} : Left H := { results := [], args := [] }

/-- 'tallaw.SeatsSay': WHATEVER THE INPUT: true; the input reads as it did. -/
def seatsSaySpec : ChangeSpec := { name := "seatsSay", fn := fun _ => fun
  | [d1, d2, d3] => { results := [.lit (.bool true)], args := [d1, d2, d3] }
  | _ => none }
def seatsSayRow : OpenClaim := { program := "ytpkdknddncnceaa", sum := "82d7feb920a7ff9bec5439ac63cfeb1ca0fd37fbd8845a4d8893cc2493c52396", func := "tallage/tallaw.SeatsSay", spec := "seatsSay", inPlace := ["internal/reflectlite.ValueOf", "internal/reflectlite.Swapper", "(internal/reflectlite.Value).Len"], unfollowed := true, recurses := true, apart := false }
def SeatsSaySaid : Prop := seatsSayRow.holds Try.pinned (OpenSpec.ofChange seatsSaySpec)

/-- ITS FALSE NEIGHBOUR: 'it returns false'. Refute it at one input. -/
def seatsSayWrong : ChangeSpec := { name := "seatsSay", fn := fun _ => fun
  | [d1, d2, d3] => { results := [.lit (.bool false)], args := [d1, d2, d3] }
  | _ => none }
def SeatsSayWrongFalsely : Prop := seatsSayRow.holds Try.pinned (OpenSpec.ofChange seatsSayWrong)

/-- 'talkeep.SeatsSum': WHATEVER THE INPUT: true; the input reads as it did. -/
def seatsSumSpec : ChangeSpec := { name := "seatsSum", fn := fun _ => fun
  | [d1, d2, d3] => { results := [.lit (.bool true)], args := [d1, d2, d3] }
  | _ => none }
def seatsSumRow : OpenClaim := { program := "ytpkdknddncnceaa", sum := "82d7feb920a7ff9bec5439ac63cfeb1ca0fd37fbd8845a4d8893cc2493c52396", func := "tallage/talkeep.SeatsSum", spec := "seatsSum", unfollowed := true, recurses := true, apart := false }
def SeatsSumSaid : Prop := seatsSumRow.holds Try.pinned (OpenSpec.ofChange seatsSumSpec)

/-- ITS FALSE NEIGHBOUR: 'it returns false'. Refute it at one input. -/
def seatsSumWrong : ChangeSpec := { name := "seatsSum", fn := fun _ => fun
  | [d1, d2, d3] => { results := [.lit (.bool false)], args := [d1, d2, d3] }
  | _ => none }
def SeatsSumWrongFalsely : Prop := seatsSumRow.holds Try.pinned (OpenSpec.ofChange seatsSumWrong)

/-- 'talkeep.SeatsHouse': WHATEVER THE INPUT: true; the input reads as it did. -/
def seatsHouseSpec : ChangeSpec := { name := "seatsHouse", fn := fun _ => fun
  | [d1, d2, d3] => { results := [.lit (.bool true)], args := [d1, d2, d3] }
  | _ => none }
def seatsHouseRow : OpenClaim := { program := "ytpkdknddncnceaa", sum := "82d7feb920a7ff9bec5439ac63cfeb1ca0fd37fbd8845a4d8893cc2493c52396", func := "tallage/talkeep.SeatsHouse", spec := "seatsHouse", unfollowed := true, recurses := true, apart := false }
def SeatsHouseSaid : Prop := seatsHouseRow.holds Try.pinned (OpenSpec.ofChange seatsHouseSpec)

/-- ITS FALSE NEIGHBOUR: 'it returns false'. Refute it at one input. -/
def seatsHouseWrong : ChangeSpec := { name := "seatsHouse", fn := fun _ => fun
  | [d1, d2, d3] => { results := [.lit (.bool false)], args := [d1, d2, d3] }
  | _ => none }
def SeatsHouseWrongFalsely : Prop := seatsHouseRow.holds Try.pinned (OpenSpec.ofChange seatsHouseWrong)

/-- 'talkeep.SeatsVotes': WHATEVER THE INPUT: true; the input reads as it did. -/
def seatsVotesSpec : ChangeSpec := { name := "seatsVotes", fn := fun _ => fun
  | [d1, d2, d3, d4, d5] => { results := [.lit (.bool true)], args := [d1, d2, d3, d4, d5] }
  | _ => none }
def seatsVotesRow : OpenClaim := { program := "ytpkdknddncnceaa", sum := "82d7feb920a7ff9bec5439ac63cfeb1ca0fd37fbd8845a4d8893cc2493c52396", func := "tallage/talkeep.SeatsVotes", spec := "seatsVotes", unfollowed := true, recurses := true, apart := false }
def SeatsVotesSaid : Prop := seatsVotesRow.holds Try.pinned (OpenSpec.ofChange seatsVotesSpec)

/-- ITS FALSE NEIGHBOUR: 'it returns false'. Refute it at one input. -/
def seatsVotesWrong : ChangeSpec := { name := "seatsVotes", fn := fun _ => fun
  | [d1, d2, d3, d4, d5] => { results := [.lit (.bool false)], args := [d1, d2, d3, d4, d5] }
  | _ => none }
def SeatsVotesWrongFalsely : Prop := seatsVotesRow.holds Try.pinned (OpenSpec.ofChange seatsVotesWrong)

/-- 'talkeep.SeatsFair': WHATEVER THE INPUT: true; the input reads as it did. -/
def seatsFairSpec : ChangeSpec := { name := "seatsFair", fn := fun _ => fun
  | [d1, d2, d3] => { results := [.lit (.bool true)], args := [d1, d2, d3] }
  | _ => none }
def seatsFairRow : OpenClaim := { program := "ytpkdknddncnceaa", sum := "82d7feb920a7ff9bec5439ac63cfeb1ca0fd37fbd8845a4d8893cc2493c52396", func := "tallage/talkeep.SeatsFair", spec := "seatsFair", unfollowed := true, recurses := true, apart := false }
def SeatsFairSaid : Prop := seatsFairRow.holds Try.pinned (OpenSpec.ofChange seatsFairSpec)

/-- ITS FALSE NEIGHBOUR: 'it returns false'. Refute it at one input. -/
def seatsFairWrong : ChangeSpec := { name := "seatsFair", fn := fun _ => fun
  | [d1, d2, d3] => { results := [.lit (.bool false)], args := [d1, d2, d3] }
  | _ => none }
def SeatsFairWrongFalsely : Prop := seatsFairRow.holds Try.pinned (OpenSpec.ofChange seatsFairWrong)

/-- 'talkeep.SeatsQuota': WHATEVER THE INPUT: true; the input reads as it did. -/
def seatsQuotaSpec : ChangeSpec := { name := "seatsQuota", fn := fun _ => fun
  | [d1, d2] => { results := [.lit (.bool true)], args := [d1, d2] }
  | _ => none }
def seatsQuotaRow : OpenClaim := { program := "ytpkdknddncnceaa", sum := "82d7feb920a7ff9bec5439ac63cfeb1ca0fd37fbd8845a4d8893cc2493c52396", func := "tallage/talkeep.SeatsQuota", spec := "seatsQuota", unfollowed := true, recurses := true, apart := false }
def SeatsQuotaSaid : Prop := seatsQuotaRow.holds Try.pinned (OpenSpec.ofChange seatsQuotaSpec)

/-- ITS FALSE NEIGHBOUR: 'it returns false'. Refute it at one input. -/
def seatsQuotaWrong : ChangeSpec := { name := "seatsQuota", fn := fun _ => fun
  | [d1, d2] => { results := [.lit (.bool false)], args := [d1, d2] }
  | _ => none }
def SeatsQuotaWrongFalsely : Prop := seatsQuotaRow.holds Try.pinned (OpenSpec.ofChange seatsQuotaWrong)

/-- 'talkeep.SeatsJoin': WHATEVER THE INPUT: true; the input reads as it did. -/
def seatsJoinSpec : ChangeSpec := { name := "seatsJoin", fn := fun _ => fun
  | [d1, d2, d3, d4] => { results := [.lit (.bool true)], args := [d1, d2, d3, d4] }
  | _ => none }
def seatsJoinRow : OpenClaim := { program := "ytpkdknddncnceaa", sum := "82d7feb920a7ff9bec5439ac63cfeb1ca0fd37fbd8845a4d8893cc2493c52396", func := "tallage/talkeep.SeatsJoin", spec := "seatsJoin", unfollowed := true, recurses := true, apart := false }
def SeatsJoinSaid : Prop := seatsJoinRow.holds Try.pinned (OpenSpec.ofChange seatsJoinSpec)

/-- ITS FALSE NEIGHBOUR: 'it returns false'. Refute it at one input. -/
def seatsJoinWrong : ChangeSpec := { name := "seatsJoin", fn := fun _ => fun
  | [d1, d2, d3, d4] => { results := [.lit (.bool false)], args := [d1, d2, d3, d4] }
  | _ => none }
def SeatsJoinWrongFalsely : Prop := seatsJoinRow.holds Try.pinned (OpenSpec.ofChange seatsJoinWrong)

/-- 'talkeep.SeatsTwo': WHATEVER THE INPUT: true; the input reads as it did. -/
def seatsTwoSpec : ChangeSpec := { name := "seatsTwo", fn := fun _ => fun
  | [d1, d2, d3] => { results := [.lit (.bool true)], args := [d1, d2, d3] }
  | _ => none }
def seatsTwoRow : OpenClaim := { program := "ytpkdknddncnceaa", sum := "82d7feb920a7ff9bec5439ac63cfeb1ca0fd37fbd8845a4d8893cc2493c52396", func := "tallage/talkeep.SeatsTwo", spec := "seatsTwo", unfollowed := true, recurses := true, apart := false }
def SeatsTwoSaid : Prop := seatsTwoRow.holds Try.pinned (OpenSpec.ofChange seatsTwoSpec)

/-- ITS FALSE NEIGHBOUR: 'it returns false'. Refute it at one input. -/
def seatsTwoWrong : ChangeSpec := { name := "seatsTwo", fn := fun _ => fun
  | [d1, d2, d3] => { results := [.lit (.bool false)], args := [d1, d2, d3] }
  | _ => none }
def SeatsTwoWrongFalsely : Prop := seatsTwoRow.holds Try.pinned (OpenSpec.ofChange seatsTwoWrong)

/-- 'talkeep.SeatsScale': WHATEVER THE INPUT: true; the input reads as it did. -/
def seatsScaleSpec : ChangeSpec := { name := "seatsScale", fn := fun _ => fun
  | [d1, d2, d3, d4] => { results := [.lit (.bool true)], args := [d1, d2, d3, d4] }
  | _ => none }
def seatsScaleRow : OpenClaim := { program := "ytpkdknddncnceaa", sum := "82d7feb920a7ff9bec5439ac63cfeb1ca0fd37fbd8845a4d8893cc2493c52396", func := "tallage/talkeep.SeatsScale", spec := "seatsScale", unfollowed := true, recurses := true, apart := false }
def SeatsScaleSaid : Prop := seatsScaleRow.holds Try.pinned (OpenSpec.ofChange seatsScaleSpec)

/-- ITS FALSE NEIGHBOUR: 'it returns false'. Refute it at one input. -/
def seatsScaleWrong : ChangeSpec := { name := "seatsScale", fn := fun _ => fun
  | [d1, d2, d3, d4] => { results := [.lit (.bool false)], args := [d1, d2, d3, d4] }
  | _ => none }
def SeatsScaleWrongFalsely : Prop := seatsScaleRow.holds Try.pinned (OpenSpec.ofChange seatsScaleWrong)

/- THE SECOND FORM. 'bulk': how many values and letters a reading holds, each counted each time it is reached (what is shared counts as often as it is met; a slice's spare places count too). A statement '..UptoSaid' is the law's where the arguments, and the package variables that the reading takes, are together of bulk at most 1048576: NARROWER than '..Said'. Prove '..Said' where nothing that the law and all that it calls make is longer than what came in: it says more and counts as full. Else prove '..UptoSaid'. A law counts once. -/
mutual
def uptoBulk {H : Type} : DataW H → Nat
  | .lit (.string bytes) => bytes.length + 1
  | .lit _ => 1
  | .nil => 1
  | .ptr d => uptoBulk d + 1
  | .slice elems spare => uptoBulkAll elems + uptoBulkAll spare + 1
  | .agg parts => uptoBulkAll parts + 1
  | .iface _ d => uptoBulk d + 1
  | .map entries => uptoBulkEntries entries + 1
  | .held _ => 1
def uptoBulkAll {H : Type} : List (DataW H) → Nat
  | [] => 0
  | d :: r => uptoBulk d + uptoBulkAll r
def uptoBulkEntries {H : Type} : List (Lit × DataW H) → Nat
  | [] => 0
  | x :: r => uptoBulkEntry x + uptoBulkEntries r
def uptoBulkEntry {H : Type} : Lit × DataW H → Nat
  | (.string bytes, d) => bytes.length + uptoBulk d + 1
  | (_, d) => uptoBulk d + 1
 end
def uptoSmall : (H : Type) → List (DataW H) → Bool := fun _ ds => decide (uptoBulkAll ds ≤ 1048576)
def OpenSpec.upto (s : _root_.Go.ChangeSpec) : _root_.Go.OpenSpec := { _root_.Go.OpenSpec.ofChange s with cond := some uptoSmall }

/-- 'tallaw.SeatsSay', WHERE WHAT IT READS IS OF BULK AT MOST 1048576: true; the input reads as it did. -/
def seatsSayUptoRow : OpenClaim := { program := "ytpkdknddncnceaa", sum := "82d7feb920a7ff9bec5439ac63cfeb1ca0fd37fbd8845a4d8893cc2493c52396", func := "tallage/tallaw.SeatsSay", spec := "seatsSay", inPlace := ["internal/reflectlite.ValueOf", "internal/reflectlite.Swapper", "(internal/reflectlite.Value).Len"], unfollowed := true, recurses := true, apart := false, narrowed := true }
def SeatsSayUptoSaid : Prop := seatsSayUptoRow.holds Try.pinned (OpenSpec.upto seatsSaySpec)

/-- 'talkeep.SeatsSum', WHERE WHAT IT READS IS OF BULK AT MOST 1048576: true; the input reads as it did. -/
def seatsSumUptoRow : OpenClaim := { program := "ytpkdknddncnceaa", sum := "82d7feb920a7ff9bec5439ac63cfeb1ca0fd37fbd8845a4d8893cc2493c52396", func := "tallage/talkeep.SeatsSum", spec := "seatsSum", unfollowed := true, recurses := true, apart := false, narrowed := true }
def SeatsSumUptoSaid : Prop := seatsSumUptoRow.holds Try.pinned (OpenSpec.upto seatsSumSpec)

/-- 'talkeep.SeatsHouse', WHERE WHAT IT READS IS OF BULK AT MOST 1048576: true; the input reads as it did. -/
def seatsHouseUptoRow : OpenClaim := { program := "ytpkdknddncnceaa", sum := "82d7feb920a7ff9bec5439ac63cfeb1ca0fd37fbd8845a4d8893cc2493c52396", func := "tallage/talkeep.SeatsHouse", spec := "seatsHouse", unfollowed := true, recurses := true, apart := false, narrowed := true }
def SeatsHouseUptoSaid : Prop := seatsHouseUptoRow.holds Try.pinned (OpenSpec.upto seatsHouseSpec)

/-- 'talkeep.SeatsVotes', WHERE WHAT IT READS IS OF BULK AT MOST 1048576: true; the input reads as it did. -/
def seatsVotesUptoRow : OpenClaim := { program := "ytpkdknddncnceaa", sum := "82d7feb920a7ff9bec5439ac63cfeb1ca0fd37fbd8845a4d8893cc2493c52396", func := "tallage/talkeep.SeatsVotes", spec := "seatsVotes", unfollowed := true, recurses := true, apart := false, narrowed := true }
def SeatsVotesUptoSaid : Prop := seatsVotesUptoRow.holds Try.pinned (OpenSpec.upto seatsVotesSpec)

/-- 'talkeep.SeatsFair', WHERE WHAT IT READS IS OF BULK AT MOST 1048576: true; the input reads as it did. -/
def seatsFairUptoRow : OpenClaim := { program := "ytpkdknddncnceaa", sum := "82d7feb920a7ff9bec5439ac63cfeb1ca0fd37fbd8845a4d8893cc2493c52396", func := "tallage/talkeep.SeatsFair", spec := "seatsFair", unfollowed := true, recurses := true, apart := false, narrowed := true }
def SeatsFairUptoSaid : Prop := seatsFairUptoRow.holds Try.pinned (OpenSpec.upto seatsFairSpec)

/-- 'talkeep.SeatsQuota', WHERE WHAT IT READS IS OF BULK AT MOST 1048576: true; the input reads as it did. -/
def seatsQuotaUptoRow : OpenClaim := { program := "ytpkdknddncnceaa", sum := "82d7feb920a7ff9bec5439ac63cfeb1ca0fd37fbd8845a4d8893cc2493c52396", func := "tallage/talkeep.SeatsQuota", spec := "seatsQuota", unfollowed := true, recurses := true, apart := false, narrowed := true }
def SeatsQuotaUptoSaid : Prop := seatsQuotaUptoRow.holds Try.pinned (OpenSpec.upto seatsQuotaSpec)

/-- 'talkeep.SeatsJoin', WHERE WHAT IT READS IS OF BULK AT MOST 1048576: true; the input reads as it did. -/
def seatsJoinUptoRow : OpenClaim := { program := "ytpkdknddncnceaa", sum := "82d7feb920a7ff9bec5439ac63cfeb1ca0fd37fbd8845a4d8893cc2493c52396", func := "tallage/talkeep.SeatsJoin", spec := "seatsJoin", unfollowed := true, recurses := true, apart := false, narrowed := true }
def SeatsJoinUptoSaid : Prop := seatsJoinUptoRow.holds Try.pinned (OpenSpec.upto seatsJoinSpec)

/-- 'talkeep.SeatsTwo', WHERE WHAT IT READS IS OF BULK AT MOST 1048576: true; the input reads as it did. -/
def seatsTwoUptoRow : OpenClaim := { program := "ytpkdknddncnceaa", sum := "82d7feb920a7ff9bec5439ac63cfeb1ca0fd37fbd8845a4d8893cc2493c52396", func := "tallage/talkeep.SeatsTwo", spec := "seatsTwo", unfollowed := true, recurses := true, apart := false, narrowed := true }
def SeatsTwoUptoSaid : Prop := seatsTwoUptoRow.holds Try.pinned (OpenSpec.upto seatsTwoSpec)

/-- 'talkeep.SeatsScale', WHERE WHAT IT READS IS OF BULK AT MOST 1048576: true; the input reads as it did. -/
def seatsScaleUptoRow : OpenClaim := { program := "ytpkdknddncnceaa", sum := "82d7feb920a7ff9bec5439ac63cfeb1ca0fd37fbd8845a4d8893cc2493c52396", func := "tallage/talkeep.SeatsScale", spec := "seatsScale", unfollowed := true, recurses := true, apart := false, narrowed := true }
def SeatsScaleUptoSaid : Prop := seatsScaleUptoRow.holds Try.pinned (OpenSpec.upto seatsScaleSpec)

end Rows
end Go.Proofs.Ytpkdknddncnceaa
