/-
  How long handed slices of moves are where what comes in is of small bulk. Condition: none.
-/
import Derived.Test.YtiilljdeplihoaaRows
import Derived.Test.YtiilljdeplihoaaPRow
namespace Go.Proofs.Ytiilljdeplihoaa
open Go.ChangeShapes Go.WideShapes Go.ChangeAt Go.RowKit Go.Deep
set_option linter.unusedVariables false

theorem bulk_one {H : Type} (d : DataW H) : 1 ≤ Rows.uptoBulk d := by
  cases d with
  | lit l => cases l <;> simp [Rows.uptoBulk]
  | nil => simp [Rows.uptoBulk]
  | ptr d => simp [Rows.uptoBulk]
  | slice elems spare => simp [Rows.uptoBulk]
  | agg parts => simp [Rows.uptoBulk]
  | iface t d => simp [Rows.uptoBulk]
  | map entries => simp [Rows.uptoBulk]
  | held h => simp [Rows.uptoBulk]
theorem bulk_pairs {H : Type} (D0 D1 : Nat → DataW H) : ∀ l : List Nat, 3 * l.length ≤ Rows.uptoBulkAll (l.map fun i => DataW.agg [D0 i, D1 i])
  | [] => by simp
  | i :: r => by
    have h := bulk_pairs D0 D1 r
    have a := bulk_one (D0 i)
    have b := bulk_one (D1 i)
    simp only [List.map_cons, List.length_cons, Rows.uptoBulkAll, Rows.uptoBulk]
    omega
theorem moves_bulk {H : Type} {enc : TypeId × Value → H} {W : World} {base : Nat} {spare : Nat → Bool} {held : Bool} {fuel len cap : Nat} {a : Option Addr} {x : DataW H × List MemPlace}
    (h : DataW.trod enc Try.prog W base spare held fuel 22 [.slice a len cap] = some x) : 3 * len ≤ Rows.uptoBulk x.1 := by
  rcases open_slice_pairs Try.underlying22 Try.underlying40 cellsMove rfl rfl cellsInt1 cellsInt1 h with ⟨hcs, hx⟩ | ⟨ad, len', cap', m, n, V0, V1, D0, D1, P0, P1, hcs, hb, hl, hm, hmm, hx, hc⟩
  · simp at hcs
    obtain ⟨rfl, rfl, rfl⟩ := hcs
    omega
  · simp at hcs
    obtain ⟨rfl, rfl, rfl⟩ := hcs
    subst hx
    have := bulk_pairs D0 D1 (List.range len)
    rw [List.length_range] at this
    simp only [Rows.uptoBulk]
    omega
end Go.Proofs.Ytiilljdeplihoaa
