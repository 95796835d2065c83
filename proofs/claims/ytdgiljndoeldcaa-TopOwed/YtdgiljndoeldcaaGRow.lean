/-
  From handed slices of items to lists: nil, empty or any row. Condition: none.
-/
import Derived.Test.YtdgiljndoeldcaaGAge
import Derived.Test.YtdgiljndoeldcaaPRow
namespace Go.Proofs.Ytdgiljndoeldcaa
open Go.ChangeShapes Go.WideShapes Go.ChangeAt Go.RowKit Go.Deep
set_option linter.unusedVariables false

theorem cellsItem : Try.prog.cellsOf 31 = 2 := by kernel_rfl
/-- A handed []api.Item. -/
theorem items_of {H : Type} {enc : TypeId × Value → H} {W : World} {base : Nat} {spare : Nat → Bool} {held : Bool} {fuel len cap : Nat} {a : Option Addr} {x : DataW H × List MemPlace}
    (h : DataW.trod enc Try.prog W base spare held fuel 22 [.slice a len cap] = some x) :
    ∃ l : List Mv, l.length = len ∧ len ≤ cap ∧ cap ≤ maxLen ∧ JArg eP W a l ∧ (a = none → cap = 0) := by
  rcases open_slice_pairs Try.underlying22 Try.underlying31 cellsItem rfl rfl cellsInt1 cellsInt1 h with ⟨hcs, hx⟩ | ⟨ad, len', cap', m, n, V0, V1, D0, D1, P0, P1, hcs, hb, hl, hm, hmm, hx, hc⟩
  · simp at hcs
    obtain ⟨rfl, rfl, rfl⟩ := hcs
    exact ⟨[], rfl, by omega, by omega, .inl rfl, fun _ => rfl⟩
  · simp at hcs
    obtain ⟨rfl, rfl, rfl⟩ := hcs
    have lm : len ≤ m := by rw [hmm]; split <;> omega
    have each : ∀ i, i < len → ∃ y : Mv, W.cell? (ad.add (i * 2)) = some (.int .i64 y.1) ∧ W.cell? (ad.add (i * 2 + 1)) = some (.int .i64 y.2) := by
      intro i hi
      obtain ⟨h0, h1, h2, h3⟩ := hc i (by omega)
      obtain ⟨s, es, _, hs⟩ := DataW.trod_int Try.underlying3 h2
      obtain ⟨z, ez, _, hz⟩ := DataW.trod_int Try.underlying3 h3
      have e1 : V0 i = .int .i64 s := by simpa using es
      have e2 : V1 i = .int .i64 z := by simpa using ez
      exact ⟨(s, z), by rw [h0, e1], by rw [h1, e2]⟩
    obtain ⟨f, hf⟩ := choose_lt each
    refine ⟨(List.range len).map f, by simp, hl, hm, ?_, fun e => by cases e⟩
    by_cases h0 : len = 0
    · exact .inl (by simp [h0])
    · obtain ⟨b, off, spot⟩ := ad
      have hc0 := (hf 0 (by omega)).1
      have hspot : spot = none := by simpa [Addr.add] using World.cell?_spot hc0
      subst hspot
      refine .inr ⟨b, off, rfl, jrow_pairs (by simpa [Addr.add] using lt_of_cell hc0) (fun j hj => ?_) (fun j hj => ?_)⟩
      · have hj' : j < len := by simpa using hj
        have := (hf j hj').1
        rw [add_plain] at this
        simpa using this
      · have hj' : j < len := by simpa using hj
        have := (hf j hj').2
        rw [add_plain] at this
        simpa using this
end Go.Proofs.Ytdgiljndoeldcaa
