/-
  From handed slices of accounts and of lines to lists of pairs: nil, empty or any row. Condition: none.
-/
import Derived.Test.YtdabangdjgkphaaAWalkB
import Derived.ProofKit
import Derived.OpenShut
import Derived.SizedLaws
import Derived.Lib.RowBridge
import Derived.Lib.SmallJoins
import Derived.Deep.SlicePairs
namespace Go.Proofs.Ytdabangdjgkphaa
open Go.ChangeShapes Go.WideShapes Go.ChangeAt Go.RowKit Go.Deep
set_option linter.unusedVariables false

theorem laidOut : laidOutB Try.prog = true := by kernel_rfl
theorem lt_of_cell {w : World} {a : Addr} {v : Value} (h : w.cell? a = some v) : a.block < w.heap.size := by
  unfold World.cell? at h
  split at h
  · next e => exact (Array.getElem?_eq_some_iff.1 e).1
  · cases h
/-- The numbers of a row fit a machine's word. -/
def Fits (l : List Pr) : Prop := ∀ x ∈ l, -9223372036854775808 ≤ x.2 ∧ x.2 ≤ 9223372036854775807
theorem pairs_of {H : Type} {enc : TypeId × Value → H} {W : World} {base : Nat} {spare : Nat → Bool} {held : Bool} {S T : TypeId} {f0 f1 : Field} {fuel len cap : Nat} {a : Option Addr} {x : DataW H × List MemPlace}
    (hS : Try.prog.underlying S = some (.slice T)) (he : Try.prog.underlying T = some (.struct #[f0, f1])) (ce : Try.prog.cellsOf T = 2) (o0 : f0.offset = 0) (o1 : f1.offset = 1)
    (t0 : Try.prog.underlying f0.type = some .string) (t1 : Try.prog.underlying f1.type = some (.int .i64)) (c0 : Try.prog.cellsOf f0.type = 1) (c1 : Try.prog.cellsOf f1.type = 1)
    (h : DataW.trod enc Try.prog W base spare held fuel S [.slice a len cap] = some x) :
    ∃ l : List Pr, l.length = len ∧ len ≤ cap ∧ cap ≤ maxLen ∧ PArg W a l ∧ Shortish l ∧ Fits l := by
  rcases open_slice_pairs hS he ce o0 o1 c0 c1 h with ⟨hcs, hx⟩ | ⟨ad, len', cap', m, n, V0, V1, D0, D1, P0, P1, hcs, hb, hl, hm, hmm, hx, hc⟩
  · simp at hcs
    obtain ⟨rfl, rfl, rfl⟩ := hcs
    exact ⟨[], rfl, by omega, by omega, .inl rfl, by simp [Shortish], by simp [Fits]⟩
  · simp at hcs
    obtain ⟨rfl, rfl, rfl⟩ := hcs
    have lm : len ≤ m := by rw [hmm]; split <;> omega
    have each : ∀ i, i < len → ∃ y : Pr, W.cell? (ad.add (i * 2)) = some (.string y.1) ∧ W.cell? (ad.add (i * 2 + 1)) = some (.int .i64 y.2) ∧ y.1.size ≤ maxLen ∧ (-9223372036854775808 ≤ y.2 ∧ y.2 ≤ 9223372036854775807) := by
      intro i hi
      obtain ⟨h0, h1, h2, h3⟩ := hc i (by omega)
      obtain ⟨s, es, _, hs⟩ := DataW.trod_string t0 h2
      obtain ⟨z, ez, _, hz⟩ := DataW.trod_int t1 h3
      have e1 : V0 i = .string s := by simpa using es
      have e2 : V1 i = .int .i64 z := by simpa using ez
      exact ⟨(s, z), by rw [h0, e1], by rw [h1, e2], hs, bounds_i64 hz⟩
    obtain ⟨f, hf⟩ := choose_lt each
    refine ⟨(List.range len).map f, by simp, hl, hm, ?_, ?_, ?_⟩
    · by_cases h0 : len = 0
      · exact .inl (by simp [h0])
      · obtain ⟨b, off, spot⟩ := ad
        have hc0 := (hf 0 (by omega)).1
        have hspot : spot = none := by simpa [Addr.add] using World.cell?_spot hc0
        subst hspot
        refine .inr ⟨b, off, rfl, by simpa [Addr.add] using lt_of_cell hc0, fun j hj => ?_, fun j hj => ?_⟩
        · have hj' : j < len := by simpa using hj
          have := (hf j hj').1
          rw [add_plain] at this
          simpa using this
        · have hj' : j < len := by simpa using hj
          have := (hf j hj').2.1
          rw [add_plain, ← Nat.add_assoc] at this
          simpa using this
    · intro y hy
      obtain ⟨j, hj, rfl⟩ := List.mem_map.1 hy
      exact (hf j (by simpa using hj)).2.2.1
    · intro y hy
      obtain ⟨j, hj, rfl⟩ := List.mem_map.1 hy
      exact (hf j (by simpa using hj)).2.2.2
theorem cellsAcct : Try.prog.cellsOf 43 = 2 := by kernel_rfl
theorem cellsLine : Try.prog.cellsOf 49 = 2 := by kernel_rfl
theorem cellsStr1 : Try.prog.cellsOf 9 = 1 := by kernel_rfl
theorem cellsInt1 : Try.prog.cellsOf 3 = 1 := by kernel_rfl
/-- A handed []api.Acct. -/
theorem accts_of {H : Type} {enc : TypeId × Value → H} {W : World} {base : Nat} {spare : Nat → Bool} {held : Bool} {fuel len cap : Nat} {a : Option Addr} {x : DataW H × List MemPlace}
    (h : DataW.trod enc Try.prog W base spare held fuel 22 [.slice a len cap] = some x) :
    ∃ l : List Pr, l.length = len ∧ len ≤ cap ∧ cap ≤ maxLen ∧ PArg W a l ∧ Shortish l ∧ Fits l :=
  pairs_of Try.underlying22 Try.underlying43 cellsAcct rfl rfl Try.underlying9 Try.underlying3 cellsStr1 cellsInt1 h
/-- A handed []api.Line. -/
theorem lines_of {H : Type} {enc : TypeId × Value → H} {W : World} {base : Nat} {spare : Nat → Bool} {held : Bool} {fuel len cap : Nat} {a : Option Addr} {x : DataW H × List MemPlace}
    (h : DataW.trod enc Try.prog W base spare held fuel 30 [.slice a len cap] = some x) :
    ∃ l : List Pr, l.length = len ∧ len ≤ cap ∧ cap ≤ maxLen ∧ PArg W a l ∧ Shortish l ∧ Fits l :=
  pairs_of Try.underlying30 Try.underlying49 cellsLine rfl rfl Try.underlying9 Try.underlying3 cellsStr1 cellsInt1 h
theorem cellsEntry : Try.prog.cellsOf 32 = 3 := by kernel_rfl
theorem slice_of {H : Type} {enc : TypeId × Value → H} {W : World} {base : Nat} {spare : Nat → Bool} {held : Bool} {S T : TypeId} {fuel : Nat} {v : Value} {x : DataW H × List MemPlace}
    (hS : Try.prog.underlying S = some (.slice T)) (h : DataW.trod enc Try.prog W base spare held fuel S [v] = some x) : ∃ a len cap, v = .slice a len cap := by
  rcases open_slice hS h with ⟨hcs, _⟩ | ⟨ad, len, cap, m, n, D, Pl, hcs, _⟩
  · exact ⟨none, 0, 0, by simpa using hcs⟩
  · exact ⟨some ad, len, cap, by simpa using hcs⟩
set_option maxRecDepth 100000 in
/-- A handed api.Entry. -/
theorem entry_of {H : Type} {enc : TypeId × Value → H} {W : World} {r : Reach} {b0 base : Nat} {spare : Nat → Bool} {held : Bool} {v : Value} {dt : DataW H} {p : List MemPlace}
    (hv : Value.okWide Try.prog W r b0 32 v) (h : DataW.Trod enc Try.prog W base spare held 32 v dt p) :
    ∃ (k : ByteArray) (d : Int) (a : Option Addr) (l : List Pr) (cap : Nat), v = .agg #[.string k, .int .i64 d, .slice a l.length cap] ∧ k.size ≤ maxLen ∧ (-9223372036854775808 ≤ d ∧ d ≤ 9223372036854775807) ∧ l.length ≤ cap ∧ cap ≤ maxLen ∧ PArg W a l ∧ Shortish l ∧ Fits l := by
  obtain ⟨c0, c1, c2, y0, y1, y2, m, rfl, rfl, rfl, h0, h1, h2⟩ := Joins.open_agg3 Try.underlying32 (by kernel_rfl) cellsEntry hv h
  obtain ⟨k, ek, _, hk⟩ := DataW.trod_string Try.underlying9 h0
  obtain ⟨d, ed, _, hd⟩ := DataW.trod_int Try.underlying3 h1
  obtain ⟨a, len, cap, rfl⟩ := slice_of Try.underlying30 h2
  obtain ⟨l, rfl, hl, hm, hA, hs, hF⟩ := lines_of h2
  have e0 : c0 = .string k := by simpa using ek
  have e1 : c1 = .int .i64 d := by simpa using ed
  subst e0 e1
  exact ⟨k, d, a, l, cap, rfl, hk, bounds_i64 hd, hl, hm, hA, hs, hF⟩
end Go.Proofs.Ytdabangdjgkphaa
