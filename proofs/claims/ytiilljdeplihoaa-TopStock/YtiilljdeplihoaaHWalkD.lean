/-
  What package book's Shut and Get return. No condition but those that each theorem names.
-/
import Derived.Test.YtiilljdeplihoaaHWalkC
import Derived.StillTailTactics
namespace Go.Proofs.Ytiilljdeplihoaa
open Go.RowKit
set_option linter.unusedVariables false

/-- No book, and an error. -/
def BkNo (w : World) (er : Int) (e : Ending) (w' : World) : Prop := e = .returned (.tuple #[.agg #[.slice none 0 0, .slice none 0 0, .int .i64 0], .int .i64 er]) ∧ Kept w w'
/-- A book of the call's own, and no error. -/
def BkYes (w : World) (b : Bk) (e : Ending) (w' : World) : Prop := ∃ q, e = .returned (.tuple #[bkV q b, .int .i64 0]) ∧ BkF w' w.heap.size q b ∧ Kept w w'
theorem Kept.set3 {a w : World} {p : Nat} (h : Kept a w) (hp : a.heap.size ≤ p) (u v x : Value) : Kept a (((w.setCell ⟨p, 0, none⟩ u).setCell ⟨p, 1, none⟩ v).setCell ⟨p, 2, none⟩ x) := ((h.setAt hp u).setAt hp v).setAt hp x
theorem BkF.set3 {w : World} {B r : Nat} {q : BkA} {b : Bk} (h : BkF w B q b) (hr : r < B) (u v x : Value) : BkF (((w.setCell ⟨r, 0, none⟩ u).setCell ⟨r, 1, none⟩ v).setCell ⟨r, 2, none⟩ x) B q b := ((h.set hr).set hr).set hr
theorem VBk.noneAt (w : World) (q : BkA) (b : Bk) : VBk ((w.alloc (bkO q b)).alloc noBk) (w.heap.size + 1) noA noB := VBk.none _ _ (by simp)
theorem Good.lines {b : Bk} (g : Good b) : ∀ x ∈ b.ens, x.lns.length ≤ 12 := fun x hx => (enE_ok (g.each x hx).1).2.2.1
theorem Good.a24 {b : Bk} (g : Good b) : b.acs.length ≤ 24 := acE_24 g.acs
/-- P38: the error. -/
def shE (b : Bk) (d : Int) : Int := if bkE b = 0 then (if dyB d = true then (if d < b.shut then 9 else 0) else 1) else bkE b
theorem shE_ok {b : Bk} {d : Int} (h : shE b d = 0) : Good b ∧ dyB d = true ∧ ¬ d < b.shut := by
  unfold shE at h
  by_cases h1 : bkE b = 0
  · rw [if_pos h1] at h
    by_cases h2 : dyB d = true
    · rw [if_pos h2] at h
      by_cases h3 : d < b.shut
      · rw [if_pos h3] at h; omega
      · exact ⟨bkE_iff.1 h1, h2, h3⟩
    · rw [if_neg h2] at h; omega
  · rw [if_neg h1] at h; exact absurd h h1
/-- P36: the error. -/
def gtE (b : Bk) (k : ByteArray) : Int := if bkE b = 0 then (if kyI k b.ens < b.ens.length then 0 else 4) else bkE b
abbrev noEn : Obj := .cells #[.string ⟨#[]⟩, .int .i64 0, .slice none 0 0] 56
/-- An entry of the call's own, and no error. -/
def EtYes (w : World) (x : Et) (e : Ending) (w' : World) : Prop := ∃ p, w.heap.size ≤ p ∧ e = .returned (.tuple #[enV x.key x.day (some ⟨p, 0, none⟩) x.lns.length x.lns.length, .int .i64 0]) ∧ POwn w' p x.lns ∧ Kept w w'
end Go.Proofs.Ytiilljdeplihoaa
