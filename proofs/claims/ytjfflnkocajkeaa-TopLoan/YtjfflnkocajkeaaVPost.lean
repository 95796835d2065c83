/-
  What a posting leaves where its book lies in a box of its own, in whatever order. No condition but those that each theorem names.
-/
import Derived.Test.YtjfflnkocajkeaaVWalkD
namespace Go.Proofs.Ytjfflnkocajkeaa
open Go.RowKit
set_option linter.unusedVariables false

theorem Kept.undrew {a b : World} (h : Kept a.drew b) : Kept a b := ⟨h.os, h.tape, h.output, h.size, h.block⟩
/-- A book that was posted, in a box of its own. -/
def PoBox (w : World) (b : Bk) (v : Value) (er : Value) (wx : World) : Prop := ∃ g q, v = .pointer (some ⟨g, 0, none⟩) ∧ er = .int .i64 0 ∧ w.heap.size ≤ g ∧ BBx wx g q b ∧ BkM wx q b ∧ Kept w wx
/-- No book. -/
def PoNone (w : World) (n : Int) (v : Value) (er : Value) (wx : World) : Prop := ∃ g, v = .pointer (some ⟨g, 0, none⟩) ∧ er = .int .i64 n ∧ w.heap.size ≤ g ∧ BBx wx g noA noB ∧ Kept w wx
/-- What a region reads of a book's box. -/
theorem BBx.held {V w' : World} {p : Nat} {q : BkA} {b : Bk} (h : BBx V p q b) (k : Kept V w') :
    Kept V w' ∧ w'.cell? ⟨p, 0, none⟩ = some (.slice q.aa b.acs.length q.ca) ∧ w'.cell? ⟨p, 1, none⟩ = some (.slice q.ae b.ens.length q.ce) ∧ w'.cell? ⟨p, 2, none⟩ = some (.int .i64 b.shut) := by
  obtain ⟨_, b0, b1, b2⟩ := h.later k
  exact ⟨k, b0, b1, b2⟩
/-- The box of the answer, made ahead of the lines, or behind them. -/
theorem vbk_one {w w' : World} {cs : Array Value} {t : TypeId} (k : Kept ((w.alloc noBk).alloc (.cells cs t)) w') : VBk w' w.heap.size noA noB := ((VBk.none w _ rfl).later ((Kept.refl _).alloc _)).later k
theorem vbk_two {w w' : World} {cs : Array Value} {t : TypeId} (k : Kept ((w.alloc (.cells cs t)).alloc noBk) w') : VBk w' (w.heap.size + 1) noA noB := (VBk.none (w.alloc (.cells cs t)) _ (by simp)).later k
theorem vbk_box {w w' : World} (k : Kept (w.alloc noBk) w') : VBk w' w.heap.size noA noB := (VBk.none w _ rfl).later k
/-- The box is filled. -/
theorem vbk_fill {w : World} {g : Nat} {q0 : BkA} {b0 : Bk} (h : VBk w g q0 b0) (q : BkA) (b : Bk) : BBx (((w.setCell ⟨g, 0, none⟩ (.slice q.aa b.acs.length q.ca)).setCell ⟨g, 1, none⟩ (.slice q.ae b.ens.length q.ce)).setCell ⟨g, 2, none⟩ (.int .i64 b.shut)) g q b := by
  obtain ⟨⟨h0, h1, h2, h3⟩, _, _, _⟩ := h
  refine ⟨by simpa using h0, ?_, ?_, ?_⟩ <;> go_simp
theorem BBx.newAt {w : World} {p : Nat} (hp : w.heap.size = p) (q : BkA) (b : Bk) : BBx (w.alloc (bkO q b)) p q b := hp ▸ BBx.new w q b
/-- .. in memory of its own. -/
def PoBoxF (w : World) (b : Bk) (v : Value) (er : Value) (wx : World) : Prop := ∃ g q, v = .pointer (some ⟨g, 0, none⟩) ∧ er = .int .i64 0 ∧ w.heap.size ≤ g ∧ BBx wx g q b ∧ BkF wx w.heap.size q b ∧ Kept w wx
end Go.Proofs.Ytjfflnkocajkeaa
