/-
  What the end-to-end tests' sum returns; a book in a box that is written. No condition but those that each theorem names.
-/
import Derived.Test.YtjfflnkocajkeaaDoorMWalkA
namespace Go.Proofs.YtjfflnkocajkeaaDoor
open Go.RowKit
theorem uv_put {w : World} {p : Nat} {q q' : BkA} {b b' : Bk} (h : VBk w p q b) : VBk (((w.setCell ⟨p, 0, none⟩ (.slice q'.aa b'.acs.length q'.ca)).setCell ⟨p, 1, none⟩ (.slice q'.ae b'.ens.length q'.ce)).setCell ⟨p, 2, none⟩ (.int .i64 b'.shut)) p q' b' := by
  obtain ⟨⟨a, c, d, e⟩, f0, f1, f2⟩ := h
  refine ⟨⟨by simpa using a, ?_, ?_, ?_⟩, ?_, ?_, ?_⟩ <;> go_simp
theorem uv_new {w : World} {p : Nat} (hp : w.heap.size = p) (q : BkA) (b : Bk) : VBk (w.alloc (bkO q b)) p q b := by
  subst hp; exact ⟨BBx.new w q b, by simp, by simp, by simp⟩
/-- Where a loop's book lies: where it lay at W, or in memory of its own from a block on. -/
def BkU (W w : World) (p : Nat) (q : BkA) (b : Bk) : Prop := BkM W q b ∨ ∃ B, p < B ∧ BkF w B q b
theorem BkU.m {W w : World} {p : Nat} {q : BkA} {b : Bk} (h : BkU W w p q b) (k : Kept W w) : BkM w q b := by
  rcases h with h | ⟨B, _, h⟩
  · exact h.later k
  · exact h.m
theorem BkU.later {W w w' : World} {p : Nat} {q : BkA} {b : Bk} (h : BkU W w p q b) (k : Kept w w') : BkU W w' p q b := by
  rcases h with h | ⟨B, hB, h⟩
  · exact .inl h
  · exact .inr ⟨B, hB, h.later k⟩
end Go.Proofs.YtjfflnkocajkeaaDoor
