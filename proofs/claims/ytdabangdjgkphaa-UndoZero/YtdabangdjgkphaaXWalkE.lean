/-
  The first closing of talkeep's laws. No condition but those that each theorem names.
-/
import Derived.Test.YtdabangdjgkphaaXWalkD
import Derived.Test.YtdabangdjgkphaaXMathB
import Derived.Test.YtdabangdjgkphaaVWalkD
namespace Go.Proofs.Ytdabangdjgkphaa
open Go.RowKit
set_option linter.unusedVariables false

theorem z_cl : clE saleB ⟨#[122]⟩ 6 ⟨#[51, 48]⟩ = 0 := by decide +kernel
/-- The first book closed. -/
def clB : Bk := clV saleB ⟨#[122]⟩ 6 ⟨#[51, 48]⟩
theorem z_ba : baE clB ⟨#[51, 48]⟩ 6 = 0 := by decide +kernel
theorem z_bal : balS ⟨#[51, 48]⟩ 6 clB.ens = -7 := by decide +kernel
theorem z_ba5 : baE clB ⟨#[52, 48]⟩ 5 = 0 := by decide +kernel
theorem z_bal5 : balS ⟨#[52, 48]⟩ 5 clB.ens = -7 := by decide +kernel
theorem z_shut : clB.shut = 6 := rfl
/-- A book's variable, made and written. -/
theorem xb_new {w : World} {p : Nat} (hp : w.heap.size = p) (q : BkA) (b : Bk) : VBk (w.alloc (bkO q b)) p q b := by
  subst hp; exact ⟨BBx.new w q b, by simp, by simp, by simp⟩
theorem xb_put {w : World} {p : Nat} {q q' : BkA} {b b' : Bk} (h : VBk w p q b) : VBk (((w.setCell ⟨p, 0, none⟩ (.slice q'.aa b'.acs.length q'.ca)).setCell ⟨p, 1, none⟩ (.slice q'.ae b'.ens.length q'.ce)).setCell ⟨p, 2, none⟩ (.int .i64 b'.shut)) p q' b' := by
  obtain ⟨⟨a, c, d, e⟩, f0, f1, f2⟩ := h
  refine ⟨⟨by simpa using a, ?_, ?_, ?_⟩, ?_, ?_, ?_⟩ <;> go_simp
/-- What a variable's box and a book lie in, once a call's book is written into it. -/
structure Put (W w : World) (py : Nat) (q : BkA) (y : Bk) : Prop where
  vy : VBk w py q y
  my : BkM w q y
  kp : Kept W w
theorem Put.later {W w w' : World} {py : Nat} {q : BkA} {y : Bk} (h : Put W w py q y) (k : Kept w w') : Put W w' py q y := ⟨h.vy.later k, h.my.later k, h.kp.trans k⟩
theorem Put.of {W w w' : World} {py B : Nat} {q q' : BkA} {x y : Bk} (h : VBk w py q x) (k : Kept w w') (hW : Kept W w) (hp : W.heap.size ≤ py) (hF : BkF w' B q' y) (hB : w.heap.size ≤ B) :
    Put W (((w'.setCell ⟨py, 0, none⟩ (.slice q'.aa y.acs.length q'.ca)).setCell ⟨py, 1, none⟩ (.slice q'.ae y.ens.length q'.ce)).setCell ⟨py, 2, none⟩ (.int .i64 y.shut)) py q' y :=
  ⟨xb_put (h.later k), (hF.set3 (r := py) (by have := h.box.lt; omega) _ _ _).m, (hW.trans k).set3 (p := py) hp _ _ _⟩
end Go.Proofs.Ytdabangdjgkphaa
