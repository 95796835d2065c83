/-
  The row of claims as the reference builds it, one appended after the other. No condition but those that each theorem names.
-/
import Derived.Test.YtpkdknddncnceaaQWalkG
import Derived.Deep.RegionLaw
import Derived.Deep.AppendLies
import Derived.OneCell
import Derived.ArgAppend
import Derived.Laws.OwnMore
namespace Go.Proofs.Ytpkdknddncnceaa
open Go.RowKit Go.WideShapes

/-- The cells of the first claims. -/
def clist (C : Cl) : Nat → List Value
  | 0 => []
  | m + 1 => clist C m ++ en C (m : Int)
theorem clist_len (C : Cl) (m : Nat) : (clist C m).length = m * 3 := by
  induction m with
  | zero => rfl
  | succ m ih => rw [clist, List.length_append, ih, en_len]; omega
theorem clist_get (C : Cl) (m q r : Nat) (hq : q < m) (hr : r < 3) : (clist C m)[q * 3 + r]? = (en C (q : Int))[r]? := by
  induction m with
  | zero => omega
  | succ m ih =>
    rw [clist]
    by_cases e : q = m
    · subst e
      rw [List.getElem?_append_right (by rw [clist_len]; omega), clist_len, show q * 3 + r - q * 3 = r by omega]
    · rw [List.getElem?_append_left (by rw [clist_len]; omega)]
      exact ih (by omega)
/-- The row that grows. -/
structure CGr (B : Nat) (w : World) (u : Value) (m : Nat) (C : Cl) : Prop where
  own : w.ownsRow B 47 3 u m (clist C m)
theorem CGr.nil (B : Nat) (w : World) (C : Cl) : CGr B w (.slice none 0 0) 0 C := ⟨World.ownsRow_nil _ _ _ _⟩
theorem CGr.row {B p m c : Nat} {w : World} {C : Cl} (h : CGr B w (.slice (some ⟨p, 0, none⟩) m c) m C) : CRow w p m C idn := by
  refine CRow.of (h.own.lt p rfl).2 (fun j hj r u hr => ?_) (fun o _ => h.own.frozenAt o)
  have r3 : r < 3 := by
    by_cases c : r < 3
    · exact c
    · rw [List.getElem?_eq_none (by rw [en_len]; omega)] at hr; cases hr
  rw [h.own.cellAt (j * 3 + r) (by omega), clist_get C m j r hj r3]
  exact hr
theorem CGr.form {B m : Nat} {w : World} {u : Value} {C : Cl} (h : CGr B w u m C) (m1 : 1 ≤ m) : ∃ p c, u = .slice (some ⟨p, 0, none⟩) m c ∧ B ≤ p ∧ m ≤ c := by
  rcases h.own.2 with ⟨_, h0⟩ | ⟨p, c, _, e, hb, _, hc, _⟩
  · omega
  · exact ⟨p, c, e, hb, hc⟩
theorem CGr.none {B : Nat} {w : World} {u : Value} {C : Cl} (h : CGr B w u 0 C) (hn : u.ownBlock = Option.none) : u = .slice Option.none 0 0 := by
  rcases h.own.2 with ⟨e, _⟩ | ⟨p, c, _, e, _⟩
  · exact e
  · rw [e] at hn; simp [Value.ownBlock] at hn
/-- What is so while it is built. -/
structure BS (w0 w : World) (bx m : Nat) (C : Cl) (u : Value) : Prop where
  gr : CGr (w0.heap.size + 1) w u m C
  box : w.cell? ⟨bx, 0, none⟩ = some u
  blt : bx < w.heap.size
  free : w.frozen? ⟨bx, 0, none⟩ = false
  bx0 : bx = w0.heap.size
  kept : Kept w0 w
  emp : m = 0 → u = .slice Option.none 0 0
theorem zeroCl : infoCl.zero = some (.agg #[.int .i64 0, .int .i64 0, .int .i64 0]) := by kernel_rfl
theorem bytesCl : infoCl.bytes = 24 := by kernel_rfl
theorem BS.stored {w0 w1 : World} {bx m g c : Nat} {C : Cl} {u : Value} (hG : CGr (w0.heap.size + 1) w1 (.slice (some ⟨g, 0, none⟩) (m + 1) c) (m + 1) C) (hb : w1.cell? ⟨bx, 0, none⟩ = some u) (hl : bx < w1.heap.size) (hf : w1.frozen? ⟨bx, 0, none⟩ = false) (b0 : bx = w0.heap.size) (hK : Kept w0 w1) :
    BS w0 (w1.setCell ⟨bx, 0, none⟩ (.slice (some ⟨g, 0, none⟩) (m + 1) c)) bx (m + 1) C (.slice (some ⟨g, 0, none⟩) (m + 1) c) := by
  have hg := (hG.own.lt g rfl).1
  refine ⟨⟨ownsRow_setCell_other hG.own (by simp [Value.ownBlock]; omega) _⟩, World.cell?_setCell_same _ _ _ hb, by simpa using hl, by rw [World.frozen?_setCell]; exact hf, b0, hK.setAt (by omega) _, fun h => by omega⟩
theorem BS.drewN {w0 w : World} {bx m : Nat} {C : Cl} {u : Value} (h : BS w0 w bx m C u) (q : Nat) : BS w0 (w.drewN q) bx m C u := ⟨⟨h.gr.own⟩, h.box, h.blt, h.free, h.bx0, h.kept.drewN q, h.emp⟩
theorem BS.drew {w0 w : World} {bx m : Nat} {C : Cl} {u : Value} (h : BS w0 w bx m C u) : BS w0 w.drew bx m C u := ⟨⟨h.gr.own.drew⟩, h.box, h.blt, h.free, h.bx0, h.kept.drew, h.emp⟩
/-- One claim appended, as a step of a region that draws. -/
theorem step_claim {ops : Array Oper} {o : Oper} {a : Act} {K : Act → World → Prop} {Q : Exit → Act → World → Prop} {E : Prop} {w0 wr W : World} {bx m hb : Nat} {C : Cl} {u : Value} (hgd : o.guard = none) (s x : Operand)
    (ho : o.op = .call { callee := .builtin .append, args := #[s, x], argTypes := #[45, 45] }) (hs : a.eval s = u) (hx : a.eval x = .slice (some ⟨hb, 0, none⟩) 1 1)
    (hB : BS w0 wr bx m C u) (hKW : Kept wr W) (hown : W.ownsRow (w0.heap.size + 1) 47 3 u m (clist C m)) (n0 : W.cell? ⟨hb, 0, none⟩ = some (.int .i64 (C.v m))) (n1 : W.cell? ⟨hb, 1, none⟩ = some (.int .i64 (C.d m))) (n2 : W.cell? ⟨hb, 2, none⟩ = some (.int .i64 (C.w m))) (hm : m ≤ 1000000)
    (h : ∀ g c w1, CGr (w0.heap.size + 1) w1 (.slice (some ⟨g, 0, none⟩) (m + 1) c) (m + 1) C → w1.cell? ⟨bx, 0, none⟩ = some u → bx < w1.heap.size → w1.frozen? ⟨bx, 0, none⟩ = false → Kept w0 w1 → K (a.put o.dst (.slice (some ⟨g, 0, none⟩) (m + 1) c)) w1) :
    if Region.wanted o (yielded ops a.tmps) = true then Oper.wp Try.prog o a W K Q else E := by
  have le : bx < W.heap.size := Nat.lt_of_lt_of_le hB.blt hKW.le
  have b0 := hB.bx0
  have far : ∀ g, u.ownBlock = some g → g ≠ bx := fun g hg => by have := (hown.lt g hg).1; omega
  refine step_append_lies W hgd s x 45 ho (w0.heap.size + 1) 47 infoCl (.agg #[.int .i64 0, .int .i64 0, .int .i64 0]) 3 24 Try.underlying45 infoCl_is zeroCl sizeCl bytesCl rfl (by decide)
    u m (clist C m) hs hown ⟨hb, 0, none⟩ 1 1 (en C (m : Int)) hx rfl ?_ (en_one C _) (by decide) (by unfold maxLen; omega) (by omega) (by omega) W.heap.size rfl ?_
  · intro j z hj
    rw [add_plain, Nat.zero_add]
    match j, hj with
    | 0, hj => simp [en] at hj; subst hj; exact n0
    | 1, hj => simp [en] at hj; subst hj; exact n1
    | 2, hj => simp [en] at hj; subst hj; exact n2
    | j + 3, hj => simp [en] at hj
  · intro g c w1 ho1 hgrow _ _
    have ne : some bx ≠ u.ownBlock := fun e => far bx e.symm rfl
    have k1 : Kept w0 w1 := Below.grown (hB.kept.trans hKW) hgrow (hB.kept.trans hKW).size (fun j e => by have := (hown.lt j e).1; omega)
    refine h g c w1 ⟨ho1⟩ ((hgrow.cell_far ⟨bx, 0, none⟩ le ne).trans ((hKW.rd.1 _ _ hB.blt).trans hB.box)) (Nat.lt_of_lt_of_le le hgrow.size) ((hgrow.frozen_far ⟨bx, 0, none⟩ le ne).trans ((hKW.rd.2 _ _ hB.blt).trans hB.free)) k1

end Go.Proofs.Ytpkdknddncnceaa
