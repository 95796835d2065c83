/-
  Rows of entries that grow by append, and books beside them. No condition but those that each theorem names.
-/
import Derived.Test.YtklbikifcebckaaVPost
import Derived.Test.YtklbikifcebckaaHMathO
import Derived.Deep.AppendLies
namespace Go.Proofs.Ytklbikifcebckaa
open Go.RowKit Go.WideShapes
set_option linter.unusedVariables false

/-- The row of entries that grows; the lines lie as they lay at W. -/
def EGr (W : World) (B : Nat) (w : World) (v : Value) (l : List Et) : Prop := ∃ cs, Enc W l cs ∧ w.ownsRow B 31 3 v l.length cs
theorem EGr.nil (W : World) (B : Nat) (w : World) : EGr W B w (.slice none 0 0) [] := ⟨[], rfl, World.ownsRow_nil _ _ _ _⟩
theorem EGr.later {W : World} {B : Nat} {w w' : World} {v : Value} {l : List Et} (a : EGr W B w v l) (k : Kept w w') : EGr W B w' v l := by
  obtain ⟨cs, e, a⟩ := a
  refine ⟨cs, e, a.1, ?_⟩
  rcases a.2 with h | ⟨b, cap, cur, rfl, hb, hh, hr⟩
  · exact .inl h
  · exact .inr ⟨b, cap, cur, rfl, hb, (k.block b (Array.getElem?_eq_some_iff.1 hh).1).trans hh, hr⟩
theorem EGr.lt {W : World} {B : Nat} {w : World} {v : Value} {l : List Et} (a : EGr W B w v l) : ∀ j, v.ownBlock = some j → B ≤ j ∧ j < w.heap.size := by
  obtain ⟨cs, e, a⟩ := a
  intro j hj
  refine ⟨?_, (a.lt j hj).2⟩
  rcases a.2 with ⟨rfl, _⟩ | ⟨b, cap, cur, rfl, hb, _⟩
  · cases hj
  · simp [Value.ownBlock] at hj; omega
theorem EGr.form {W : World} {B : Nat} {w : World} {v : Value} {l : List Et} (h : EGr W B w v l) : ∃ a c, v = .slice a l.length c ∧ l.length ≤ c ∧ c ≤ maxLen := by
  obtain ⟨cs, _, h⟩ := h
  rcases h.2 with ⟨e, h0⟩ | ⟨q, c, _, e, _, _, h1, h2, _⟩
  · exact ⟨none, 0, by rw [e, h0], by omega, by decide⟩
  · exact ⟨_, c, e, h1, h2⟩
theorem EGr.arg {W : World} {B c : Nat} {w : World} {a : Option Addr} {l : List Et} (h : EGr W B w (.slice a l.length c) l) (k : Kept W w) : EArg w a l := by
  obtain ⟨cs, e, h⟩ := h
  have own := h
  rcases h.2 with ⟨e1, h0⟩ | ⟨q, c', cur, e1, hb, hh, _⟩
  · exact .inl (List.eq_nil_of_length_eq_zero h0)
  · obtain ⟨rfl, _⟩ : a = some ⟨q, 0, none⟩ ∧ c = c' := by simpa using e1
    refine .inr ⟨q, 0, rfl, (Array.getElem?_eq_some_iff.1 hh).1, cs, e.later k, fun j v hj => ?_⟩
    rw [Nat.zero_add, own.cellAt j (by have := (List.getElem?_eq_some_iff.1 hj).1; rw [e.len] at this; exact this)]
    exact hj
theorem infoEn : (Try.prog.info? 31).map (fun i => (i.zero, i.size, i.bytes)) = some (some (.agg #[.string ⟨#[]⟩, .int .i64 0, .slice none 0 0]), 3, 48) := by kernel_rfl
theorem run_append_en (w : World) {W : World} {B hb : Nat} {v va : Value} {l : List Et} {x : Et} (ty : TypeId) (a : EGr W B w v l) (hL : LnA W va x.lns) (c0 : w.cell? ⟨hb, 0, none⟩ = some (.string x.key)) (c1 : w.cell? ⟨hb, 1, none⟩ = some (.int .i64 x.day)) (c2 : w.cell? ⟨hb, 2, none⟩ = some va) (hn : l.length + 1 ≤ 1000000) (hB : B ≤ w.heap.size) :
    ∃ v' w', (Builtin.append_ #[23, 23] ty #[v, .slice (some ⟨hb, 0, none⟩) 1 1]).run Try.prog w = .ok v' w' ∧ EGr W B w' v' (l ++ [x]) ∧ w.grownBy w' v.ownBlock := by
  obtain ⟨cs, e, own⟩ := a
  obtain ⟨i0, hi, hz0, hz1, hz2⟩ := info_parts infoEn
  have h63 : l.length + 1 ≤ maxLen := by unfold maxLen; omega
  have hnews : ∀ (j : Nat) (u : Value), ([.string x.key, .int .i64 x.day, va] : List Value)[j]? = some u → w.cell? ((⟨hb, 0, none⟩ : Addr).add j) = some u := by
    intro j u hj
    match j, hj with
    | 0, hj => simp at hj; subst hj; simpa [Addr.add] using c0
    | 1, hj => simp at hj; subst hj; simpa [Addr.add] using c1
    | 2, hj => simp at hj; subst hj; simpa [Addr.add] using c2
    | k + 3, hj => simp at hj
  obtain ⟨v', w', hr, h2, h3, h4⟩ := run_append_own (P := Try.prog) w B 23 ty 31 i0 _ 3 48 Try.underlying23 hi hz0 hz1 hz2 rfl (by decide) v l.length _ own ⟨hb, 0, none⟩ 1 1 [.string x.key, .int .i64 x.day, va] rfl hnews (Enc.one hL).cell1 h63 (by omega) hB
  refine ⟨v', w', hr, ⟨_, e.append (Enc.one hL), ?_⟩, h3⟩
  rw [List.length_append, List.length_singleton]
  exact h2
/-- One entry appended. -/
theorem app_en {w : World} {ops : Array Oper} {rest : List Oper} {o : Oper} {a : Act} {Q : Exit → Act → World → Prop} (hgd : o.guard = none) (s x : Operand)
    (ho : o.op = .call { callee := .builtin .append, args := #[s, x], argTypes := #[23, 23] }) {W : World} {B hb : Nat} {v va : Value} {l : List Et} {z : Et}
    (hs : a.eval s = v) (hx : a.eval x = .slice (some ⟨hb, 0, none⟩) 1 1) (ha : EGr W B w v l) (hL : LnA W va z.lns) (c0 : w.cell? ⟨hb, 0, none⟩ = some (.string z.key)) (c1 : w.cell? ⟨hb, 1, none⟩ = some (.int .i64 z.day)) (c2 : w.cell? ⟨hb, 2, none⟩ = some va) (hn : l.length + 1 ≤ 1000000) (hB : B ≤ w.heap.size)
    (h : ∀ v' w', EGr W B w' v' (l ++ [z]) → w.grownBy w' v.ownBlock → wpList Try.prog ops Q rest (a.put o.dst v') w') : wpList Try.prog ops Q (o :: rest) a w := by
  refine wpList_plain hgd fun _ hK => ?_
  obtain ⟨v', w', hr, h2, h3⟩ := run_append_en w o.type ha hL c0 c1 c2 hn hB
  unfold Oper.wp execOp
  simp only [ho, resolve, invoke, builtin, Sem.run_bind, Sem.run_pure, Result.andThen_ok, List.map_toArray, List.map_cons, List.map_nil, hs, hx, hr]
  exact hK _ _ (h v' w' h2 h3)
/-- What lies from a block on reads the same. -/
def Same (B : Nat) (w w' : World) : Prop := w.heap.size ≤ w'.heap.size ∧ ∀ a : Addr, B ≤ a.block → a.block < w.heap.size → w'.cell? a = w.cell? a
theorem Same.grown {B : Nat} {w w' : World} {o : Option Nat} (g : w.grownBy w' o) (h : ∀ j, o = some j → j < B) : Same B w w' :=
  ⟨g.size, fun a h1 h2 => g.cell_far a h2 fun e => by have := h _ e.symm; omega⟩
theorem PRow.same {B : Nat} {w w' : World} {p off : Nat} {l : List Pr} (h : PRow w p off l) (s : Same B w w') (hp : B ≤ p) : PRow w' p off l :=
  ⟨Nat.lt_of_lt_of_le h.lt s.1, fun j hj => (s.2 ⟨p, _, none⟩ hp h.lt).trans (h.c0 j hj), fun j hj => (s.2 ⟨p, _, none⟩ hp h.lt).trans (h.c1 j hj)⟩
theorem LnA.same {B : Nat} {w w' : World} {v : Value} {l : List Pr} (h : LnA w v l) (s : Same B w w') (hv : NewV B v) : LnA w' v l := by
  obtain ⟨a, cap, rfl, h1, h2, h3⟩ := h
  refine ⟨a, cap, rfl, h1, h2, ?_⟩
  rcases h3 with h3 | ⟨p, off, rfl, h3⟩
  · exact .inl h3
  · exact .inr ⟨p, off, rfl, h3.same s (hv p off _ _ rfl)⟩
theorem Enc.same {B : Nat} {w w' : World} (s : Same B w w') : ∀ {l : List Et} {cs : List Value}, Enc w l cs → (∀ v ∈ cs, NewV B v) → Enc w' l cs
  | [], _, h, _ => h
  | x :: _, _, ⟨v, t, e, h1, h2⟩, ho => ⟨v, t, e, h1.same s (ho v (by rw [e]; simp)), h2.same s fun z hz => ho z (by rw [e]; simp [hz])⟩
theorem BkF.same {w w' : World} {B : Nat} {q : BkA} {b : Bk} (h : BkF w B q b) (s : Same B w w') : BkF w' B q b := by
  obtain ⟨p, e, h1, hp⟩ := h.acs
  obtain ⟨g, cs, e2, h2, hl, hc, hd, hn⟩ := h.ens
  exact ⟨⟨p, e, h1, hp.same s h1⟩, h.sha, h.la, h.lca, ⟨g, cs, e2, h2, Nat.lt_of_lt_of_le hl s.1, hc.same s hn, fun j v hj => (s.2 ⟨g, j, none⟩ h2 hl).trans (hd j v hj), hn⟩, h.she, h.le, h.lce⟩
theorem VBk.grown {w w' : World} {p : Nat} {q : BkA} {b : Bk} {o : Option Nat} (h : VBk w p q b) (g : w.grownBy w' o) (hne : o ≠ some p) : VBk w' p q b := by
  obtain ⟨⟨a, c0, c1, c2⟩, f0, f1, f2⟩ := h
  have hn : some p ≠ o := fun e => hne e.symm
  exact ⟨⟨Nat.lt_of_lt_of_le a g.size, g.cell c0 hn, g.cell c1 hn, g.cell c2 hn⟩, (g.frozen_far ⟨p, 0, Option.none⟩ a hn).trans f0, (g.frozen_far ⟨p, 1, Option.none⟩ a hn).trans f1, (g.frozen_far ⟨p, 2, Option.none⟩ a hn).trans f2⟩
theorem vb_put {w : World} {p : Nat} {q q' : BkA} {b b' : Bk} (h : VBk w p q b) : VBk (((w.setCell ⟨p, 0, none⟩ (.slice q'.aa b'.acs.length q'.ca)).setCell ⟨p, 1, none⟩ (.slice q'.ae b'.ens.length q'.ce)).setCell ⟨p, 2, none⟩ (.int .i64 b'.shut)) p q' b' := by
  obtain ⟨⟨a, c, d, e⟩, f0, f1, f2⟩ := h
  refine ⟨⟨by simpa using a, ?_, ?_, ?_⟩, ?_, ?_, ?_⟩ <;> go_simp
theorem vb_new {w : World} {p : Nat} (hp : w.heap.size = p) (q : BkA) (b : Bk) : VBk (w.alloc (bkO q b)) p q b := by
  subst hp; exact ⟨BBx.new w q b, by simp, by simp, by simp⟩
/-- Where a loop's book lies: where it lay at W, or in memory of its own from a block on. -/
def BkH (W w : World) (p : Nat) (q : BkA) (b : Bk) : Prop := BkM W q b ∨ ∃ B, p < B ∧ BkF w B q b
theorem BkH.m {W w : World} {p : Nat} {q : BkA} {b : Bk} (h : BkH W w p q b) (k : Kept W w) : BkM w q b := by
  rcases h with h | ⟨B, _, h⟩
  · exact h.later k
  · exact h.m
theorem BkH.later {W w w' : World} {p : Nat} {q : BkA} {b : Bk} (h : BkH W w p q b) (k : Kept w w') : BkH W w' p q b := by
  rcases h with h | ⟨B, hB, h⟩
  · exact .inl h
  · exact .inr ⟨B, hB, h.later k⟩
/-- Each entry of a row: where its lines lie, whatever the world. -/
theorem Enc.lines {W : World} {l : List Et} {cs : List Value} (h : Enc W l cs) (j : Nat) (hj : j < l.length) : ∃ v, cs[j * 3 + 2]? = some v ∧ LnA W v (l[j]).lns := by
  obtain ⟨v, _, _, c, d⟩ := h.at j hj
  exact ⟨v, c, d⟩
theorem EGr.set {W : World} {B : Nat} {w : World} {v u : Value} {l : List Et} {p i : Nat} (a : EGr W B w v l) (hp : p < B) : EGr W B (w.setCell ⟨p, i, none⟩ u) v l := by
  obtain ⟨cs, e, a⟩ := a
  refine ⟨cs, e, a.1, ?_⟩
  rcases a.2 with h | ⟨b, cap, cur, rfl, hb, hh, hr⟩
  · exact .inl h
  · refine .inr ⟨b, cap, cur, rfl, hb, ?_, hr⟩
    show (w.heap.modify p _)[b]? = _
    rw [Array.getElem?_modify, if_neg (by omega)]
    exact hh
/-! An append beside a book's box that is read and one that is written. -/
structure OSt (W0 w : World) (px gy : Nat) (qx q2 : BkA) (x y : Bk) (B2 : Nat) (v : Value) (l : List Et) : Prop where
  gr : EGr W0 (px + 1) w v l
  vx : VBk w px qx x
  yb : BBx w gy q2 y
  yf : BkF w B2 q2 y
  kp : Kept W0 w
  ow : ∀ j, v.ownBlock = some j → j < gy ∧ j < B2
  lo : W0.heap.size ≤ px
theorem OSt.later {W0 w w' : World} {px gy : Nat} {qx q2 : BkA} {x y : Bk} {B2 : Nat} {v : Value} {l : List Et} (h : OSt W0 w px gy qx q2 x y B2 v l) (k : Kept w w') : OSt W0 w' px gy qx q2 x y B2 v l :=
  ⟨h.gr.later k, h.vx.later k, h.yb.later k, h.yf.later k, h.kp.trans k, h.ow, h.lo⟩
structure OSt2 (W0 w : World) (px gy : Nat) (qx q2 : BkA) (x y : Bk) (B2 : Nat) (v : Value) (l : List Et) : Prop where
  gr : EGr W0 (px + 1) w v l
  vx : VBk w px qx x
  yb : BBx w gy q2 y
  yf : BkF w B2 q2 y
  kp : Kept W0 w
theorem BBx.grown {w w' : World} {p : Nat} {q : BkA} {b : Bk} {o : Option Nat} (h : BBx w p q b) (g : w.grownBy w' o) (hne : o ≠ some p) : BBx w' p q b := by
  obtain ⟨a, c0, c1, c2⟩ := h
  have hn : some p ≠ o := fun e => hne e.symm
  exact ⟨Nat.lt_of_lt_of_le a g.size, g.cell c0 hn, g.cell c1 hn, g.cell c2 hn⟩
theorem OSt.grown {W0 w w' : World} {px gy : Nat} {qx q2 : BkA} {x y : Bk} {B2 : Nat} {v v' : Value} {l l' : List Et} (h : OSt W0 w px gy qx q2 x y B2 v l) (g : w.grownBy w' v.ownBlock) (e : EGr W0 (px + 1) w' v' l') : OSt2 W0 w' px gy qx q2 x y B2 v' l' :=
  ⟨e, h.vx.grown g fun e => by have := (h.gr.lt _ e).1; omega, h.yb.grown g fun e => by have := (h.ow _ e).1; omega, h.yf.same (Same.grown g fun j e => (h.ow j e).2),
    Below.grown h.kp g h.kp.size fun j e => by have := (h.gr.lt j e).1; have := h.lo; omega⟩
/-- One entry appended, as a step of a region that draws. -/
theorem step_en {ops : Array Oper} {o : Oper} {a : Act} {K : Act → World → Prop} {Q : Exit → Act → World → Prop} {E : Prop} {W0 Y W : World} {px gy hb : Nat} {qx q2 : BkA} {x y : Bk} {B2 : Nat} {v va : Value} {l : List Et} {z : Et} (hgd : o.guard = none) (s t : Operand)
    (ho : o.op = .call { callee := .builtin .append, args := #[s, t], argTypes := #[23, 23] }) (hs : a.eval s = v) (hx : a.eval t = .slice (some ⟨hb, 0, none⟩) 1 1)
    (hS : OSt W0 Y px gy qx q2 x y B2 v l) (hKW : Kept Y W) (hL : LnA W0 va z.lns) (n0 : W.cell? ⟨hb, 0, none⟩ = some (.string z.key)) (n1 : W.cell? ⟨hb, 1, none⟩ = some (.int .i64 z.day)) (n2 : W.cell? ⟨hb, 2, none⟩ = some va) (hm : l.length + 1 ≤ 1000000)
    (h : ∀ v' w1, OSt2 W0 w1 px gy qx q2 x y B2 v' (l ++ [z]) → K (a.put o.dst v') w1) :
    if Region.wanted o (yielded ops a.tmps) = true then Oper.wp Try.prog o a W K Q else E := by
  have hW := hS.later hKW
  have hw : Region.wanted o (yielded ops a.tmps) = true := by simp [Region.wanted, hgd]
  rw [if_pos hw]
  obtain ⟨v', w', hr, h2, h3⟩ := run_append_en W o.type hW.gr hL n0 n1 n2 hm (by have := hW.vx.box.lt; omega)
  unfold Oper.wp execOp
  simp only [ho, resolve, invoke, builtin, Sem.run_bind, Sem.run_pure, Result.andThen_ok, List.map_toArray, List.map_cons, List.map_nil, hs, hx, hr]
  exact h v' w' (hW.grown h3 h2)
end Go.Proofs.Ytklbikifcebckaa
