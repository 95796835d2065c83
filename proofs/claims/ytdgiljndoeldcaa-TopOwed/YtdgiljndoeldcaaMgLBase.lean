import Derived.Test.YtdgiljndoeldcaaMgUMath
/-
  A slice that came in; a box that a closure has captured; sums. No condition but those that each theorem names.
-/
namespace Go.Proofs.Ytdgiljndoeldcaa
open Go.RowKit

/-- A slice that came in: none, or a row. -/
def Arg (w : World) (a : Option Addr) (n : Nat) (wt : Nat → Int) : Prop := n = 0 ∨ ∃ p off, a = some ⟨p, off, none⟩ ∧ Rd w p off (tab n wt)
theorem Arg.at {w : World} {a : Option Addr} {n : Nat} {wt : Nat → Int} (h : Arg w a n wt) (hn : 0 < n) : ∃ p off, a = some ⟨p, off, none⟩ ∧ Rd w p off (tab n wt) := by
  rcases h with h | h
  · omega
  · exact h
theorem Arg.later {w w' : World} {a : Option Addr} {n : Nat} {wt : Nat → Int} (h : Arg w a n wt) (k : Kept w w') : Arg w' a n wt := by
  rcases h with h | ⟨p, off, e, hR⟩
  · exact .inl h
  · exact .inr ⟨p, off, e, hR.later k⟩
theorem Arg.of {w : World} {p off n : Nat} {wt : Nat → Int} (h : Rd w p off (tab n wt)) : Arg w (some ⟨p, off, none⟩) n wt := .inr ⟨p, off, rfl, h⟩
/-- A box. -/
structure SlBox (w : World) (bx : Nat) (v : Value) : Prop where
  lt : bx < w.heap.size
  cell : w.cell? ⟨bx, 0, none⟩ = some v
theorem SlBox.new {w : World} {p : Nat} {v : Value} {t : TypeId} (hp : w.heap.size = p) : SlBox (w.alloc (.cells #[v] t)) p v := by
  subst hp; exact ⟨by simp, by simp⟩
theorem SlBox.later {w w' : World} {p : Nat} {v : Value} (h : SlBox w p v) (k : Kept w w') : SlBox w' p v := ⟨Nat.lt_of_lt_of_le h.lt k.le, (k.rd.1 _ _ h.lt).trans h.cell⟩
theorem SlBox.drew {w : World} {bx : Nat} {v : Value} (h : SlBox w bx v) : SlBox w.drew bx v := ⟨h.lt, h.cell⟩
theorem sum_nonneg (wt : Nat → Int) (n : Nat) (h : ∀ i, i < n → 0 ≤ wt i) : 0 ≤ sumTo wt n := by
  induction n with
  | zero => simp [sumTo]
  | succ n ih => have a := ih (fun i hi => h i (by omega)); have b := h n (by omega); rw [sumTo]; omega
theorem sum_le (wt : Nat → Int) (n : Nat) (M : Int) (h : ∀ i, i < n → wt i ≤ M) : sumTo wt n ≤ M * n := by
  induction n with
  | zero => simp [sumTo]
  | succ n ih =>
    have a := ih (fun i hi => h i (by omega)); have b := h n (by omega)
    rw [sumTo, show ((n + 1 : Nat) : Int) = (n : Int) + 1 by omega, Int.mul_add]; omega

end Go.Proofs.Ytdgiljndoeldcaa

/-
  What the end-to-end tests' sum returns; a book in a box that is written. No condition but those that each theorem names.
-/
namespace Go.Proofs.Ytdgiljndoeldcaa
open Go.RowKit
theorem uv_put {w : World} {p : Nat} {q q' : BkA} {b b' : Bk} (h : VBk w p q b) : VBk (((w.setCell ⟨p, 0, none⟩ (.slice q'.aa b'.acs.length q'.ca)).setCell ⟨p, 1, none⟩ (.slice q'.ae b'.ens.length q'.ce)).setCell ⟨p, 2, none⟩ (.int .i64 b'.shut)) p q' b' := by
  obtain ⟨⟨a, c, d, e⟩, f0, f1, f2⟩ := h
  refine ⟨⟨by simpa using a, ?_, ?_, ?_⟩, ?_, ?_, ?_⟩ <;> go_simp
theorem uv_new {w : World} {p : Nat} (hp : w.heap.size = p) (q : BkA) (b : Bk) : VBk (w.alloc (bkO q b)) p q b := by
  subst hp; exact ⟨BBx.new w q b, by simp, by simp, by simp⟩
/-- Where a loop's book lies: where it lay at W, or in memory of its own from a block on. -/
def BkU (W w : World) (p : Nat) (q : BkA) (b : Bk) : Prop := BkM W q b ∨ ∃ B, p < B ∧ BkF w B q b
theorem BkU.m {W w : World} {p : Nat} {q : BkA} {b : Bk} (h : BkU W w p q b) (k : Kept W w) : BkM w q b := by
  rcases h with h | ⟨B, _, h⟩
  · exact h.later k
  · exact h.m
theorem BkU.later {W w w' : World} {p : Nat} {q : BkA} {b : Bk} (h : BkU W w p q b) (k : Kept w w') : BkU W w' p q b := by
  rcases h with h | ⟨B, hB, h⟩
  · exact .inl h
  · exact .inr ⟨B, hB, h.later k⟩
end Go.Proofs.Ytdgiljndoeldcaa

/-
  Entries that are made by numbers and written on: one line more, one amount more, and what a posting makes of them. No condition but those that each theorem names.
-/
namespace Go.Proofs.Ytdgiljndoeldcaa
open Go.RowKit Go.WideShapes
set_option linter.unusedVariables false

/-- A line appended to a full row of lines: a new row, which may be written. -/
theorem app_full {w : World} {ops : Array Oper} {rest : List Oper} {o : Oper} {a : Act} {Q : Exit → Act → World → Prop} (hgd : o.guard = none) (s x : Operand)
    (ho : o.op = .call { callee := .builtin .append, args := #[s, x], argTypes := #[62, 62] }) {p hb n : Nat} {l : List Pr} {z : Pr}
    (hs : a.eval s = .slice (some ⟨p, 0, none⟩) n n) (hx : a.eval x = .slice (some ⟨hb, 0, none⟩) 1 1) (hl : l.length = n) (hR : PRow w p 0 l) (c0 : w.cell? ⟨hb, 0, none⟩ = some (.string z.1)) (c1 : w.cell? ⟨hb, 1, none⟩ = some (.int .i64 z.2)) (hn : n ≤ 1000)
    (h : ∀ q c w', POwn w' q (l ++ [z]) → w.heap.size ≤ q → n + 1 ≤ c → c ≤ maxLen → Kept w w' → wpList Try.prog ops Q rest (a.put o.dst (.slice (some ⟨q, 0, none⟩) (n + 1) c)) w') : wpList Try.prog ops Q (o :: rest) a w := by
  subst hl
  obtain ⟨i0, hi, hz0, hz1, hz2⟩ := info_parts pairLine
  refine wpList_append_grows w hgd s x 62 ho 97 i0 _ 2 24 Try.underlying62 hi hz0 hz1 hz2 rfl (by decide) (some ⟨p, 0, none⟩) l.length l.length (pcs l) hs (fun h => by cases h) (pcs_len l) ?_ ⟨hb, 0, none⟩ 1 1 (pc z) hx rfl ?_ (pc_one z) (by omega) (by unfold maxLen; omega) (by omega) ?_
  · intro b hb2 j u hj
    cases hb2
    have hlt := (List.getElem?_eq_some_iff.1 hj).1
    rw [pcs_len] at hlt
    have g := pcs_get l (j / 2) (by omega)
    rcases (show j = j / 2 * 2 ∨ j = j / 2 * 2 + 1 by omega) with e | e
    · have c := hR.c0 (j / 2) (by omega)
      rw [e] at hj ⊢
      rw [g.1] at hj
      rw [add_plain, c, hj]
    · have c := hR.c1 (j / 2) (by omega)
      rw [e] at hj ⊢
      rw [g.2] at hj
      rw [add_plain, ← Nat.add_assoc, c, hj]
  · intro j u hj
    match j, hj with
    | 0, hj => simp [pc] at hj; subst hj; simpa [Addr.add] using c0
    | 1, hj => simp [pc] at hj; subst hj; simpa [Addr.add] using c1
    | k + 2, hj => simp [pc] at hj
  · intro v' w' hO hG
    have hK := Below.grown (Kept.refl w) hG (Nat.le_refl _) (fun j e => by cases e)
    rcases hO.2 with ⟨_, h0⟩ | ⟨q, c, cur, rfl, hq, hh, hc1, hc2, _⟩
    · omega
    · refine h q c w' ⟨⟨(Array.getElem?_eq_some_iff.1 hh).1, fun j hj => ?_, fun j hj => ?_⟩, fun o ho => hO.frozenAt o⟩ hq hc1 hc2 hK
      · rw [Nat.zero_add, hO.cellAt (j * 2) (by simp at hj; omega)]
        have := (pcs_get (l ++ [z]) j hj).1
        rw [pcs_append, show pcs [z] = pc z by simp [pcs]] at this
        exact this
      · rw [Nat.zero_add, hO.cellAt (j * 2 + 1) (by simp at hj; omega)]
        have := (pcs_get (l ++ [z]) j hj).2
        rw [pcs_append, show pcs [z] = pc z by simp [pcs]] at this
        exact this
/-- A written box, and another one. -/
theorem EBx.otherU {w : World} {p r i : Nat} {k : ByteArray} {d : Int} {v u : Value} (h : EBx w p k d v) (hr : r ≠ p) : EBx (w.setCell ⟨r, i, none⟩ u) p k d v := by
  obtain ⟨h0, h1, h2, h3⟩ := h
  have hr' : p ≠ r := fun e => hr e.symm
  exact ⟨by simpa using h0, by go_simp, by go_simp, by go_simp⟩
theorem WBx.set2U {w : World} {p : Nat} {k : ByteArray} {d : Int} {v u : Value} (h : WBx w p k d v) : WBx (w.setCell ⟨p, 2, none⟩ u) p k d u := by
  obtain ⟨⟨h0, h1, h2, h3⟩, f0, f1, f2⟩ := h
  exact ⟨⟨by simpa using h0, by go_simp, by go_simp, by go_simp⟩, by go_simp, by go_simp, by go_simp⟩
/-- One amount written. -/
theorem POwn.amt {w : World} {p : Nat} {l : List Pr} (h : POwn w p l) (i : Nat) (z : Int) (hi : i < l.length) : POwn (w.setCell ⟨p, i * 2 + 1, none⟩ (.int .i64 z)) p (l.set i ((l[i]).1, z)) := by
  have hc1 := h.row.c1 i hi
  rw [Nat.zero_add] at hc1
  refine ⟨⟨by simpa using h.row.lt, fun j hj => ?_, fun j hj => ?_⟩, fun o ho => ?_⟩
  · rw [List.length_set] at hj
    have hcj := h.row.c0 j hj
    rw [Nat.zero_add] at hcj ⊢
    have e1 : j * 2 ≠ i * 2 + 1 := by omega
    by_cases e : i = j
    · subst e
      rw [List.getElem_set_self]
      go_simp
    · rw [List.getElem_set_ne e]
      go_simp
  · rw [List.length_set] at hj
    have hcj := h.row.c1 j hj
    rw [Nat.zero_add] at hcj ⊢
    by_cases e : i = j
    · subst e
      rw [List.getElem_set_self]
      go_simp
    · rw [List.getElem_set_ne e]
      have e2 : j * 2 + 1 ≠ i * 2 + 1 := by omega
      go_simp
  · rw [List.length_set] at ho
    have hf := h.free o ho
    go_simp
/-- Such an entry posted. -/
theorem ky_post {k n : Nat} {d : Int} {l : List Pr} {q : BkA} {b : Bk} {p c : Nat} {w : World} (hM : BkM w q b) (hk : k < 200) (hl : l.length = n) (hn : n ≤ 12) (hO : POwn w p l) (hs : ∀ x ∈ l, hasB x.1 topL = true) (h1 : n ≤ c) (h2 : c ≤ maxLen) (ok : poE b ⟨kyS k, d, l⟩ = 0) :
    Calls Try.prog 34 #[bkV q b, .agg #[.string (kyS k), .int .i64 d, .slice (some ⟨p, 0, none⟩) n c]] w (BkYes w (poV b ⟨kyS k, d, l⟩)) := by
  subst hl
  refine post_yes q b ⟨kyS k, d, l⟩ (some ⟨p, 0, none⟩) c w hM ⟨?_, ?_, .inr ⟨p, 0, rfl, hO.row⟩, fun x hx => ?_, h1, h2⟩ ok
  · have := kyS_size k hk; unfold maxLen; simp only []; omega
  · unfold maxLen; simp only []; omega
  · have h := hs x hx
    have : ∀ y ∈ topL, y.1.size ≤ 2 := by decide +kernel
    obtain ⟨y, hy, e⟩ := hasB_iff.1 h
    have := this y hy
    rw [e] at this
    unfold maxLen; omega
end Go.Proofs.Ytdgiljndoeldcaa

/-
  Bills and payments in the books: what is posted, and what the receivables hold of it. No condition but those that each theorem names.
-/
namespace Go.Proofs.Ytdgiljndoeldcaa
open Go.RowKit
set_option linter.unusedVariables false

set_option maxHeartbeats 1000000 in
theorem moved_big (n : Nat) (d a : Int) (tc fr : ByteArray) (w : World) (h : n < 200) (a1 : -1000000000000000 ≤ a) (a2 : a ≤ 1000000000000000) :
    Calls Try.prog 35 #[.int .i64 n, .int .i64 d, .int .i64 a, .string tc, .string fr] w (MvPost w (kyS n) d (mvL tc fr a)) := by
  have wr1 : IntKind.i64.wrap (-a) = -a := IntWalk.i64_in _ (by omega)
  go_enter Try.func35, Try.ntmps35
  go_wp2_with fail
  refine (tkey_any n _ h).mono ?_
  rintro e w1 ⟨rfl, rfl⟩
  have hO := Lib.hid (mv_own (w.alloc (.cells #[.string (kyS n), .int .i64 d, .slice (some ⟨w.heap.size + 1, 0, none⟩) 2 2] 64)) (w.heap.size + 1) 97 (tc, a) (fr, -a) (by simp))
  go_wp2
  exact bodyPost_ret (v := enV (kyS n) d (some ⟨w.heap.size + 1, 0, none⟩) 2 2) (by simp [results, Try.results35, go_sem]) rfl ⟨w.heap.size + 1, by omega, rfl, hO.out, ((Kept.refl w).alloc _).alloc _⟩
theorem isB_selfK (c : ByteArray) (a : Int) : isB c (c, a) = true := isB_iff.2 rfl
theorem isB_notK {c d : ByteArray} (h : d ≠ c) (a : Int) : isB c (d, a) = false := by
  cases e : isB c (d, a)
  · rfl
  · exact absurd (isB_iff.1 e) h
theorem ow_bill (a : Int) : codeS c15 (mvL c15 c40 a) = a := by
  have b1 : ∀ a, isB c15 (c15, a) = true := isB_selfK _
  have b2 : ∀ a, isB c15 (c40, a) = false := isB_notK (by decide)
  unfold mvL
  simp [codeS, b1, b2]
theorem ow_paid (a : Int) : codeS c15 (mvL c10 c15 a) = -a := by
  have b1 : ∀ a, isB c15 (c15, a) = true := isB_selfK _
  have b2 : ∀ a, isB c15 (c10, a) = false := isB_notK (by decide)
  unfold mvL
  simp [codeS, b1, b2]
/-- What the receivables hold. -/
structure OwSt (b : Bk) (i : Int) : Prop where
  inv : balS c15 292193 b.ens = i
theorem OwSt.new : OwSt topB 0 := ⟨by decide +kernel⟩
theorem OwSt.bill {b : Bk} {i d c : Int} {P : Nat → Prop} {m j : Nat} (h : OwSt b i) (hT : Tp b P m) (hj : j < 200) (hp : ¬ P j) (hm : m < 60) (d0 : 0 ≤ d) (d1 : d ≤ 292193) (c1 : 1 ≤ c) (c2 : c ≤ 1000000000000) :
    poE b ⟨kyS j, d, mvL c15 c40 c⟩ = 0 ∧ Tp (poV b ⟨kyS j, d, mvL c15 c40 c⟩) (fun n => P n ∨ n = j) (m + 1) ∧ OwSt (poV b ⟨kyS j, d, mvL c15 c40 c⟩) (i + c) := by
  obtain ⟨ok, ev, tp⟩ := hT.post (n := j) (d := d) (l := mvL c15 c40 c) hj hp hm d0 d1 (mvL_ok (by decide +kernel) (by decide +kernel) (by decide) (by decide +kernel) (by decide +kernel) (by omega) (by omega) (by omega))
  refine ⟨ok, tp, ?_⟩
  rw [ev]
  refine ⟨?_⟩
  simp only [balS_ins]; rw [if_pos d1, ow_bill, h.inv] <;> omega
theorem OwSt.paid {b : Bk} {i d c : Int} {P : Nat → Prop} {m j : Nat} (h : OwSt b i) (hT : Tp b P m) (hj : j < 200) (hp : ¬ P j) (hm : m < 60) (d0 : 0 ≤ d) (d1 : d ≤ 292193) (c1 : 1 ≤ c) (c2 : c ≤ 1000000000000) :
    poE b ⟨kyS j, d, mvL c10 c15 c⟩ = 0 ∧ Tp (poV b ⟨kyS j, d, mvL c10 c15 c⟩) (fun n => P n ∨ n = j) (m + 1) ∧ OwSt (poV b ⟨kyS j, d, mvL c10 c15 c⟩) (i - c) := by
  obtain ⟨ok, ev, tp⟩ := hT.post (n := j) (d := d) (l := mvL c10 c15 c) hj hp hm d0 d1 (mvL_ok (by decide +kernel) (by decide +kernel) (by decide) (by decide +kernel) (by decide +kernel) (by omega) (by omega) (by omega))
  refine ⟨ok, tp, ?_⟩
  rw [ev]
  refine ⟨?_⟩
  simp only [balS_ins]; rw [if_pos d1, ow_paid, h.inv] <;> omega
/-- One payment: what is left open. -/
theorem ow_pay {l : List Mv} (ok : ItOk l) {n : Int} (h0 : 0 ≤ n) : ItOk (payL (srtD l) n) ∧ csm (payL (srtD l) n) = csm l - (n - payR (srtD l) n) ∧ 0 ≤ payR (srtD l) n ∧ payR (srtD l) n ≤ n ∧ (payL (srtD l) n).length ≤ l.length := by
  have ok2 := ok.perm (srtD_perm l).symm
  obtain ⟨a, b⟩ := pay_it (n := n) ok2.it h0
  obtain ⟨c1, c2, c3, _⟩ := pay_sum (l := srtD l) (n := n) (fun x hx => (ok2.it x hx).2.2.1) h0
  rw [csm_perm (srtD_perm l)] at c1
  rw [(srtD_perm l).length_eq] at b
  exact ⟨⟨by have := ok.len; omega, a⟩, c1, c2, c3, b⟩
theorem ow_take {l : List Mv} (ok : ItOk l) (k : Nat) : ItOk (l.take k) := ⟨by have := ok.len; rw [List.length_take]; omega, fun x hx => ok.it x (List.mem_of_mem_take hx)⟩
theorem JArg.front {α : Type} {E : Jec α} {w : World} {a : Option Addr} {l : List α} (k : Nat) (h : JArg E w a l) : JArg E w a (l.take k) := by
  rcases h with h | ⟨p, off, e, h⟩
  · exact .inl (by rw [h]; simp)
  · refine .inr ⟨p, off, e, h.lt, fun j u hj => h.c j u ?_⟩
    have hlt := (List.getElem?_eq_some_iff.1 hj).1
    rw [← List.take_append_drop k l, E.cat_append, List.getElem?_append_left hlt]; exact hj
theorem Kept.undrew {a b : World} (h : Kept a.drew b) : Kept a b := ⟨h.os, h.tape, h.output, h.size, h.block⟩
/-- A book that was posted, in a box and in memory of its own. -/
def PoBoxF (w : World) (b : Bk) (v : Value) (er : Value) (wx : World) : Prop := ∃ g q, v = .pointer (some ⟨g, 0, none⟩) ∧ er = .int .i64 0 ∧ w.heap.size ≤ g ∧ BBx wx g q b ∧ BkF wx w.heap.size q b ∧ Kept w wx
theorem vbk_box {w w' : World} (k : Kept (w.alloc noBk) w') : VBk w' w.heap.size noA noB := (VBk.none w _ rfl).later k
/-- The box is filled. -/
theorem vbk_fill {w : World} {g : Nat} {q0 : BkA} {b0 : Bk} (h : VBk w g q0 b0) (q : BkA) (b : Bk) : BBx (((w.setCell ⟨g, 0, none⟩ (.slice q.aa b.acs.length q.ca)).setCell ⟨g, 1, none⟩ (.slice q.ae b.ens.length q.ce)).setCell ⟨g, 2, none⟩ (.int .i64 b.shut)) g q b := by
  obtain ⟨⟨h0, h1, h2, h3⟩, _, _, _⟩ := h
  refine ⟨by simpa using h0, ?_, ?_, ?_⟩ <;> go_simp
theorem BBx.newAt {w : World} {p : Nat} (hp : w.heap.size = p) (q : BkA) (b : Bk) : BBx (w.alloc (bkO q b)) p q b := hp ▸ BBx.new w q b
end Go.Proofs.Ytdgiljndoeldcaa
