/-
  A row of a loan's periods (three numbers each) that grows by append. No condition but those that each theorem names.
-/
import Derived.Test.YtjfflnkocajkeaaKMath
import Derived.ArgAppend
import Derived.OneCell
import Derived.Laws.OwnMore
namespace Go.Proofs.Ytjfflnkocajkeaa
open Go.RowKit Go.WideShapes

/-- A period's three cells. -/
def ren (R : Rw) (j : Nat) : List Value := [.int .i64 (R.i j), .int .i64 (R.o j), .int .i64 (R.l j)]
theorem ren_len (R : Rw) (j : Nat) : (ren R j).length = 3 := rfl
def rlist (R : Rw) : Nat → List Value
  | 0 => []
  | m + 1 => rlist R m ++ ren R m
theorem rlist_len (R : Rw) (m : Nat) : (rlist R m).length = m * 3 := by
  induction m with
  | zero => rfl
  | succ m ih => rw [rlist, List.length_append, ih, ren_len]; omega
theorem rlist_get (R : Rw) (m q r : Nat) (hq : q < m) (hr : r < 3) : (rlist R m)[q * 3 + r]? = (ren R q)[r]? := by
  induction m with
  | zero => omega
  | succ m ih =>
    rw [rlist]
    by_cases e : q = m
    · subst e
      rw [List.getElem?_append_right (by rw [rlist_len]; omega), rlist_len, show q * 3 + r - q * 3 = r by omega]
    · rw [List.getElem?_append_left (by rw [rlist_len]; omega)]
      exact ih (by omega)
/-- The same numbers so far. -/
def Rw.Same (R S : Rw) (n : Nat) : Prop := ∀ j, j < n → R.i j = S.i j ∧ R.o j = S.o j ∧ R.l j = S.l j
theorem rlist_same {R S : Rw} : ∀ {n : Nat}, R.Same S n → rlist R n = rlist S n
  | 0, _ => rfl
  | n + 1, h => by
    rw [rlist, rlist, rlist_same (n := n) (fun j hj => h j (by omega))]
    obtain ⟨a, b, c⟩ := h n (by omega)
    unfold ren; rw [a, b, c]
/-- The row that grows. -/
structure RGr (B : Nat) (w : World) (v : Value) (n : Nat) (R : Rw) : Prop where
  own : w.ownsRow B 65 3 v n (rlist R n)
theorem RGr.nil (B : Nat) (w : World) (R : Rw) : RGr B w (.slice none 0 0) 0 R := ⟨World.ownsRow_nil _ _ _ _⟩
theorem RGr.congr {B n : Nat} {w : World} {v : Value} {R S : Rw} (h : RGr B w v n R) (e : R.Same S n) : RGr B w v n S := ⟨by rw [← rlist_same e]; exact h.own⟩
theorem RGr.alloc {B n : Nat} {w : World} {v : Value} {R : Rw} (a : RGr B w v n R) (o : Obj) : RGr B (w.alloc o) v n R := ⟨a.own.alloc o⟩
theorem RGr.later {B n : Nat} {w w' : World} {v : Value} {R : Rw} (a : RGr B w v n R) (k : Kept w w') : RGr B w' v n R := by
  refine ⟨a.own.1, ?_⟩
  rcases a.own.2 with h | ⟨b, cap, cur, rfl, hb, hh, hr⟩
  · exact .inl h
  · exact .inr ⟨b, cap, cur, rfl, hb, (k.block b (Array.getElem?_eq_some_iff.1 hh).1).trans hh, hr⟩
theorem RGr.below {A w w' : World} {B n : Nat} {v : Value} {R : Rw} (a : RGr B w v n R) (hB : A.heap.size ≤ B) (k : Kept A w) (hg : w.grownBy w' v.ownBlock) : Kept A w' :=
  Below.grown k hg k.size (fun j e => by have := a.own.lt j e; omega)
/-- Where it lies. -/
theorem RGr.form {B n : Nat} {w : World} {v : Value} {R : Rw} (h : RGr B w v n R) : ∃ a c, v = .slice a n c := by
  rcases h.own.2 with ⟨e, h0⟩ | ⟨q, c, _, e, _⟩
  · exact ⟨none, 0, by rw [e, h0]⟩
  · exact ⟨_, c, e⟩
theorem RGr.at {B n : Nat} {w : World} {v : Value} {R : Rw} (h : RGr B w v n R) (n1 : 1 ≤ n) : ∃ q c, v = .slice (some ⟨q, 0, none⟩) n c ∧ B ≤ q ∧ n ≤ c := by
  rcases h.own.2 with ⟨_, h0⟩ | ⟨q, c, _, e, hb, _, hc, _⟩
  · omega
  · exact ⟨q, c, e, hb, hc⟩
/-- A row of periods that is read. -/
structure RRd (w : World) (p n : Nat) (R : Rw) : Prop where
  lt : p < w.heap.size
  c0 : ∀ j, j < n → w.cell? ⟨p, j * 3, none⟩ = some (.int .i64 (R.i j))
  c1 : ∀ j, j < n → w.cell? ⟨p, j * 3 + 1, none⟩ = some (.int .i64 (R.o j))
  c2 : ∀ j, j < n → w.cell? ⟨p, j * 3 + 2, none⟩ = some (.int .i64 (R.l j))
theorem RRd.later {w w' : World} {p n : Nat} {R : Rw} (h : RRd w p n R) (k : Kept w w') : RRd w' p n R :=
  ⟨Nat.lt_of_lt_of_le h.lt k.le, fun j hj => (k.rd.1 _ _ h.lt).trans (h.c0 j hj), fun j hj => (k.rd.1 _ _ h.lt).trans (h.c1 j hj), fun j hj => (k.rd.1 _ _ h.lt).trans (h.c2 j hj)⟩
theorem RGr.rd {B p n c : Nat} {w : World} {R : Rw} (h : RGr B w (.slice (some ⟨p, 0, none⟩) n c) n R) : RRd w p n R := by
  refine ⟨(h.own.lt p rfl).2, fun j hj => ?_, fun j hj => ?_, fun j hj => ?_⟩
  · have := h.own.cellAt (j * 3) (by omega)
    rw [this, show j * 3 = j * 3 + 0 by omega, rlist_get R n j 0 hj (by omega)]; rfl
  · rw [h.own.cellAt (j * 3 + 1) (by omega), rlist_get R n j 1 hj (by omega)]; rfl
  · rw [h.own.cellAt (j * 3 + 2) (by omega), rlist_get R n j 2 hj (by omega)]; rfl
/-- A row that came back: none, or a row. -/
def RArg (w : World) (a : Option Addr) (n : Nat) (R : Rw) : Prop := n = 0 ∨ ∃ p, a = some ⟨p, 0, none⟩ ∧ RRd w p n R
theorem RArg.at {w : World} {a : Option Addr} {n : Nat} {R : Rw} (h : RArg w a n R) (n1 : 0 < n) : ∃ p, a = some ⟨p, 0, none⟩ ∧ RRd w p n R := by
  rcases h with h | h
  · omega
  · exact h
theorem RArg.later {w w' : World} {a : Option Addr} {n : Nat} {R : Rw} (h : RArg w a n R) (k : Kept w w') : RArg w' a n R := by
  rcases h with h | ⟨p, e, hR⟩
  · exact .inl h
  · exact .inr ⟨p, e, hR.later k⟩
theorem RGr.arg {B n c : Nat} {w : World} {a : Option Addr} {R : Rw} (h : RGr B w (.slice a n c) n R) : RArg w a n R := by
  by_cases n1 : 1 ≤ n
  · obtain ⟨q, c', e, _⟩ := h.at n1
    injection e with e1 _ _
    subst e1
    exact .inr ⟨q, rfl, h.rd⟩
  · exact .inl (by omega)

theorem infoRw_map : (Try.prog.info? 65).map (fun i => (i.zero, i.size, i.bytes)) = some (some (.agg #[.int .i64 0, .int .i64 0, .int .i64 0]), 3, 24) := by kernel_rfl
theorem infoRw_get : ∃ i, Try.prog.info? 65 = some i ∧ i.zero = some (.agg #[.int .i64 0, .int .i64 0, .int .i64 0]) ∧ i.size = 3 ∧ i.bytes = 24 := by
  have h := infoRw_map
  cases e : Try.prog.info? 65 with
  | none => rw [e] at h; simp at h
  | some i => rw [e] at h; simp at h; exact ⟨i, rfl, h.1, h.2.1, h.2.2⟩
noncomputable def infoRw : TypeInfo := infoRw_get.choose
theorem infoRw_is : Try.prog.info? 65 = some infoRw := infoRw_get.choose_spec.1
theorem sizeRw : infoRw.size = 3 := infoRw_get.choose_spec.2.2.1
theorem zeroRw : infoRw.zero = some (.agg #[.int .i64 0, .int .i64 0, .int .i64 0]) := infoRw_get.choose_spec.2.1
theorem bytesRw : infoRw.bytes = 24 := infoRw_get.choose_spec.2.2.2
theorem ren_one (R : Rw) (j : Nat) : ∀ v ∈ ren R j, v.oneCell' = true := by
  intro v hv
  simp [ren] at hv
  rcases hv with rfl | rfl | rfl <;> rfl
theorem rlist_one (R : Rw) : ∀ n, ∀ v ∈ rlist R n, v.oneCell' = true
  | 0, v, hv => by simp [rlist] at hv
  | n + 1, v, hv => by
    rw [rlist, List.mem_append] at hv
    rcases hv with hv | hv
    · exact rlist_one R n v hv
    · exact ren_one R n v hv
/-- One period appended. -/
theorem run_rappend (w : World) {B n hb : Nat} {v : Value} {R : Rw} (ty : TypeId) (a : RGr B w v n R) (c0 : w.cell? ⟨hb, 0, none⟩ = some (.int .i64 (R.i n))) (c1 : w.cell? ⟨hb, 1, none⟩ = some (.int .i64 (R.o n))) (c2 : w.cell? ⟨hb, 2, none⟩ = some (.int .i64 (R.l n))) (hn : n + 1 ≤ 1000000) (hB : B ≤ w.heap.size) :
    ∃ v' w', (Builtin.append_ #[60, 60] ty #[v, .slice (some ⟨hb, 0, none⟩) 1 1]).run Try.prog w = .ok v' w' ∧ RGr B w' v' (n + 1) R ∧ w.grownBy w' v.ownBlock := by
  have h63 : n + 1 ≤ maxLen := by unfold maxLen; omega
  have hnews : ∀ (j : Nat) (u : Value), (ren R n)[j]? = some u → w.cell? ((⟨hb, 0, none⟩ : Addr).add j) = some u := by
    intro j u hj
    rw [add_plain, Nat.zero_add]
    match j, hj with
    | 0, hj => simp [ren] at hj; subst hj; exact c0
    | 1, hj => simp [ren] at hj; subst hj; exact c1
    | 2, hj => simp [ren] at hj; subst hj; exact c2
    | j + 3, hj => simp [ren] at hj
  obtain ⟨v', w', hr, h2, h3, h4⟩ := run_append_own (P := Try.prog) w B 60 ty 65 infoRw (.agg #[.int .i64 0, .int .i64 0, .int .i64 0]) 3 24 Try.underlying60 infoRw_is zeroRw sizeRw bytesRw rfl (by decide) v n _ a.own ⟨hb, 0, none⟩ 1 1 (ren R n) rfl hnews (ren_one R n) h63 (by omega) hB
  exact ⟨v', w', hr, ⟨h2⟩, h3⟩
theorem rapp_one {w : World} {ops : Array Oper} {rest : List Oper} {o : Oper} {a : Act} {Q : Exit → Act → World → Prop} (hgd : o.guard = none) (s x : Operand)
    (ho : o.op = .call { callee := .builtin .append, args := #[s, x], argTypes := #[60, 60] }) {B n hb : Nat} {v : Value} {R : Rw}
    (hs : a.eval s = v) (hx : a.eval x = .slice (some ⟨hb, 0, none⟩) 1 1) (ha : RGr B w v n R) (c0 : w.cell? ⟨hb, 0, none⟩ = some (.int .i64 (R.i n))) (c1 : w.cell? ⟨hb, 1, none⟩ = some (.int .i64 (R.o n))) (c2 : w.cell? ⟨hb, 2, none⟩ = some (.int .i64 (R.l n))) (hn : n + 1 ≤ 1000000) (hB : B ≤ w.heap.size)
    (h : ∀ v' w', RGr B w' v' (n + 1) R → w.grownBy w' v.ownBlock → wpList Try.prog ops Q rest (a.put o.dst v') w') : wpList Try.prog ops Q (o :: rest) a w := by
  refine wpList_plain hgd fun _ hK => ?_
  obtain ⟨v', w', hr, h2, h3⟩ := run_rappend w o.type ha c0 c1 c2 hn hB
  unfold Oper.wp execOp
  simp only [ho, resolve, invoke, builtin, Sem.run_bind, Sem.run_pure, Result.andThen_ok, List.map_toArray, List.map_cons, List.map_nil, hs, hx, hr]
  exact hK _ _ (h v' w' h2 h3)
/-- One period and others behind it. -/
def rcons (i o l : Int) (R : Rw) : Rw := ⟨fun j => if j = 0 then i else R.i (j - 1), fun j => if j = 0 then o else R.o (j - 1), fun j => if j = 0 then l else R.l (j - 1)⟩
theorem rlist_cons (i o l : Int) (R : Rw) : ∀ n, rlist (rcons i o l R) (n + 1) = ren (rcons i o l R) 0 ++ rlist R n
  | 0 => by simp [rlist]
  | n + 1 => by
    rw [rlist, rlist_cons i o l R n, rlist, List.append_assoc]
    congr 1
theorem run_rcons (w : World) {B B' n hb : Nat} {u : Value} {R : Rw} {i o l : Int} (ty : TypeId) (a : RGr B w (.slice (some ⟨hb, 0, none⟩) 1 1) 1 (rcons i o l R)) (hR : RGr B' w u n R) (hn : n ≤ 100000) (hB : B ≤ w.heap.size) :
    ∃ v' w', (Builtin.append_ #[60, 60] ty #[.slice (some ⟨hb, 0, none⟩) 1 1, u]).run Try.prog w = .ok v' w' ∧ RGr B w' v' (n + 1) (rcons i o l R) ∧ w.grownBy w' (some hb) := by
  rcases hR.own.2 with ⟨rfl, rfl⟩ | ⟨q, c, cur, rfl, hb', hh, hnc, hr⟩
  · exact ⟨_, w, run_append_owned_none w B 60 ty 65 infoRw 3 Try.underlying60 infoRw_is _ 1 _ a.own, a, ⟨rfl, rfl, rfl, Nat.le_refl _, fun _ _ _ => rfl⟩⟩
  · have h63 : 1 + n ≤ maxLen := by unfold maxLen; omega
    obtain ⟨v', w', hrn, h2, h3, _⟩ := run_append_own (P := Try.prog) w B 60 ty 65 infoRw (.agg #[.int .i64 0, .int .i64 0, .int .i64 0]) 3 24 Try.underlying60 infoRw_is zeroRw sizeRw bytesRw rfl (by decide) _ 1 _ a.own ⟨q, 0, none⟩ n c (rlist R n) (rlist_len R n) (hR.own.cells (g := q) rfl) (rlist_one R n) h63 (by omega) hB
    refine ⟨v', w', hrn, ⟨?_⟩, h3⟩
    rw [rlist_cons, Nat.add_comm]
    exact h2
theorem rapp_cons {w : World} {ops : Array Oper} {rest : List Oper} {o : Oper} {a : Act} {Q : Exit → Act → World → Prop} (hgd : o.guard = none) (s x : Operand)
    (ho : o.op = .call { callee := .builtin .append, args := #[s, x], argTypes := #[60, 60] }) {B B' n hb : Nat} {u : Value} {R : Rw} {i f l : Int}
    (hs : a.eval s = .slice (some ⟨hb, 0, none⟩) 1 1) (hx : a.eval x = u) (ha : RGr B w (.slice (some ⟨hb, 0, none⟩) 1 1) 1 (rcons i f l R)) (hR : RGr B' w u n R) (hn : n ≤ 100000) (hB : B ≤ w.heap.size)
    (h : ∀ v' w', RGr B w' v' (n + 1) (rcons i f l R) → w.grownBy w' (some hb) → wpList Try.prog ops Q rest (a.put o.dst v') w') : wpList Try.prog ops Q (o :: rest) a w := by
  refine wpList_plain hgd fun _ hK => ?_
  obtain ⟨v', w', hr, h2, h3⟩ := run_rcons w o.type ha hR hn hB
  unfold Oper.wp execOp
  simp only [ho, resolve, invoke, builtin, Sem.run_bind, Sem.run_pure, Result.andThen_ok, List.map_toArray, List.map_cons, List.map_nil, hs, hx, hr]
  exact hK _ _ (h v' w' h2 h3)
theorem RGr.lit (w : World) (R : Rw) : RGr w.heap.size (w.alloc (.cells #[.int .i64 (R.i 0), .int .i64 (R.o 0), .int .i64 (R.l 0)] 65)) (.slice (some ⟨w.heap.size, 0, none⟩) 1 1) 1 R :=
  ⟨by have := World.ownsRow_lit (base := w.heap.size) (e := 65) (size := 3) w #[.int .i64 (R.i 0), .int .i64 (R.o 0), .int .i64 (R.l 0)] 1 (Nat.le_refl _) (by decide) rfl
      simpa [rlist, ren] using this⟩

end Go.Proofs.Ytjfflnkocajkeaa
