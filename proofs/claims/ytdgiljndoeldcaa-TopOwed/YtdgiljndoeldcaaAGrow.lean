/-
  Rows of pairs and rows of texts that grow by append, or are made and written. No condition but those that each theorem names.
-/
import Derived.Test.YtdgiljndoeldcaaAWalkA
import Derived.ArgAppend
import Derived.Laws.OwnMore
namespace Go.Proofs.Ytdgiljndoeldcaa
open Go.RowKit Go.WideShapes

theorem Kept.grownBy {w w' : World} (k : Kept w w') : w.grownBy w' Option.none := ⟨k.os, k.tape, k.output, k.size, fun j hj _ => k.block j hj⟩
/-- A pair's cells. -/
def pc (x : Pr) : List Value := [.string x.1, .int .i64 x.2]
/-- The cells of a row of pairs. -/
def pcs : List Pr → List Value
  | [] => []
  | x :: r => pc x ++ pcs r
theorem pcs_len : ∀ l : List Pr, (pcs l).length = l.length * 2
  | [] => rfl
  | x :: r => by rw [pcs, List.length_append, pcs_len r, List.length_cons]; simp [pc]; omega
theorem pcs_append : ∀ l m : List Pr, pcs (l ++ m) = pcs l ++ pcs m
  | [], m => rfl
  | x :: r, m => by rw [List.cons_append, pcs, pcs_append r m, pcs, List.append_assoc]
theorem pcs_get : ∀ (l : List Pr) (j : Nat) (h : j < l.length), (pcs l)[j * 2]? = some (.string (l[j]).1) ∧ (pcs l)[j * 2 + 1]? = some (.int .i64 (l[j]).2)
  | x :: r, 0, _ => ⟨rfl, rfl⟩
  | x :: r, j + 1, h => by
    obtain ⟨a, b⟩ := pcs_get r j (by simpa using h)
    have e0 : (j + 1) * 2 = j * 2 + 2 := by omega
    have p2 : (pc x).length = 2 := rfl
    rw [pcs, List.getElem?_append_right (by rw [p2]; omega), List.getElem?_append_right (by rw [p2]; omega), p2, e0, show j * 2 + 2 - 2 = j * 2 by omega, show j * 2 + 2 + 1 - 2 = j * 2 + 1 by omega]
    exact ⟨a, b⟩
theorem pc_one (x : Pr) : ∀ v ∈ pc x, v.oneCell' = true := by
  intro v hv
  simp [pc] at hv
  rcases hv with rfl | rfl <;> rfl
theorem pcs_one : ∀ (l : List Pr), ∀ v ∈ pcs l, v.oneCell' = true
  | [], v, h => by simp [pcs] at h
  | x :: r, v, h => by
    rw [pcs, List.mem_append] at h
    rcases h with h | h
    · exact pc_one x v h
    · exact pcs_one r v h
/-- The row of pairs that grows. -/
structure PGr (T : TypeId) (B : Nat) (w : World) (v : Value) (l : List Pr) : Prop where
  own : w.ownsRow B T 2 v l.length (pcs l)
theorem PGr.nil (T : TypeId) (B : Nat) (w : World) : PGr T B w (.slice none 0 0) [] := ⟨World.ownsRow_nil _ _ _ _⟩
theorem PGr.later {T : TypeId} {B : Nat} {w w' : World} {v : Value} {l : List Pr} (a : PGr T B w v l) (k : Kept w w') : PGr T B w' v l := by
  refine ⟨a.own.1, ?_⟩
  rcases a.own.2 with h | ⟨b, cap, cur, rfl, hb, hh, hr⟩
  · exact .inl h
  · exact .inr ⟨b, cap, cur, rfl, hb, (k.block b (Array.getElem?_eq_some_iff.1 hh).1).trans hh, hr⟩
theorem PGr.mono {T : TypeId} {B B' : Nat} {w : World} {v : Value} {l : List Pr} (a : PGr T B w v l) (h : B' ≤ B) : PGr T B' w v l := by
  refine ⟨a.own.1, ?_⟩
  rcases a.own.2 with h | ⟨b, cap, cur, rfl, hb, hr⟩
  · exact .inl h
  · exact .inr ⟨b, cap, cur, rfl, by omega, hr⟩
theorem PGr.below {T : TypeId} {A w w' : World} {B : Nat} {v : Value} {l : List Pr} (a : PGr T B w v l) (hB : A.heap.size ≤ B) (k : Kept A w) (hg : w.grownBy w' v.ownBlock) : Kept A w' :=
  Below.grown k hg k.size (fun j e => by have := a.own.lt j e; omega)
theorem PGr.form {T : TypeId} {B : Nat} {w : World} {v : Value} {l : List Pr} (h : PGr T B w v l) : ∃ a c, v = .slice a l.length c ∧ l.length ≤ c ∧ c ≤ maxLen := by
  rcases h.own.2 with ⟨e, h0⟩ | ⟨q, c, _, e, _, _, h1, h2, _⟩
  · exact ⟨none, 0, by rw [e, h0], by omega, by decide⟩
  · exact ⟨_, c, e, h1, h2⟩
theorem PGr.arg {T : TypeId} {B c : Nat} {w : World} {a : Option Addr} {l : List Pr} (h : PGr T B w (.slice a l.length c) l) : PArg w a l := by
  rcases h.own.2 with ⟨e, h0⟩ | ⟨q, c', cur, e, hb, hh, _⟩
  · exact .inl (List.eq_nil_of_length_eq_zero h0)
  · obtain ⟨rfl, _⟩ : a = some ⟨q, 0, none⟩ ∧ c = c' := by simpa using e
    have own := h.own
    refine .inr ⟨q, 0, rfl, (Array.getElem?_eq_some_iff.1 hh).1, fun j hj => ?_, fun j hj => ?_⟩
    · rw [Nat.zero_add, own.cellAt (j * 2) (by omega)]; exact (pcs_get l j hj).1
    · rw [Nat.zero_add, own.cellAt (j * 2 + 1) (by omega)]; exact (pcs_get l j hj).2
/-- What a type of two cells is: a text and a number. -/
def PairT (T : TypeId) : Prop := (Try.prog.info? T).map (fun i => (i.zero, i.size, i.bytes)) = some (some (.agg #[.string ⟨#[]⟩, .int .i64 0]), 2, 24)
theorem run_append_pr (T S : TypeId) (hT : PairT T) (hS : Try.prog.underlying S = some (.slice T)) (w : World) {B hb : Nat} {v : Value} {l : List Pr} {x : Pr} (ty : TypeId) (a : PGr T B w v l) (c0 : w.cell? ⟨hb, 0, none⟩ = some (.string x.1)) (c1 : w.cell? ⟨hb, 1, none⟩ = some (.int .i64 x.2)) (hn : l.length + 1 ≤ 1000000) (hB : B ≤ w.heap.size) :
    ∃ v' w', (Builtin.append_ #[S, S] ty #[v, .slice (some ⟨hb, 0, none⟩) 1 1]).run Try.prog w = .ok v' w' ∧ PGr T B w' v' (l ++ [x]) ∧ w.grownBy w' v.ownBlock := by
  obtain ⟨i0, hi, hz0, hz1, hz2⟩ := info_parts hT
  have h63 : l.length + 1 ≤ maxLen := by unfold maxLen; omega
  have hnews : ∀ (j : Nat) (u : Value), (pc x)[j]? = some u → w.cell? ((⟨hb, 0, none⟩ : Addr).add j) = some u := by
    intro j u hj
    match j, hj with
    | 0, hj => simp [pc] at hj; subst hj; simpa [Addr.add] using c0
    | 1, hj => simp [pc] at hj; subst hj; simpa [Addr.add] using c1
    | k + 2, hj => simp [pc] at hj
  obtain ⟨v', w', hr, h2, h3, h4⟩ := run_append_own (P := Try.prog) w B S ty T i0 _ 2 24 hS hi hz0 hz1 hz2 rfl (by decide) v l.length _ a.own ⟨hb, 0, none⟩ 1 1 (pc x) rfl hnews (pc_one x) h63 (by omega) hB
  refine ⟨v', w', hr, ⟨?_⟩, h3⟩
  rw [List.length_append, List.length_singleton, pcs_append, show pcs [x] = pc x by simp [pcs]]
  exact h2
/-- One pair appended. -/
theorem app_pr (T S : TypeId) (hT : PairT T) (hS : Try.prog.underlying S = some (.slice T)) {w : World} {ops : Array Oper} {rest : List Oper} {o : Oper} {a : Act} {Q : Exit → Act → World → Prop} (hgd : o.guard = none) (s x : Operand)
    (ho : o.op = .call { callee := .builtin .append, args := #[s, x], argTypes := #[S, S] }) {B hb : Nat} {v : Value} {l : List Pr} {z : Pr}
    (hs : a.eval s = v) (hx : a.eval x = .slice (some ⟨hb, 0, none⟩) 1 1) (ha : PGr T B w v l) (c0 : w.cell? ⟨hb, 0, none⟩ = some (.string z.1)) (c1 : w.cell? ⟨hb, 1, none⟩ = some (.int .i64 z.2)) (hn : l.length + 1 ≤ 1000000) (hB : B ≤ w.heap.size)
    (h : ∀ v' w', PGr T B w' v' (l ++ [z]) → w.grownBy w' v.ownBlock → wpList Try.prog ops Q rest (a.put o.dst v') w') : wpList Try.prog ops Q (o :: rest) a w := by
  refine wpList_plain hgd fun _ hK => ?_
  obtain ⟨v', w', hr, h2, h3⟩ := run_append_pr T S hT hS w o.type ha c0 c1 hn hB
  unfold Oper.wp execOp
  simp only [ho, resolve, invoke, builtin, Sem.run_bind, Sem.run_pure, Result.andThen_ok, List.map_toArray, List.map_cons, List.map_nil, hs, hx, hr]
  exact hK _ _ (h v' w' h2 h3)
theorem pairAcct : PairT 84 := by unfold PairT; kernel_rfl
theorem pairLine : PairT 97 := by unfold PairT; kernel_rfl

/-! Rows of texts. -/
def tcs (l : List ByteArray) : List Value := l.map Value.string
/-- A row of texts of the call's own: it may be written. -/
structure TOwn (w : World) (p : Nat) (l : List ByteArray) : Prop where
  lt : p < w.heap.size
  cell : ∀ j (h : j < l.length), w.cell? ⟨p, j, none⟩ = some (.string l[j])
  free : ∀ j, j < l.length → w.frozen? ⟨p, j, none⟩ = false
theorem TOwn.row {w : World} {p : Nat} {l : List ByteArray} (h : TOwn w p l) : TRow w p 0 l := ⟨h.lt, fun j hj => by rw [Nat.zero_add]; exact h.cell j hj⟩
theorem TOwn.later {w w' : World} {p : Nat} {l : List ByteArray} (h : TOwn w p l) (k : Kept w w') : TOwn w' p l :=
  ⟨Nat.lt_of_lt_of_le h.lt k.le, fun j hj => (k.rd.1 _ _ h.lt).trans (h.cell j hj), fun j hj => (k.rd.2 _ _ h.lt).trans (h.free j hj)⟩
theorem TOwn.set {w : World} {p : Nat} {l : List ByteArray} (h : TOwn w p l) (i : Nat) (v : ByteArray) (hi : i < l.length) : TOwn (w.setCell ⟨p, i, none⟩ (.string v)) p (l.set i v) := by
  have hc := h.cell i hi
  refine ⟨by simpa using h.lt, fun j hj => ?_, fun j hj => ?_⟩
  · rw [List.length_set] at hj
    have hcj := h.cell j hj
    by_cases e : i = j
    · subst e
      rw [List.getElem_set_self]
      go_simp
    · rw [List.getElem_set_ne e]
      have e' : j ≠ i := fun z => e z.symm
      go_simp
  · rw [List.length_set] at hj
    have hf := h.free j hj
    go_simp
/-- So many cells of empty texts. -/
def ts (n : Nat) : Array Value := madeCells #[.string ⟨#[]⟩] n
theorem ts_cell (n j : Nat) (h : j < n) : (ts n)[j]? = some (.string ⟨#[]⟩) := by
  unfold ts madeCells
  simp [h, Nat.mod_one]
theorem TOwn.made {w : World} {n p : Nat} {t : TypeId} (hp : w.heap.size = p) : TOwn (w.alloc (.cells (ts n) t)) p (List.replicate n ⟨#[]⟩) := by
  subst hp
  refine ⟨by simp, fun j hj => ?_, fun j hj => ?_⟩
  · have hj' : j < n := by simpa using hj
    simp [ts_cell n j hj']
  · simp
theorem infoStr : (Try.prog.info? 9).map (fun i => (i.zero, i.size, i.bytes)) = some (some (.string ⟨#[]⟩), 1, 16) := by kernel_rfl
end Go.Proofs.Ytdgiljndoeldcaa
