/-
  Rows of elements of a few cells each: read, grown by append, cut at the front, written. No condition but those that each theorem names.
-/
import Derived.Test.YtdgiljndoeldcaaSBase
import Derived.ArgAppend
import Derived.Laws.OwnMore
namespace Go.Proofs.Ytdgiljndoeldcaa
open Go.RowKit Go.WideShapes
set_option linter.unusedVariables false

/-- How an element lies: its cells. -/
structure Jec (α : Type) where
  cells : α → List Value
  k : Nat
  len : ∀ x, (cells x).length = k
  pos : 0 < k
  one : ∀ x, ∀ v ∈ cells x, v.oneCell' = true
def Jec.cat {α : Type} (E : Jec α) : List α → List Value
  | [] => []
  | x :: r => E.cells x ++ E.cat r
theorem Jec.cat_len {α : Type} (E : Jec α) : ∀ l : List α, (E.cat l).length = l.length * E.k
  | [] => by simp [Jec.cat]
  | x :: r => by rw [Jec.cat, List.length_append, E.len, E.cat_len r, List.length_cons, Nat.add_mul]; omega
theorem Jec.cat_append {α : Type} (E : Jec α) : ∀ l m : List α, E.cat (l ++ m) = E.cat l ++ E.cat m
  | [], m => rfl
  | x :: r, m => by rw [List.cons_append, Jec.cat, E.cat_append r m, Jec.cat, List.append_assoc]
theorem Jec.cat_one {α : Type} (E : Jec α) (x : α) : E.cat [x] = E.cells x := by simp [Jec.cat]
theorem Jec.cat_get {α : Type} (E : Jec α) : ∀ (l : List α) (j i : Nat) (h : j < l.length) (hi : i < E.k), (E.cat l)[j * E.k + i]? = (E.cells l[j])[i]?
  | x :: r, 0, i, _, hi => by
    rw [Jec.cat, Nat.zero_mul, Nat.zero_add, List.getElem?_append_left (by rw [E.len]; exact hi)]
    rfl
  | x :: r, j + 1, i, h, hi => by
    rw [Jec.cat, List.getElem?_append_right (by rw [E.len, Nat.add_mul]; omega), E.len, show (j + 1) * E.k + i - E.k = j * E.k + i by rw [Nat.add_mul]; omega]
    exact E.cat_get r j i (by simpa using h) hi
theorem Jec.cat_all {α : Type} (E : Jec α) : ∀ (l : List α), ∀ v ∈ E.cat l, v.oneCell' = true
  | [], v, h => by simp [Jec.cat] at h
  | x :: r, v, h => by
    rw [Jec.cat, List.mem_append] at h
    rcases h with h | h
    · exact E.one x v h
    · exact E.cat_all r v h
/-- Numbers. -/
def eI : Jec Int := ⟨fun x => [.int .i64 x], 1, fun _ => rfl, by decide, fun x v h => by simp at h; subst h; rfl⟩
/-- Pairs of numbers. -/
def eP : Jec (Int × Int) := ⟨fun x => [.int .i64 x.1, .int .i64 x.2], 2, fun _ => rfl, by decide, fun x v h => by simp at h; rcases h with rfl | rfl <;> rfl⟩
/-- Threes of numbers. -/
def e3 : Jec (Int × Int × Int) := ⟨fun x => [.int .i64 x.1, .int .i64 x.2.1, .int .i64 x.2.2], 3, fun _ => rfl, by decide, fun x v h => by simp at h; rcases h with rfl | rfl | rfl <;> rfl⟩

/-- A row that is read. -/
structure JRow {α : Type} (E : Jec α) (w : World) (p off : Nat) (l : List α) : Prop where
  lt : p < w.heap.size
  c : ∀ j u, (E.cat l)[j]? = some u → w.cell? ⟨p, off + j, none⟩ = some u
theorem JRow.later {α : Type} {E : Jec α} {w w' : World} {p off : Nat} {l : List α} (h : JRow E w p off l) (k : Kept w w') : JRow E w' p off l :=
  ⟨Nat.lt_of_lt_of_le h.lt k.le, fun j u hj => (k.rd.1 _ _ h.lt).trans (h.c j u hj)⟩
theorem JRow.i {w : World} {p off : Nat} {l : List Int} (h : JRow eI w p off l) (j : Nat) (hj : j < l.length) : w.cell? ⟨p, off + j, none⟩ = some (.int .i64 l[j]) := by
  refine h.c j _ ?_
  have := eI.cat_get l j 0 hj (by decide)
  simpa [eI] using this
theorem JRow.c0 {w : World} {p off : Nat} {l : List (Int × Int)} (h : JRow eP w p off l) (j : Nat) (hj : j < l.length) : w.cell? ⟨p, off + j * 2, none⟩ = some (.int .i64 (l[j]).1) := by
  refine h.c (j * 2) _ ?_
  have := eP.cat_get l j 0 hj (by decide)
  simpa [eP] using this
theorem JRow.c1 {w : World} {p off : Nat} {l : List (Int × Int)} (h : JRow eP w p off l) (j : Nat) (hj : j < l.length) : w.cell? ⟨p, off + j * 2 + 1, none⟩ = some (.int .i64 (l[j]).2) := by
  rw [Nat.add_assoc]
  refine h.c (j * 2 + 1) _ ?_
  have := eP.cat_get l j 1 hj (by decide)
  simpa [eP] using this
theorem JRow.t0 {w : World} {p off : Nat} {l : List (Int × Int × Int)} (h : JRow e3 w p off l) (j : Nat) (hj : j < l.length) : w.cell? ⟨p, off + j * 3, none⟩ = some (.int .i64 (l[j]).1) := by
  refine h.c (j * 3) _ ?_
  have := e3.cat_get l j 0 hj (by decide)
  simpa [e3] using this
theorem JRow.t1 {w : World} {p off : Nat} {l : List (Int × Int × Int)} (h : JRow e3 w p off l) (j : Nat) (hj : j < l.length) : w.cell? ⟨p, off + j * 3 + 1, none⟩ = some (.int .i64 (l[j]).2.1) := by
  rw [Nat.add_assoc]
  refine h.c (j * 3 + 1) _ ?_
  have := e3.cat_get l j 1 hj (by decide)
  simpa [e3] using this
theorem JRow.t2 {w : World} {p off : Nat} {l : List (Int × Int × Int)} (h : JRow e3 w p off l) (j : Nat) (hj : j < l.length) : w.cell? ⟨p, off + j * 3 + 2, none⟩ = some (.int .i64 (l[j]).2.2) := by
  rw [Nat.add_assoc]
  refine h.c (j * 3 + 2) _ ?_
  have := e3.cat_get l j 2 hj (by decide)
  simpa [e3] using this
/-- A slice that is read, nil included. -/
def JArg {α : Type} (E : Jec α) (w : World) (a : Option Addr) (l : List α) : Prop := l = [] ∨ ∃ p off, a = some ⟨p, off, none⟩ ∧ JRow E w p off l
theorem JArg.later {α : Type} {E : Jec α} {w w' : World} {a : Option Addr} {l : List α} (h : JArg E w a l) (k : Kept w w') : JArg E w' a l := by
  rcases h with h | ⟨p, off, e, h⟩
  · exact .inl h
  · exact .inr ⟨p, off, e, h.later k⟩
theorem JArg.at {α : Type} {E : Jec α} {w : World} {a : Option Addr} {l : List α} (h : JArg E w a l) {j : Nat} (hj : j < l.length) : ∃ p off, a = some ⟨p, off, none⟩ ∧ JRow E w p off l := by
  rcases h with h | h
  · rw [h] at hj; simp at hj
  · exact h

/-- Memory of a row with its room, which may be written. -/
structure QMem {α : Type} (E : Jec α) (w : World) (p off c : Nat) (l : List α) : Prop where
  row : JRow E w p off l
  room : ∀ j, j < c * E.k → (w.cell? ⟨p, off + j, none⟩).isSome = true ∧ w.frozen? ⟨p, off + j, none⟩ = false
theorem QMem.later {α : Type} {E : Jec α} {w w' : World} {p off c : Nat} {l : List α} (h : QMem E w p off c l) (k : Kept w w') : QMem E w' p off c l :=
  ⟨h.row.later k, fun j hj => by rw [k.rd.1 _ _ h.row.lt, k.rd.2 _ _ h.row.lt]; exact h.room j hj⟩
theorem cell_grown {w w' : World} {r : Option Nat} {p : Nat} (hg : w.grownBy w' r) (hp : p < w.heap.size) (hr : r ≠ some p) (o : Nat) : w'.cell? ⟨p, o, none⟩ = w.cell? ⟨p, o, none⟩ ∧ w'.frozen? ⟨p, o, none⟩ = w.frozen? ⟨p, o, none⟩ :=
  ⟨World.cell?_of_block (hg.block p hp (fun e => hr e.symm)), World.frozen?_of_block (hg.block p hp (fun e => hr e.symm))⟩
theorem JRow.grown {α : Type} {E : Jec α} {w w' : World} {r : Option Nat} {p off : Nat} {l : List α} (h : JRow E w p off l) (hg : w.grownBy w' r) (hr : r ≠ some p) : JRow E w' p off l :=
  ⟨Nat.lt_of_lt_of_le h.lt hg.size, fun j u hj => (cell_grown hg h.lt hr _).1.trans (h.c j u hj)⟩
theorem QMem.grown {α : Type} {E : Jec α} {w w' : World} {r : Option Nat} {p off c : Nat} {l : List α} (h : QMem E w p off c l) (hg : w.grownBy w' r) (hr : r ≠ some p) : QMem E w' p off c l :=
  ⟨h.row.grown hg hr, fun j hj => by rw [(cell_grown hg h.row.lt hr _).1, (cell_grown hg h.row.lt hr _).2]; exact h.room j hj⟩
theorem grownBy_setAt (w : World) (p o : Nat) (u : Value) : w.grownBy (w.setCell ⟨p, o, none⟩ u) (some p) :=
  ⟨rfl, rfl, rfl, by simp [World.setCell], fun k hk hne => heap_setCell_other w _ k u (fun e => hne (by rw [e]))⟩
theorem grownBy_trans {a b c : World} {r : Option Nat} (h : a.grownBy b r) (k : b.grownBy c r) : a.grownBy c r :=
  ⟨k.os.trans h.os, k.tape.trans h.tape, k.output.trans h.output, Nat.le_trans h.size k.size, fun j hj hne => (k.block j (Nat.lt_of_lt_of_le hj h.size) hne).trans (h.block j hj hne)⟩
theorem grownBy_setCells (p : Nat) : ∀ (vs : List Value) (o : Nat) (w : World), w.grownBy (w.setCells p o vs) (some p)
  | [], _, w => ⟨rfl, rfl, rfl, Nat.le_refl _, fun _ _ _ => rfl⟩
  | v :: r, o, w => grownBy_trans (grownBy_setAt w p o v) (grownBy_setCells p r (o + 1) _)
theorem Kept.grownN {w w' : World} (k : Kept w w') (r : Option Nat) : w.grownBy w' r := ⟨k.os, k.tape, k.output, k.size, fun j hj _ => k.block j hj⟩
theorem Kept.grew {A w w' : World} {r : Option Nat} (k : Kept A w) (hg : w.grownBy w' r) (hr : ∀ j, r = some j → A.heap.size ≤ j) : Kept A w' := Below.grown k hg k.size hr
theorem Kept.grown0 {w w' : World} (hg : w.grownBy w' none) : Kept w w' := Below.grown (Kept.refl w) hg (Nat.le_refl _) (fun j e => by cases e)

/-- The row of the call's own that grows. -/
structure QRow {α : Type} (E : Jec α) (B : Nat) (w : World) (v : Value) (l : List α) : Prop where
  is : ∃ a c, v = .slice a l.length c ∧ l.length ≤ c ∧ c ≤ maxLen ∧ ((a = none ∧ c = 0) ∨ ∃ p off, a = some ⟨p, off, none⟩ ∧ B ≤ p ∧ QMem E w p off c l)
theorem QRow.nil {α : Type} (E : Jec α) (B : Nat) (w : World) : QRow E B w (.slice none 0 0) [] := ⟨none, 0, rfl, Nat.le_refl _, by decide, .inl ⟨rfl, rfl⟩⟩
theorem QRow.later {α : Type} {E : Jec α} {B : Nat} {w w' : World} {v : Value} {l : List α} (h : QRow E B w v l) (k : Kept w w') : QRow E B w' v l := by
  obtain ⟨a, c, e, h1, h2, h3⟩ := h
  refine ⟨a, c, e, h1, h2, ?_⟩
  rcases h3 with h3 | ⟨p, off, e2, hb, hm⟩
  · exact .inl h3
  · exact .inr ⟨p, off, e2, hb, hm.later k⟩
theorem QRow.mono {α : Type} {E : Jec α} {B B' : Nat} {w : World} {v : Value} {l : List α} (h : QRow E B w v l) (hb : B' ≤ B) : QRow E B' w v l := by
  obtain ⟨a, c, e, h1, h2, h3⟩ := h
  refine ⟨a, c, e, h1, h2, ?_⟩
  rcases h3 with h3 | ⟨p, off, e2, hp, hm⟩
  · exact .inl h3
  · exact .inr ⟨p, off, e2, by omega, hm⟩
theorem QRow.lt {α : Type} {E : Jec α} {B : Nat} {w : World} {v : Value} {l : List α} (h : QRow E B w v l) : ∀ k, v.ownBlock = some k → B ≤ k ∧ k < w.heap.size := by
  obtain ⟨a, c, rfl, h1, h2, h3⟩ := h
  intro k hk
  rcases h3 with ⟨rfl, _⟩ | ⟨p, off, rfl, hp, hm⟩
  · simp [Value.ownBlock] at hk
  · simp [Value.ownBlock] at hk
    subst hk
    exact ⟨hp, hm.row.lt⟩
theorem QRow.grown {α : Type} {E : Jec α} {B : Nat} {w w' : World} {r : Option Nat} {v : Value} {l : List α} (h : QRow E B w v l) (hg : w.grownBy w' r) (hr : ∀ k, v.ownBlock = some k → r ≠ some k) : QRow E B w' v l := by
  obtain ⟨a, c, rfl, h1, h2, h3⟩ := h
  refine ⟨a, c, rfl, h1, h2, ?_⟩
  rcases h3 with h3 | ⟨p, off, rfl, hp, hm⟩
  · exact .inl h3
  · exact .inr ⟨p, off, rfl, hp, hm.grown hg (hr p rfl)⟩
theorem QRow.arg {α : Type} {E : Jec α} {B c : Nat} {w : World} {a : Option Addr} {l : List α} (h : QRow E B w (.slice a l.length c) l) : JArg E w a l := by
  obtain ⟨a', c', e, h1, h2, h3⟩ := h
  obtain ⟨rfl, rfl⟩ : a = a' ∧ c = c' := by simpa using e
  rcases h3 with ⟨rfl, hc⟩ | ⟨p, off, rfl, hp, hm⟩
  · exact .inl (List.eq_nil_of_length_eq_zero (by omega))
  · exact .inr ⟨p, off, rfl, hm.row⟩
/-- What a call that only adds to a row, or makes a new one, leaves as it was. -/
theorem QRow.kept {α : Type} {E : Jec α} {A w w' : World} {B : Nat} {v : Value} {l : List α} (h : QRow E B w v l) (hB : A.heap.size ≤ B) (k : Kept A w) (hg : w.grownBy w' v.ownBlock) : Kept A w' :=
  k.grew hg (fun j e => by have := (h.lt j e).1; omega)

/-- Two rows lie apart. -/
def ApartQ (v u : Value) : Prop := ∀ k, v.ownBlock = some k → u.ownBlock = some k → False
theorem ApartQ.symm {v u : Value} (h : ApartQ v u) : ApartQ u v := fun k a b => h k b a
theorem ApartQ.nilR (v : Value) : ApartQ v (.slice none 0 0) := fun k _ h => by simp [Value.ownBlock] at h
/-- It lies where it lay, or in a new block. -/
def MovedQ (w : World) (v v' : Value) : Prop := v'.ownBlock = v.ownBlock ∨ ∃ k, v'.ownBlock = some k ∧ w.heap.size ≤ k
theorem ApartQ.moved {α : Type} {E : Jec α} {B : Nat} {w : World} {v v' u : Value} {l : List α} (h : ApartQ v u) (m : MovedQ w v v') (a : QRow E B w u l) : ApartQ v' u := by
  intro k e1 e2
  rcases m with e | ⟨j, e, hj⟩
  · exact h k (e ▸ e1) e2
  · have := (a.lt k e2).2
    rw [e] at e1
    obtain rfl : j = k := by simpa using e1
    omega
theorem ApartQ.keep {α : Type} {E : Jec α} {B : Nat} {w w' : World} {v u : Value} {l : List α} (h : ApartQ v u) (a : QRow E B w u l) (hg : w.grownBy w' v.ownBlock) : QRow E B w' u l :=
  a.grown hg (fun k e1 e2 => h k e2 e1)

/-- What a type of such elements is. -/
def IsE {α : Type} (E : Jec α) (T : TypeId) (z : Value) (bytes : Nat) : Prop := (Try.prog.info? T).map (fun i => (i.zero, i.size, i.bytes)) = some (some z, E.k, bytes)
theorem ownsRow_q {α : Type} {E : Jec α} {w : World} {B : Nat} {T : TypeId} {v : Value} {l : List α} (hl : l ≠ []) (h : w.ownsRow B T E.k v l.length (E.cat l)) : QRow E B w v l := by
  rcases h.2 with ⟨rfl, h0⟩ | ⟨g, cap, cur, rfl, hb, hg, hn, hm, hs, ht⟩
  · exact absurd (List.eq_nil_of_length_eq_zero h0) hl
  · refine ⟨_, cap, rfl, hn, hm, .inr ⟨g, 0, rfl, hb, ⟨⟨(Array.getElem?_eq_some_iff.1 hg).1, fun j u hj => ?_⟩, fun j hj => ?_⟩⟩⟩
    · have hlt := (List.getElem?_eq_some_iff.1 hj).1
      rw [E.cat_len] at hlt
      rw [Nat.zero_add, h.cellAt j hlt, hj]
    · rw [Nat.zero_add, cell_of_row w g j cur T (0, 0) hg, frozen_of_row w g j cur T hg]
      simp [hs, hj]
/-- One element appended. -/
theorem app_q {α : Type} (E : Jec α) (T S : TypeId) (zv : Value) (bytes : Nat) (hT : IsE E T zv bytes) (hz : zv.cells.size = E.k) (hby : bytes ≤ 1000) (hS : Try.prog.underlying S = some (.slice T)) {w : World} {ops : Array Oper} {rest : List Oper} {o : Oper} {a : Act} {Q : Exit → Act → World → Prop} (hgd : o.guard = none) (s x : Operand)
    (ho : o.op = .call { callee := .builtin .append, args := #[s, x], argTypes := #[S, S] }) {B hb : Nat} {v : Value} {l : List α} {z : α}
    (hs : a.eval s = v) (hx : a.eval x = .slice (some ⟨hb, 0, none⟩) 1 1) (ha : QRow E B w v l) (hc : ∀ j u, (E.cells z)[j]? = some u → w.cell? ⟨hb, j, none⟩ = some u) (hn : l.length + 1 ≤ 1000000) (hB : B ≤ w.heap.size)
    (h : ∀ v' w', QRow E B w' v' (l ++ [z]) → w.grownBy w' v.ownBlock → MovedQ w v v' → wpList Try.prog ops Q rest (a.put o.dst v') w') : wpList Try.prog ops Q (o :: rest) a w := by
  obtain ⟨i0, hi, hz0, hz1, hz2⟩ := info_parts hT
  have h63 : l.length + 1 ≤ maxLen := by unfold maxLen; omega
  have hbb : (l.length + 1) * bytes ≤ 140737488355328 := Nat.le_trans (Nat.mul_le_mul hn hby) (by decide)
  have hnews : ∀ (j : Nat) (u : Value), (E.cells z)[j]? = some u → w.cell? ((⟨hb, 0, none⟩ : Addr).add j) = some u := by
    intro j u hj
    rw [add_plain, Nat.zero_add]; exact hc j u hj
  have hlz : (E.cells z).length = 1 * E.k := by rw [E.len]; omega
  have new : ∀ (cap : Nat) v' w', w'.ownsRow w.heap.size T E.k v' (l.length + 1) (E.cat l ++ E.cells z) → w.grownBy w' none → wpList Try.prog ops Q rest (a.put o.dst v') w' := by
    intro cap v' w' hown hg
    have e1 : E.cat l ++ E.cells z = E.cat (l ++ [z]) := by rw [E.cat_append, E.cat_one]
    rw [e1] at hown
    have hq : QRow E w.heap.size w' v' (l ++ [z]) := ownsRow_q (T := T) (by simp) (by rw [List.length_append]; exact hown)
    refine h v' w' (hq.mono hB) ((Kept.grown0 hg).grownN _) ?_
    obtain ⟨a', c', rfl, h1, h2, h3⟩ := hq
    rcases h3 with ⟨rfl, hc0⟩ | ⟨p, off, rfl, hp, hm⟩
    · simp at h1; omega
    · exact .inr ⟨p, rfl, hp⟩
  obtain ⟨a0, cap, rfl, hl1, hl2, h3⟩ := ha
  rcases h3 with ⟨rfl, rfl⟩ | ⟨p, off, rfl, hp, hm⟩
  · obtain rfl : l = [] := List.eq_nil_of_length_eq_zero (by omega)
    exact wpList_append_grows w hgd s x S ho T i0 zv E.k bytes hS hi hz0 hz1 hz2 hz E.pos none 0 0 [] hs (fun _ => ⟨rfl, rfl⟩) (by simp) (fun b hb => by cases hb) ⟨hb, 0, none⟩ 1 1 (E.cells z) hx hlz hnews (E.one z) (by omega) h63 hbb (new 0)
  · refine wpList_append_arg w hgd s x S ho T i0 zv E.k bytes hS hi hz0 hz1 hz2 hz E.pos p off l.length cap (E.cat l) hs (E.cat_len l) (fun j u hj => hm.row.c j u hj) ⟨hb, 0, none⟩ 1 1 (E.cells z) hx hlz hnews (E.one z) ?_ h63 hbb ?_ (fun _ => new cap)
    · intro hr j hj
      rw [E.len] at hj
      have := hm.room (l.length * E.k + j) (by have := Nat.mul_le_mul_right E.k hr; rw [Nat.add_mul] at this; omega)
      rwa [← Nat.add_assoc] at this
    · intro hr
      have hroom : ∀ j, j < (E.cells z).length → (w.cell? ⟨p, off + l.length * E.k + j, none⟩).isSome = true := fun j hj => by
        rw [E.len] at hj
        have := (hm.room (l.length * E.k + j) (by have := Nat.mul_le_mul_right E.k hr; rw [Nat.add_mul] at this; omega)).1
        rwa [← Nat.add_assoc] at this
      have hg := grownBy_setCells p (E.cells z) (off + l.length * E.k) w
      refine h _ _ ⟨_, cap, by rw [List.length_append]; rfl, by simpa using hr, hl2, .inr ⟨p, off, rfl, hp, ⟨⟨Nat.lt_of_lt_of_le hm.row.lt hg.size, fun j u hj => ?_⟩, fun j hj => ?_⟩⟩⟩ hg (.inl rfl)
      · rw [E.cat_append, E.cat_one] at hj
        by_cases hlt : j < (E.cat l).length
        · rw [List.getElem?_append_left hlt] at hj
          rw [E.cat_len] at hlt
          rw [World.cell?_setCells_out p _ _ _ _ (fun _ _ => .inl (by simp; omega))]
          exact hm.row.c j u hj
        · rw [List.getElem?_append_right (by omega), E.cat_len] at hj
          rw [E.cat_len] at hlt
          obtain ⟨hj2, e⟩ := List.getElem?_eq_some_iff.1 hj
          have := World.cell?_setCells_in p (E.cells z) (off + l.length * E.k) w hroom (j - l.length * E.k) hj2
          rw [e, show off + l.length * E.k + (j - l.length * E.k) = off + j by omega] at this
          exact this
      · rw [World.frozen?_setCells]
        refine ⟨?_, (hm.room j hj).2⟩
        by_cases hin : l.length * E.k ≤ j ∧ j < l.length * E.k + (E.cells z).length
        · have := World.cell?_setCells_in p (E.cells z) (off + l.length * E.k) w hroom (j - l.length * E.k) (by omega)
          rw [show off + l.length * E.k + (j - l.length * E.k) = off + j by omega] at this
          rw [this]; rfl
        · rw [World.cell?_setCells_out p _ _ _ _ (fun _ _ => by simp; omega)]
          exact (hm.room j hj).1
/-- The first element left out. -/
theorem QMem.drop1 {α : Type} {E : Jec α} {w : World} {p off c : Nat} {x : α} {l : List α} (h : QMem E w p off c (x :: l)) (hc : 1 ≤ c) : QMem E w p (off + E.k) (c - 1) l := by
  refine ⟨⟨h.row.lt, fun j u hj => ?_⟩, fun j hj => ?_⟩
  · have := h.row.c (E.k + j) u (by rw [Jec.cat, List.getElem?_append_right (by rw [E.len]; omega), E.len, Nat.add_sub_cancel_left]; exact hj)
    rwa [← Nat.add_assoc] at this
  · have e : (c - 1) * E.k + E.k = c * E.k := by
      obtain ⟨d, rfl⟩ : ∃ d, c = d + 1 := ⟨c - 1, by omega⟩
      rw [Nat.add_sub_cancel, Nat.add_mul, Nat.one_mul]
    have := h.room (E.k + j) (by omega)
    rwa [← Nat.add_assoc] at this
/-- One cell written. -/
theorem QMem.setAt {α : Type} {E : Jec α} {w : World} {p off c : Nat} {l m : List α} (h : QMem E w p off c l) (o : Nat) (u : Value) (hm : E.cat m = (E.cat l).set o u) (ho : o < (E.cat l).length) : QMem E (w.setCell ⟨p, off + o, none⟩ u) p off c m := by
  have hg := grownBy_setAt w p (off + o) u
  obtain ⟨u0, hu0⟩ : ∃ u0, w.cell? ⟨p, off + o, none⟩ = some u0 := ⟨_, h.row.c o _ (List.getElem?_eq_getElem ho)⟩
  refine ⟨⟨Nat.lt_of_lt_of_le h.row.lt hg.size, fun j v hj => ?_⟩, fun j hj => ?_⟩
  · rw [hm] at hj
    by_cases e : o = j
    · subst e
      rw [List.getElem?_set_self ho] at hj
      rw [World.cell?_setCell_same _ _ _ hu0]; exact hj
    · rw [List.getElem?_set_ne e] at hj
      rw [World.cell?_setCell_other _ _ _ _ (fun q => e (by have := congrArg Addr.off q; dsimp only at this; omega))]
      exact h.row.c j v hj
  · rw [World.frozen?_setCell]
    refine ⟨?_, (h.room j hj).2⟩
    by_cases e : o = j
    · subst e
      rw [World.cell?_setCell_same _ _ _ hu0]; rfl
    · rw [World.cell?_setCell_other _ _ _ _ (fun q => e (by have := congrArg Addr.off q; dsimp only at this; omega))]
      exact (h.room j hj).1
end Go.Proofs.Ytdgiljndoeldcaa
