import Derived.Test.YtdgiljndoeldcaaPMath
/-
  What package stock's check returns. No condition but those that each theorem names.
-/
namespace Go.Proofs.Ytdgiljndoeldcaa
open Go.RowKit
set_option linter.unusedVariables false

/-- A struct of two numbers in a box of its own. -/
structure JBx (w : World) (p : Nat) (x : Mv) : Prop where
  lt : p < w.heap.size
  c0 : w.cell? ⟨p, 0, none⟩ = some (.int .i64 x.1)
  c1 : w.cell? ⟨p, 1, none⟩ = some (.int .i64 x.2)
theorem JBx.later {w w' : World} {p : Nat} {x : Mv} (h : JBx w p x) (k : Kept w w') : JBx w' p x :=
  ⟨Nat.lt_of_lt_of_le h.lt k.le, (k.rd.1 _ _ h.lt).trans h.c0, (k.rd.1 _ _ h.lt).trans h.c1⟩
theorem JBx.new {w : World} {p : Nat} (hp : w.heap.size = p) (x : Mv) (t : TypeId) : JBx (w.alloc (.cells #[.int .i64 x.1, .int .i64 x.2] t)) p x := by
  subst hp; exact ⟨by simp, by simp, by simp⟩
theorem skE_large {l : List Mv} (h : 40 < l.length) : skE l = 2 := by unfold skE; rw [if_pos h]
theorem cnt_small : ∀ {l : List Mv}, ckL l = 0 → ∀ j, j ≤ l.length → -1000000 * (j : Int) ≤ cnt (l.take j) ∧ cnt (l.take j) ≤ 1000000 * (j : Int) := by
  intro l h j hj
  have := MvOk.cnt (l := l.take j) (fun m hm => ckL_ok h m (List.mem_of_mem_take hm))
  rw [List.length_take, Nat.min_eq_left hj] at this
  omega
end Go.Proofs.Ytdgiljndoeldcaa

/-
  What package stock's takeOldest returns. No condition but those that each theorem names.
-/
namespace Go.Proofs.Ytdgiljndoeldcaa
open Go.RowKit
set_option linter.unusedVariables false

theorem grownBy_drew {w w' : World} {r : Option Nat} (h : w.grownBy w' r) : w.grownBy w'.drew r := ⟨h.os, h.tape, h.output, h.size, h.block⟩
theorem grownBy_drewN {w w' : World} {r : Option Nat} (h : w.grownBy w' r) (n : Nat) : w.grownBy (w'.drewN n) r := ⟨h.os, h.tape, h.output, h.size, h.block⟩
theorem grownBy_rfl (w : World) (r : Option Nat) : w.grownBy w r := ⟨rfl, rfl, rfl, Nat.le_refl _, fun _ _ _ => rfl⟩
theorem QMem.drewN {α : Type} {E : Jec α} {w : World} {p off c : Nat} {l : List α} (h : QMem E w p off c l) (n : Nat) : QMem E (w.drewN n) p off c l := ⟨⟨h.row.lt, h.row.c⟩, h.room⟩
theorem cat_set0 (x : Mv) (r : List Mv) (z : Int) : eP.cat ((z, x.2) :: r) = (eP.cat (x :: r)).set 0 (.int .i64 z) := rfl
theorem cat_set1 (x : Mv) (r : List Mv) (z : Int) : eP.cat ((x.1, z) :: r) = (eP.cat (x :: r)).set 1 (.int .i64 z) := rfl
/-- Both numbers of the first element written. -/
theorem QMem.two {w : World} {p off c : Nat} {x : Mv} {r : List Mv} (h : QMem eP w p off c (x :: r)) (a b : Int) : QMem eP ((w.setCell ⟨p, off, none⟩ (.int .i64 a)).setCell ⟨p, off + 1, none⟩ (.int .i64 b)) p off c ((a, b) :: r) := by
  have h1 := h.setAt (m := (a, x.2) :: r) 0 (.int .i64 a) (cat_set0 x r a) (by rw [eP.cat_len, List.length_cons]; show 0 < (r.length + 1) * 2; omega)
  rw [Nat.add_zero] at h1
  exact h1.setAt (m := (a, b) :: r) 1 (.int .i64 b) (cat_set1 (a, x.2) r b) (by rw [eP.cat_len, List.length_cons]; show 1 < (r.length + 1) * 2; omega)
theorem QMem.head {w : World} {p off c : Nat} {x : Mv} {r : List Mv} (h : QMem eP w p off c (x :: r)) (hc : 1 ≤ c) : w.cell? ⟨p, off, none⟩ = some (.int .i64 x.1) ∧ w.cell? ⟨p, off + 1, none⟩ = some (.int .i64 x.2) ∧ w.frozen? ⟨p, off, none⟩ = false ∧ w.frozen? ⟨p, off + 1, none⟩ = false := by
  have e : c * eP.k = 2 * c := by simp [eP]; omega
  have c0 := h.row.c0 0 (by simp)
  have c1 := h.row.c1 0 (by simp)
  have f0 := (h.room 0 (by omega)).2
  have f1 := (h.room 1 (by omega)).2
  simp only [Nat.zero_mul, Nat.add_zero, List.getElem_cons_zero] at c0 c1 f0
  exact ⟨c0, c1, f0, f1⟩
/-- The first lot of a row left out. -/
theorem QRow.cut {B : Nat} {w : World} {p off c : Nat} {x : Mv} {r : List Mv} (h : QMem eP w p off c (x :: r)) (hb : B ≤ p) (h1 : (x :: r).length ≤ c) (h2 : c ≤ maxLen) :
    QRow eP B w (.slice (if c = 1 then some ⟨p, off, none⟩ else some ⟨p, off + 2, none⟩) r.length (c - 1)) r := by
  rw [List.length_cons] at h1
  by_cases e : c = 1
  · subst e
    obtain rfl : r = [] := List.eq_nil_of_length_eq_zero (by omega)
    rw [if_pos rfl]
    exact ⟨_, 0, rfl, Nat.le_refl _, by decide, .inr ⟨p, off, rfl, hb, ⟨⟨h.row.lt, fun j u hj => by simp [Jec.cat] at hj⟩, fun j hj => by omega⟩⟩⟩
  · rw [if_neg e]
    exact ⟨_, c - 1, rfl, by omega, by omega, .inr ⟨p, off + 2, rfl, hb, h.drop1 (by omega)⟩⟩
/-- What takeOldest leaves: a cost, and the lots that remain, where they lay. -/
def TakePost (w : World) (B : Nat) (v : Value) (l : List Mv) (n : Int) (e : Ending) (w' : World) : Prop :=
  ∃ v', e = .returned (.tuple #[.int .i64 (tkC l n), v']) ∧ QRow eP B w' v' (tkL l n) ∧ v'.ownBlock = v.ownBlock ∧ w.grownBy w' v.ownBlock
end Go.Proofs.Ytdgiljndoeldcaa

/-
  What package stock's Fifo returns. No condition but those that each theorem names.
-/
namespace Go.Proofs.Ytdgiljndoeldcaa
open Go.RowKit
set_option linter.unusedVariables false

theorem JBx.cells {w : World} {p : Nat} {x : Mv} (h : JBx w p x) : ∀ j u, (eP.cells x)[j]? = some u → w.cell? ⟨p, j, none⟩ = some u := by
  intro j u hj
  match j, hj with
  | 0, hj => simp [eP] at hj; subst hj; exact h.c0
  | 1, hj => simp [eP] at hj; subst hj; exact h.c1
  | k + 2, hj => simp [eP] at hj
theorem one_cells {w : World} {p : Nat} {x : Int} (hp : w.heap.size = p) (t : TypeId) : ∀ j u, (eI.cells x)[j]? = some u → (w.alloc (.cells #[.int .i64 x] t)).cell? ⟨p, j, none⟩ = some u := by
  subst hp
  intro j u hj
  match j, hj with
  | 0, hj => simp [eI] at hj; subst hj; simp
  | k + 1, hj => simp [eI] at hj
theorem isInt : IsE eI 3 (.int .i64 0) 8 := by unfold IsE; kernel_rfl
/-- Fifo's answer where there is no error: two rows of its own, apart. -/
def FifoPost (w : World) (s : List Int × List Mv) (e : Ending) (w' : World) : Prop :=
  ∃ u v, e = .returned (.tuple #[u, v, .int .i64 0]) ∧ QRow eI w.heap.size w' u s.1 ∧ QRow eP w.heap.size w' v s.2 ∧ ApartQ u v ∧ Kept w w'
end Go.Proofs.Ytdgiljndoeldcaa

/-
  What package stock's meanCost and Mean return. No condition but those that each theorem names.
-/
namespace Go.Proofs.Ytdgiljndoeldcaa
open Go.RowKit
set_option linter.unusedVariables false

/-- A box of two numbers that may be written. -/
structure LBx (w : World) (p : Nat) (x : Mv) : Prop where
  box : JBx w p x
  f0 : w.frozen? ⟨p, 0, none⟩ = false
  f1 : w.frozen? ⟨p, 1, none⟩ = false
theorem LBx.later {w w' : World} {p : Nat} {x : Mv} (h : LBx w p x) (k : Kept w w') : LBx w' p x :=
  ⟨h.box.later k, (k.rd.2 _ _ h.box.lt).trans h.f0, (k.rd.2 _ _ h.box.lt).trans h.f1⟩
theorem LBx.new {w : World} {p : Nat} (hp : w.heap.size = p) (x : Mv) (t : TypeId) : LBx (w.alloc (.cells #[.int .i64 x.1, .int .i64 x.2] t)) p x := by
  subst hp; exact ⟨JBx.new rfl x t, by simp, by simp⟩
theorem LBx.two {w : World} {p : Nat} {x : Mv} (h : LBx w p x) (a b : Int) : LBx ((w.setCell ⟨p, 0, none⟩ (.int .i64 a)).setCell ⟨p, 1, none⟩ (.int .i64 b)) p (a, b) := by
  obtain ⟨⟨h0, h1, h2⟩, f0, f1⟩ := h
  exact ⟨⟨by simpa using h0, by go_simp, by go_simp⟩, by go_simp, by go_simp⟩
theorem LBx.drewN {w : World} {p : Nat} {x : Mv} (h : LBx w p x) (n : Nat) : LBx (w.drewN n) p x := ⟨⟨h.box.lt, h.box.c0, h.box.c1⟩, h.f0, h.f1⟩
theorem LBx.grown {w w' : World} {r : Option Nat} {p : Nat} {x : Mv} (h : LBx w p x) (hg : w.grownBy w' r) (hr : r ≠ some p) : LBx w' p x := by
  obtain ⟨⟨h0, h1, h2⟩, f0, f1⟩ := h
  have k := fun o => cell_grown hg h0 hr o
  exact ⟨⟨Nat.lt_of_lt_of_le h0 hg.size, (k 0).1.trans h1, (k 1).1.trans h2⟩, (k 0).2.trans f0, (k 1).2.trans f1⟩
/-- What is known of the numbers of a mean. -/
theorem mn_facts {s : Mv} {n : Int} (hc : 0 < s.1) (hc2 : s.1 ≤ 40000000) (hk : 0 ≤ s.2) (hk2 : s.2 ≤ 40000000000000) (h0 : 0 ≤ n) (hn : n ≤ s.1) (hn2 : n ≤ 1000000) :
    ∃ q r, q = s.2 / s.1 ∧ r = s.2 % s.1 ∧ s.2.tdiv s.1 = q ∧ s.2.tmod s.1 = r ∧ mnC s n = q * n + (2 * r * n + s.1) / (2 * s.1) ∧ 0 ≤ q ∧ q ≤ s.2 ∧ 0 ≤ r ∧ r < s.1 ∧ 0 ≤ q * n ∧ q * n ≤ s.2 ∧ 0 ≤ 2 * r * n ∧ 2 * r * n ≤ 80000000000000 ∧
      (2 * r * n + s.1).tdiv (2 * s.1) = (2 * r * n + s.1) / (2 * s.1) ∧ 0 ≤ (2 * r * n + s.1) / (2 * s.1) ∧ (2 * r * n + s.1) / (2 * s.1) ≤ 2 * r * n + s.1 := by
  have q0 : 0 ≤ s.2 / s.1 := Int.ediv_nonneg hk (by omega)
  have r0 := Int.emod_nonneg s.2 (show s.1 ≠ 0 by omega)
  have r1 := Int.emod_lt_of_pos s.2 hc
  have e : s.1 * (s.2 / s.1) + s.2 % s.1 = s.2 := Int.mul_ediv_add_emod s.2 s.1
  have q1 : s.2 / s.1 * n ≤ s.2 / s.1 * s.1 := Int.mul_le_mul_of_nonneg_left hn q0
  have q2 : 0 ≤ s.2 / s.1 * n := Int.mul_nonneg q0 h0
  have q3 : s.2 / s.1 * s.1 = s.1 * (s.2 / s.1) := Int.mul_comm _ _
  have q4 : s.2 / s.1 ≤ s.2 := Int.ediv_le_self _ hk
  have r2 : 0 ≤ s.2 % s.1 * n := Int.mul_nonneg r0 h0
  have r3 : s.2 % s.1 * n ≤ 40000000 * 1000000 := Int.mul_le_mul (by omega) hn2 h0 (by omega)
  have r4 : 2 * (s.2 % s.1) * n = 2 * (s.2 % s.1 * n) := by rw [Int.mul_assoc]
  have t0 : 0 ≤ 2 * (s.2 % s.1) * n + s.1 := by omega
  exact ⟨_, _, rfl, rfl, Int.tdiv_eq_ediv_of_nonneg hk, Int.tmod_eq_emod_of_nonneg hk, rfl, q0, q4, r0, r1, q2, by omega, by omega, by omega, Int.tdiv_eq_ediv_of_nonneg t0, Int.ediv_nonneg t0 (by omega), Int.ediv_le_self _ t0⟩
/-- A row of the call's own beside a box that is written. -/
theorem QRow.other {α : Type} {E : Jec α} {B p o : Nat} {w : World} {v : Value} {l : List α} (h : QRow E B w v l) (hp : p < B) (u : Value) : QRow E B (w.setCell ⟨p, o, none⟩ u) v l :=
  h.grown (grownBy_setAt w p o u) (fun k hk e => by have := (h.lt k hk).1; simp at e; omega)
theorem QRow.drewN {α : Type} {E : Jec α} {B : Nat} {w : World} {v : Value} {l : List α} (h : QRow E B w v l) (n : Nat) : QRow E B (w.drewN n) v l := h.later ((Kept.refl w).drewN n)
/-- Mean's answer where there is no error. -/
def MeanPost (w : World) (s : List Int × Mv) (e : Ending) (w' : World) : Prop :=
  ∃ u, e = .returned (.tuple #[u, .agg #[.int .i64 s.2.1, .int .i64 s.2.2], .int .i64 0]) ∧ QRow eI w.heap.size w' u s.1 ∧ Kept w w'
end Go.Proofs.Ytdgiljndoeldcaa
