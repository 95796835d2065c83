/-
  What package stock's meanCost and Mean return. No condition but those that each theorem names.
-/
import Derived.Test.YtdgiljndoeldcaaPWalkC
namespace Go.Proofs.Ytdgiljndoeldcaa
open Go.RowKit
set_option linter.unusedVariables false

/-- A box of two numbers that may be written. -/
structure LBx (w : World) (p : Nat) (x : Mv) : Prop where
  box : JBx w p x
  f0 : w.frozen? ⟨p, 0, none⟩ = false
  f1 : w.frozen? ⟨p, 1, none⟩ = false
theorem LBx.later {w w' : World} {p : Nat} {x : Mv} (h : LBx w p x) (k : Kept w w') : LBx w' p x :=
  ⟨h.box.later k, (k.rd.2 _ _ h.box.lt).trans h.f0, (k.rd.2 _ _ h.box.lt).trans h.f1⟩
theorem LBx.new {w : World} {p : Nat} (hp : w.heap.size = p) (x : Mv) (t : TypeId) : LBx (w.alloc (.cells #[.int .i64 x.1, .int .i64 x.2] t)) p x := by
  subst hp; exact ⟨JBx.new rfl x t, by simp, by simp⟩
theorem LBx.two {w : World} {p : Nat} {x : Mv} (h : LBx w p x) (a b : Int) : LBx ((w.setCell ⟨p, 0, none⟩ (.int .i64 a)).setCell ⟨p, 1, none⟩ (.int .i64 b)) p (a, b) := by
  obtain ⟨⟨h0, h1, h2⟩, f0, f1⟩ := h
  exact ⟨⟨by simpa using h0, by go_simp, by go_simp⟩, by go_simp, by go_simp⟩
theorem LBx.drewN {w : World} {p : Nat} {x : Mv} (h : LBx w p x) (n : Nat) : LBx (w.drewN n) p x := ⟨⟨h.box.lt, h.box.c0, h.box.c1⟩, h.f0, h.f1⟩
theorem LBx.grown {w w' : World} {r : Option Nat} {p : Nat} {x : Mv} (h : LBx w p x) (hg : w.grownBy w' r) (hr : r ≠ some p) : LBx w' p x := by
  obtain ⟨⟨h0, h1, h2⟩, f0, f1⟩ := h
  have k := fun o => cell_grown hg h0 hr o
  exact ⟨⟨Nat.lt_of_lt_of_le h0 hg.size, (k 0).1.trans h1, (k 1).1.trans h2⟩, (k 0).2.trans f0, (k 1).2.trans f1⟩
/-- What is known of the numbers of a mean. -/
theorem mn_facts {s : Mv} {n : Int} (hc : 0 < s.1) (hc2 : s.1 ≤ 40000000) (hk : 0 ≤ s.2) (hk2 : s.2 ≤ 40000000000000) (h0 : 0 ≤ n) (hn : n ≤ s.1) (hn2 : n ≤ 1000000) :
    ∃ q r, q = s.2 / s.1 ∧ r = s.2 % s.1 ∧ s.2.tdiv s.1 = q ∧ s.2.tmod s.1 = r ∧ mnC s n = q * n + (2 * r * n + s.1) / (2 * s.1) ∧ 0 ≤ q ∧ q ≤ s.2 ∧ 0 ≤ r ∧ r < s.1 ∧ 0 ≤ q * n ∧ q * n ≤ s.2 ∧ 0 ≤ 2 * r * n ∧ 2 * r * n ≤ 80000000000000 ∧
      (2 * r * n + s.1).tdiv (2 * s.1) = (2 * r * n + s.1) / (2 * s.1) ∧ 0 ≤ (2 * r * n + s.1) / (2 * s.1) ∧ (2 * r * n + s.1) / (2 * s.1) ≤ 2 * r * n + s.1 := by
  have q0 : 0 ≤ s.2 / s.1 := Int.ediv_nonneg hk (by omega)
  have r0 := Int.emod_nonneg s.2 (show s.1 ≠ 0 by omega)
  have r1 := Int.emod_lt_of_pos s.2 hc
  have e : s.1 * (s.2 / s.1) + s.2 % s.1 = s.2 := Int.mul_ediv_add_emod s.2 s.1
  have q1 : s.2 / s.1 * n ≤ s.2 / s.1 * s.1 := Int.mul_le_mul_of_nonneg_left hn q0
  have q2 : 0 ≤ s.2 / s.1 * n := Int.mul_nonneg q0 h0
  have q3 : s.2 / s.1 * s.1 = s.1 * (s.2 / s.1) := Int.mul_comm _ _
  have q4 : s.2 / s.1 ≤ s.2 := Int.ediv_le_self _ hk
  have r2 : 0 ≤ s.2 % s.1 * n := Int.mul_nonneg r0 h0
  have r3 : s.2 % s.1 * n ≤ 40000000 * 1000000 := Int.mul_le_mul (by omega) hn2 h0 (by omega)
  have r4 : 2 * (s.2 % s.1) * n = 2 * (s.2 % s.1 * n) := by rw [Int.mul_assoc]
  have t0 : 0 ≤ 2 * (s.2 % s.1) * n + s.1 := by omega
  exact ⟨_, _, rfl, rfl, Int.tdiv_eq_ediv_of_nonneg hk, Int.tmod_eq_emod_of_nonneg hk, rfl, q0, q4, r0, r1, q2, by omega, by omega, by omega, Int.tdiv_eq_ediv_of_nonneg t0, Int.ediv_nonneg t0 (by omega), Int.ediv_le_self _ t0⟩
/-- A row of the call's own beside a box that is written. -/
theorem QRow.other {α : Type} {E : Jec α} {B p o : Nat} {w : World} {v : Value} {l : List α} (h : QRow E B w v l) (hp : p < B) (u : Value) : QRow E B (w.setCell ⟨p, o, none⟩ u) v l :=
  h.grown (grownBy_setAt w p o u) (fun k hk e => by have := (h.lt k hk).1; simp at e; omega)
theorem QRow.drewN {α : Type} {E : Jec α} {B : Nat} {w : World} {v : Value} {l : List α} (h : QRow E B w v l) (n : Nat) : QRow E B (w.drewN n) v l := h.later ((Kept.refl w).drewN n)
/-- Mean's answer where there is no error. -/
def MeanPost (w : World) (s : List Int × Mv) (e : Ending) (w' : World) : Prop :=
  ∃ u, e = .returned (.tuple #[u, .agg #[.int .i64 s.2.1, .int .i64 s.2.2], .int .i64 0]) ∧ QRow eI w.heap.size w' u s.1 ∧ Kept w w'
end Go.Proofs.Ytdgiljndoeldcaa
