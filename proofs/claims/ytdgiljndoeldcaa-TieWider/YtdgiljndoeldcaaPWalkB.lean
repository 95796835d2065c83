/-
  What package stock's takeOldest returns. No condition but those that each theorem names.
-/
import Derived.Test.YtdgiljndoeldcaaPWalkA
namespace Go.Proofs.Ytdgiljndoeldcaa
open Go.RowKit
set_option linter.unusedVariables false

theorem grownBy_drew {w w' : World} {r : Option Nat} (h : w.grownBy w' r) : w.grownBy w'.drew r := ⟨h.os, h.tape, h.output, h.size, h.block⟩
theorem grownBy_drewN {w w' : World} {r : Option Nat} (h : w.grownBy w' r) (n : Nat) : w.grownBy (w'.drewN n) r := ⟨h.os, h.tape, h.output, h.size, h.block⟩
theorem grownBy_rfl (w : World) (r : Option Nat) : w.grownBy w r := ⟨rfl, rfl, rfl, Nat.le_refl _, fun _ _ _ => rfl⟩
theorem QMem.drewN {α : Type} {E : Jec α} {w : World} {p off c : Nat} {l : List α} (h : QMem E w p off c l) (n : Nat) : QMem E (w.drewN n) p off c l := ⟨⟨h.row.lt, h.row.c⟩, h.room⟩
theorem cat_set0 (x : Mv) (r : List Mv) (z : Int) : eP.cat ((z, x.2) :: r) = (eP.cat (x :: r)).set 0 (.int .i64 z) := rfl
theorem cat_set1 (x : Mv) (r : List Mv) (z : Int) : eP.cat ((x.1, z) :: r) = (eP.cat (x :: r)).set 1 (.int .i64 z) := rfl
/-- Both numbers of the first element written. -/
theorem QMem.two {w : World} {p off c : Nat} {x : Mv} {r : List Mv} (h : QMem eP w p off c (x :: r)) (a b : Int) : QMem eP ((w.setCell ⟨p, off, none⟩ (.int .i64 a)).setCell ⟨p, off + 1, none⟩ (.int .i64 b)) p off c ((a, b) :: r) := by
  have h1 := h.setAt (m := (a, x.2) :: r) 0 (.int .i64 a) (cat_set0 x r a) (by rw [eP.cat_len, List.length_cons]; show 0 < (r.length + 1) * 2; omega)
  rw [Nat.add_zero] at h1
  exact h1.setAt (m := (a, b) :: r) 1 (.int .i64 b) (cat_set1 (a, x.2) r b) (by rw [eP.cat_len, List.length_cons]; show 1 < (r.length + 1) * 2; omega)
theorem QMem.head {w : World} {p off c : Nat} {x : Mv} {r : List Mv} (h : QMem eP w p off c (x :: r)) (hc : 1 ≤ c) : w.cell? ⟨p, off, none⟩ = some (.int .i64 x.1) ∧ w.cell? ⟨p, off + 1, none⟩ = some (.int .i64 x.2) ∧ w.frozen? ⟨p, off, none⟩ = false ∧ w.frozen? ⟨p, off + 1, none⟩ = false := by
  have e : c * eP.k = 2 * c := by simp [eP]; omega
  have c0 := h.row.c0 0 (by simp)
  have c1 := h.row.c1 0 (by simp)
  have f0 := (h.room 0 (by omega)).2
  have f1 := (h.room 1 (by omega)).2
  simp only [Nat.zero_mul, Nat.add_zero, List.getElem_cons_zero] at c0 c1 f0
  exact ⟨c0, c1, f0, f1⟩
/-- The first lot of a row left out. -/
theorem QRow.cut {B : Nat} {w : World} {p off c : Nat} {x : Mv} {r : List Mv} (h : QMem eP w p off c (x :: r)) (hb : B ≤ p) (h1 : (x :: r).length ≤ c) (h2 : c ≤ maxLen) :
    QRow eP B w (.slice (if c = 1 then some ⟨p, off, none⟩ else some ⟨p, off + 2, none⟩) r.length (c - 1)) r := by
  rw [List.length_cons] at h1
  by_cases e : c = 1
  · subst e
    obtain rfl : r = [] := List.eq_nil_of_length_eq_zero (by omega)
    rw [if_pos rfl]
    exact ⟨_, 0, rfl, Nat.le_refl _, by decide, .inr ⟨p, off, rfl, hb, ⟨⟨h.row.lt, fun j u hj => by simp [Jec.cat] at hj⟩, fun j hj => by omega⟩⟩⟩
  · rw [if_neg e]
    exact ⟨_, c - 1, rfl, by omega, by omega, .inr ⟨p, off + 2, rfl, hb, h.drop1 (by omega)⟩⟩
/-- What takeOldest leaves: a cost, and the lots that remain, where they lay. -/
def TakePost (w : World) (B : Nat) (v : Value) (l : List Mv) (n : Int) (e : Ending) (w' : World) : Prop :=
  ∃ v', e = .returned (.tuple #[.int .i64 (tkC l n), v']) ∧ QRow eP B w' v' (tkL l n) ∧ v'.ownBlock = v.ownBlock ∧ w.grownBy w' v.ownBlock
end Go.Proofs.Ytdgiljndoeldcaa
