/-
  What the closure that the reference hands to sort.Slice returns: which entry goes first. No condition but those that each theorem names.
-/
import Derived.Test.YtbaahnafmfjpaaaGreatDoorYBase
import Derived.Test.YtbaahnafmfjpaaaGreatDoorHMath
namespace Go.Proofs.YtbaahnafmfjpaaaGreatDoor
open Go.RowKit
set_option linter.unusedVariables false

/-- The entries' order by day and key. -/
def beY (d1 : Int) (k1 : ByteArray) (d2 : Int) (k2 : ByteArray) : Bool := decide (d1 < d2) || (d1 == d2 && ltB k1 k2)
set_option maxRecDepth 100000 in
set_option maxHeartbeats 4000000 in
theorem lessY_any (B w : World) (p N bx cap : Nat) (C : En) (d : Nat → Nat) (i j : Nat) (hi : i < N) (hj : j < N) (hN : N ≤ 1000000) (hS : Sy B w p N bx cap C d) :
    Calls Tryz.prog 49 #[.int .i64 (i : Int), .int .i64 (j : Int), .pointer (some ⟨bx, 0, none⟩)] w
      fun e w' => e = .returned (.bool (beY (C.d (d i)) (C.k (d i)) (C.d (d j)) (C.k (d j)))) ∧ Kept w w' := by
  have hb := hS.box
  have a0 := hS.row.c0 i hi
  have a1 := hS.row.c1 i hi
  have a2 : w.cell? ⟨p, i * 3 + 2, none⟩ = some (.slice (C.la (d i)) (C.ln (d i)) (C.lc (d i))) := hS.row.c2 i hi
  have b0 := hS.row.c0 j hj
  have b1 := hS.row.c1 j hj
  have b2 : w.cell? ⟨p, j * 3 + 2, none⟩ = some (.slice (C.la (d j)) (C.ln (d j)) (C.lc (d j))) := hS.row.c2 j hj
  have n1 : bx ≠ w.heap.size := by have := hS.blt; omega
  have n2 : p ≠ w.heap.size := by have := hS.row.lt; omega
  have n3 : bx ≠ w.heap.size + 1 := by have := hS.blt; omega
  have n4 : p ≠ w.heap.size + 1 := by have := hS.row.lt; omega
  have l1 := hS.blt
  have l2 := hS.row.lt
  have l3 : bx < w.heap.size + 1 := by omega
  have l4 : p < w.heap.size + 1 := by omega
  have i0 : (0 : Int) ≤ (i : Int) := by omega
  have j0 : (0 : Int) ≤ (j : Int) := by omega
  have i1 : (i : Int) < (N : Int) := by omega
  have j1 : (j : Int) < (N : Int) := by omega
  have E := Lib.hid (show beY (C.d (d i)) (C.k (d i)) (C.d (d j)) (C.k (d j)) = (decide (C.d (d i) < C.d (d j)) || (C.d (d i) == C.d (d j) && ltB (C.k (d i)) (C.k (d j)))) from rfl)
  generalize beY (C.d (d i)) (C.k (d i)) (C.d (d j)) (C.k (d j)) = R at *
  generalize C.k (d i) = ka at *
  generalize C.d (d i) = da at *
  generalize C.la (d i) = pa at *
  generalize C.ln (d i) = ma at *
  generalize C.lc (d i) = qa at *
  generalize C.k (d j) = kb at *
  generalize C.d (d j) = db at *
  generalize C.la (d j) = pb at *
  generalize C.ln (d j) = mb at *
  generalize C.lc (d j) = qb at *
  clear hS
  rcases (by omega : da < db ∨ da = db ∨ db < da) with c | c | c
  · have c1 : decide (da < db) = true := by simpa using c
    go_enter Tryz.func49, Tryz.ntmps49
    go_wp2_with fail
    go_region
    all_goals go_wp2
    all_goals go_ret
    all_goals exact ⟨ret_bool (by rw [E.out]; simp [c]), (((Kept.refl w).alloc _).alloc _).drew⟩
  · subst c
    go_enter Tryz.func49, Tryz.ntmps49
    go_wp2_with fail
    go_region
    all_goals go_wp2
    all_goals go_ret
    all_goals exact ⟨ret_bool (by rw [E.out]; simp; rfl), (((Kept.refl w).alloc _).alloc _).drew⟩
  · have c1 : decide (da < db) = false := by simp; omega
    have c2 : (da == db) = false := by rw [beq_eq_false_iff_ne]; omega
    go_enter Tryz.func49, Tryz.ntmps49
    go_wp2_with fail
    go_region
    all_goals go_wp2
    all_goals go_ret
    all_goals exact ⟨ret_bool (by rw [E.out]; simp [c1, c2]), (((Kept.refl w).alloc _).alloc _).drew⟩
end Go.Proofs.YtbaahnafmfjpaaaGreatDoor
