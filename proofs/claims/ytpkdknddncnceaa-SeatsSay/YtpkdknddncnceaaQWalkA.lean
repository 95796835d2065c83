/-
  What the closure that the reference hands to sort.SliceStable returns: which claim goes first. No condition but those that the theorem names.
-/
import Derived.Test.YtpkdknddncnceaaQBase
import Derived.Test.YtpkdknddncnceaaQMathC
namespace Go.Proofs.Ytpkdknddncnceaa
open Go.RowKit

/-- Numbers that claims may have. -/
def ClOk (C : Cl) (N : Nat) : Prop := ∀ q, q < N → 0 < C.v q ∧ C.v q ≤ 1000000 ∧ 0 ≤ C.d q ∧ C.d q ≤ 2001
set_option maxRecDepth 100000 in
set_option maxHeartbeats 4000000 in
theorem less_any (B w : World) (p N bx cap : Nat) (C : Cl) (d : Nat → Int) (i j : Nat) (hi : i < N) (hj : j < N) (_hN : N ≤ 1000000) (hC : ClOk C N) (hI : InR N d) (hS : St B w p N bx cap C d) :
    Calls Try.prog 29 #[.int .i64 (i : Int), .int .i64 (j : Int), .pointer (some ⟨bx, 0, none⟩)] w
      fun e w' => e = .returned (.bool (lsB (C.v (d i).toNat) (C.d (d i).toNat) (C.v (d j).toNat) (C.d (d j).toNat))) ∧ Kept w w' := by
  have bi := hC (d i).toNat (by have := hI i hi; omega)
  have bj := hC (d j).toNat (by have := hI j hj; omega)
  have hb := hS.box
  have a0 := hS.row.c0 i hi
  have a1 := hS.row.c1 i hi
  have a2 := hS.row.c2 i hi
  have b0 := hS.row.c0 j hj
  have b1 := hS.row.c1 j hj
  have b2 := hS.row.c2 j hj
  have n1 : bx ≠ w.heap.size := by have := hS.blt; omega
  have n2 : p ≠ w.heap.size := by have := hS.row.lt; omega
  have n3 : bx ≠ w.heap.size + 1 := by have := hS.blt; omega
  have n4 : p ≠ w.heap.size + 1 := by have := hS.row.lt; omega
  have l1 := hS.blt
  have l2 := hS.row.lt
  have l3 : bx < w.heap.size + 1 := by omega
  have l4 : p < w.heap.size + 1 := by omega
  have i1 : (i : Int) < (N : Int) := by omega
  have j1 : (j : Int) < (N : Int) := by omega
  have E := Lib.hid (lsB_def (C.v (d i).toNat) (C.d (d i).toNat) (C.v (d j).toNat) (C.d (d j).toNat))
  generalize lsB (C.v (d i).toNat) (C.d (d i).toNat) (C.v (d j).toNat) (C.d (d j).toNat) = R at *
  generalize C.v (d i).toNat = va at *
  generalize C.d (d i).toNat = da at *
  generalize C.w (d i).toNat = wa at *
  generalize C.v (d j).toNat = vb at *
  generalize C.d (d j).toNat = db at *
  generalize C.w (d j).toNat = wb at *
  clear hS hI hC
  have m1 : 0 ≤ va * db ∧ va * db ≤ 2001000000 := ⟨Int.mul_nonneg (by omega) (by omega), by have : va * db ≤ 1000000 * 2001 := Int.mul_le_mul (by omega) (by omega) (by omega) (by omega); omega⟩
  have m2 : 0 ≤ vb * da ∧ vb * da ≤ 2001000000 := ⟨Int.mul_nonneg (by omega) (by omega), by have : vb * da ≤ 1000000 * 2001 := Int.mul_le_mul (by omega) (by omega) (by omega) (by omega); omega⟩
  by_cases z1 : da = 0
  · subst z1
    by_cases z2 : 0 < db
    · skip
      go_enter Try.func29, Try.ntmps29
      go_wp2_with fail
      go_region
      all_goals go_wp2
      all_goals go_ret
      all_goals exact ⟨ret_bool (by rw [E.out]; simp [z2]), (((Kept.refl w).alloc _).alloc _).drew⟩
    · obtain rfl : db = 0 := by omega
      go_enter Try.func29, Try.ntmps29
      go_wp2_with fail
      go_region
      all_goals go_wp2
      all_goals go_ret
      all_goals exact ⟨ret_bool (by rw [E.out]; simp), (((Kept.refl w).alloc _).alloc _).drew⟩
  · have q1 : (da == 0) = false := by rw [beq_eq_false_iff_ne]; exact z1
    have Z1 := Lib.hid z1
    clear z1
    by_cases z2 : db = 0
    · subst z2
      go_enter Try.func29, Try.ntmps29
      go_wp2_with fail
      go_region
      all_goals go_wp2
      all_goals go_ret
      all_goals exact ⟨ret_bool (by rw [E.out]; have := Z1.out; simp [this]), (((Kept.refl w).alloc _).alloc _).drew⟩
    · have q2 : (db == 0) = false := by rw [beq_eq_false_iff_ne]; exact z2
      have Z2 := Lib.hid z2
      clear z2
      go_enter Try.func29, Try.ntmps29
      go_wp2_with fail
      go_region
      all_goals go_wp2
      all_goals go_ret
      all_goals exact ⟨ret_bool (by rw [E.out]; rw [if_neg (by have := Z1.out; have := Z2.out; omega)]), (((Kept.refl w).alloc _).alloc _).drew⟩

end Go.Proofs.Ytpkdknddncnceaa
