/-
  By: more weight, no less; the same at k times the weights; mirrored at the negative amount. On numbers alone.
-/
import Derived.Test.YtkbbofpjelgiiabLawSplitSum
namespace Go.Proofs.Ytkbbofpjelgiiab
open Go.RowKit

theorem ByOk.mono {amount : Int} {n u : Nat} {wt d : Nat → Int} (h : ByOk amount n u wt d) (a0 : 0 ≤ amount) (i j : Nat) (hi : i < n) (hj : j < n) (hw : wt j < wt i) : byV amount n u wt d j ≤ byV amount n u wt d i := by
  unfold byV sg
  rw [if_neg (by omega), if_neg (by omega)]
  have T0 := h.T0
  have W0 : (0 : Int) ≤ (amount.natAbs : Int) := by omega
  have ei := bs_eq (amount.natAbs : Int) wt (sumTo wt n) i
  have ej := bs_eq (amount.natAbs : Int) wt (sumTo wt n) j
  have ri := rs_bd (amount.natAbs : Int) wt (sumTo wt n) T0 i
  have rj := rs_bd (amount.natAbs : Int) wt (sumTo wt n) T0 j
  have pi := h.part i hi
  have pj := h.part j hj
  have mm : (amount.natAbs : Int) * wt j ≤ (amount.natAbs : Int) * wt i := Int.mul_le_mul_of_nonneg_left (by omega) W0
  have hb : bs (amount.natAbs : Int) wt (sumTo wt n) j ≤ bs (amount.natAbs : Int) wt (sumTo wt n) i := Int.ediv_le_ediv T0 mm
  have od := h.od
  have hun := h.un
  generalize hbi : bs (amount.natAbs : Int) wt (sumTo wt n) i = bi at *
  generalize hbj : bs (amount.natAbs : Int) wt (sumTo wt n) j = bj at *
  by_cases c : bj < bi
  · rcases pi with ⟨_, p⟩ | ⟨_, p, _⟩ <;> rcases pj with ⟨_, q⟩ | ⟨_, q, _⟩ <;> omega
  obtain rfl : bj = bi := by omega
  rcases pj with ⟨_, q⟩ | ⟨gj, q, qp⟩
  · rcases pi with ⟨_, p⟩ | ⟨_, p, _⟩ <;> omega
  · rcases pi with ⟨ni, p⟩ | ⟨_, p, _⟩
    · exfalso
      have Wp : (0 : Int) < (amount.natAbs : Int) := by
        by_cases z : (amount.natAbs : Int) = 0
        · exfalso
          rw [z] at qp
          unfold rs at qp
          simp at qp
        · omega
      have mlt : (amount.natAbs : Int) * wt j < (amount.natAbs : Int) * wt i := Int.mul_lt_mul_of_pos_left hw Wp
      have rr : rs (amount.natAbs : Int) wt (sumTo wt n) j < rs (amount.natAbs : Int) wt (sumTo wt n) i := by omega
      obtain ⟨b, hb1, hb2⟩ := gj
      obtain ⟨a, ha1, ha2⟩ := od.surj i hi
      apply ni
      by_cases ab : a < b
      · exact ⟨a, by omega, ha2⟩
      · exfalso
        have ne : b ≠ a := by
          intro e; subst e
          rw [hb2] at ha2
          have : j = i := by omega
          subst this; omega
        have l := od.2 b a (Nat.zero_le _) (by omega) ha1
        rw [hb2, ha2] at l
        unfold L keyOf at l
        rw [Int.toNat_natCast, Int.toNat_natCast] at l
        omega
    · omega

theorem sumTo_mul (k : Int) (wt : Nat → Int) (n : Nat) : sumTo (fun i => k * wt i) n = k * sumTo wt n := by
  induction n with
  | zero => simp [sumTo]
  | succ n ih => rw [sumTo, sumTo, ih, Int.mul_add]
theorem bs_mul (W k T : Int) (wt : Nat → Int) (hk : 0 < k) : bs W (fun i => k * wt i) (k * T) = bs W wt T := by
  funext i
  unfold bs
  rw [show W * (k * wt i) = k * (W * wt i) by rw [← Int.mul_assoc, Int.mul_comm W k, Int.mul_assoc], Int.mul_ediv_mul_of_pos _ _ hk]
theorem rs_mul (W k T : Int) (wt : Nat → Int) (hk : 0 < k) : rs W (fun i => k * wt i) (k * T) = fun i => k * rs W wt T i := by
  funext i
  unfold rs
  rw [show W * (k * wt i) = k * (W * wt i) by rw [← Int.mul_assoc, Int.mul_comm W k, Int.mul_assoc], Int.mul_emod_mul_of_pos _ _ hk]
theorem ByOk.scale {amount k : Int} {n u u' : Nat} {wt d d' : Nat → Int} (hk : 0 < k) (h : ByOk amount n u wt d) (h' : ByOk amount n u' (fun i => k * wt i) d') :
    byV amount n u' (fun i => k * wt i) d' = byV amount n u wt d := by
  have e1 := h'.hu
  have o1 := h'.od
  rw [sumTo_mul, bs_mul _ _ _ _ hk] at e1
  rw [sumTo_mul, rs_mul _ _ _ _ hk] at o1
  obtain rfl : u' = u := by have := h.hu; omega
  have o2 : Ordered (keyOf (rs (amount.natAbs : Int) wt (sumTo wt n))) n d' := o1.scale (fun i j _ _ => ⟨fun l => Int.lt_of_mul_lt_mul_left l (by omega), fun l => Int.mul_lt_mul_of_pos_left l hk⟩)
  unfold byV
  rw [sumTo_mul, bs_mul _ _ _ _ hk, addU_eq o2 h.od h.un]
theorem ByOk.mirror {amount : Int} {n u u' : Nat} {wt d d' : Nat → Int} (a0 : 0 ≤ amount) (h : ByOk amount n u wt d) (h' : ByOk (-amount) n u' wt d') (i : Nat) (hi : i < n) :
    byV (-amount) n u' wt d' i = -byV amount n u wt d i := by
  have e1 := h'.hu
  have o1 := h'.od
  rw [Int.natAbs_neg] at e1 o1
  obtain rfl : u' = u := by have := h.hu; omega
  unfold byV
  rw [Int.natAbs_neg, addU_eq o1 h.od h.un]
  unfold sg
  rw [if_neg (show ¬ amount < 0 by omega)]
  by_cases z : amount = 0
  · subst z
    have p := h.part i hi
    have b : bs ((0 : Int).natAbs : Int) wt (sumTo wt n) i = 0 := by unfold bs; simp
    have r : rs ((0 : Int).natAbs : Int) wt (sumTo wt n) i = 0 := by unfold rs; simp
    rcases p with ⟨_, p⟩ | ⟨_, p, q⟩
    · rw [p, b]; simp
    · omega
  · rw [if_pos (show -amount < 0 by omega)]
/-- Small weights: the one error is that there is none. -/
theorem byE_small {amount : Int} {n : Nat} {wt : Nat → Int} (n40 : n ≤ 40) (ha : amB amount = true) (hw : WtOk wt n) : byE amount n wt = if sumTo wt n = 0 then 6 else 0 := by
  unfold byE
  rw [if_neg (by omega), if_neg (by rw [ha, (okWts_iff wt n).2 hw]; simp)]

end Go.Proofs.Ytkbbofpjelgiiab
