/-
  The law SplitSum returns true: all parts are the amount; each is its share, rounded down or up. Condition: the numbers fit 64 bits.
-/
import Derived.Test.YtjfflnkocajkeaaSMathC
namespace Go.Proofs.Ytjfflnkocajkeaa
open Go.RowKit

/-- What By gives, as a row: with the order that it found. -/
def byV (amount : Int) (n u : Nat) (wt d : Nat → Int) : Nat → Int := fun i => sg amount (addU d (bs (amount.natAbs : Int) wt (sumTo wt n)) u i)
/-- What is known where By returns no error. -/
structure ByOk (amount : Int) (n u : Nat) (wt d : Nat → Int) : Prop where
  n1 : 1 ≤ n
  n40 : n ≤ 40
  am : -1000000000000 ≤ amount ∧ amount ≤ 1000000000000
  wts : WtOk wt n
  T0 : 0 < sumTo wt n
  hu : (amount.natAbs : Int) - sumTo (bs (amount.natAbs : Int) wt (sumTo wt n)) n = u
  un : u ≤ n
  od : Ordered (keyOf (rs (amount.natAbs : Int) wt (sumTo wt n))) n d
theorem byE_ok {amount : Int} {n : Nat} {wt : Nat → Int} (he : byE amount n wt = 0) : n ≤ 40 ∧ amB amount = true ∧ okWts wt n = true ∧ sumTo wt n ≠ 0 := by
  unfold byE at he
  by_cases c : 40 < n
  · rw [if_pos c] at he; omega
  · rw [if_neg c] at he
    by_cases c2 : amB amount = false ∨ okWts wt n = false
    · rw [if_pos c2] at he; omega
    · rw [if_neg c2] at he
      by_cases c3 : sumTo wt n = 0
      · rw [if_pos c3] at he; omega
      · refine ⟨by omega, ?_, ?_, c3⟩
        · cases z : amB amount
          · exact absurd (.inl z) c2
          · rfl
        · cases z : okWts wt n
          · exact absurd (.inr z) c2
          · rfl
/-- The number of units, where there is no error. -/
theorem units_ex {amount : Int} {n : Nat} {wt : Nat → Int} (he : byE amount n wt = 0) : ∃ u : Nat, (amount.natAbs : Int) - sumTo (bs (amount.natAbs : Int) wt (sumTo wt n)) n = u ∧ ∀ d, Ordered (keyOf (rs (amount.natAbs : Int) wt (sumTo wt n))) n d → ByOk amount n u wt d := by
  obtain ⟨n40, h1, h2, hz⟩ := byE_ok he
  have hw := (okWts_iff wt n).1 h2
  have hT0 : 0 < sumTo wt n := by have := sum_nonneg wt n (fun i hi => (hw i hi).1); omega
  have ub := units_bd (W := (amount.natAbs : Int)) (wt := wt) (n := n) (sumTo wt n) rfl hT0
  obtain ⟨u, hu⟩ := Int.eq_ofNat_of_zero_le ub.1
  have n1 : 1 ≤ n := by
    by_cases c : n = 0
    · subst c; simp [sumTo] at hz
    · omega
  exact ⟨u, hu, fun d od => ⟨n1, n40, (am_iff amount).1 h1, hw, hT0, hu, by omega, od⟩⟩
section
variable {amount : Int} {n u : Nat} {wt d : Nat → Int}
theorem ByOk.sum (h : ByOk amount n u wt d) : sumTo (byV amount n u wt d) n = amount := by
  unfold byV
  rw [sumTo_sg, sum_addU d _ n u h.od.inR h.un]
  have := h.hu
  unfold sg; split <;> omega
/-- A part is its share, less what is left of it, or what is missing more. -/
theorem ByOk.part (h : ByOk amount n u wt d) (i : Nat) (hi : i < n) :
    (¬ Giv d u i ∧ addU d (bs (amount.natAbs : Int) wt (sumTo wt n)) u i = bs (amount.natAbs : Int) wt (sumTo wt n) i) ∨
    (Giv d u i ∧ addU d (bs (amount.natAbs : Int) wt (sumTo wt n)) u i = bs (amount.natAbs : Int) wt (sumTo wt n) i + 1 ∧ 0 < rs (amount.natAbs : Int) wt (sumTo wt n) i) := by
  by_cases g : Giv d u i
  · refine .inr ⟨g, addU_yes h.od h.un i g, ?_⟩
    refine giv_pos h.od h.un (fun j _ => rs_bd _ _ _ h.T0 j) h.T0 ?_ i hi g
    rw [sum_rs _ _ _ _ rfl, h.hu]
  · exact .inl ⟨g, addU_not d _ n u h.od.inR h.un i g⟩
theorem ByOk.near (h : ByOk amount n u wt d) (i : Nat) (hi : i < n) :
    byV amount n u wt d i * sumTo wt n - amount * wt i < sumTo wt n ∧ -(byV amount n u wt d i * sumTo wt n - amount * wt i) < sumTo wt n := by
  have e := bs_eq (amount.natAbs : Int) wt (sumTo wt n) i
  have r := rs_bd (amount.natAbs : Int) wt (sumTo wt n) h.T0 i
  have key : ∃ z : Int, addU d (bs (amount.natAbs : Int) wt (sumTo wt n)) u i * sumTo wt n - (amount.natAbs : Int) * wt i = z ∧ z < sumTo wt n ∧ -z < sumTo wt n := by
    refine ⟨_, rfl, ?_⟩
    rcases h.part i hi with ⟨_, p⟩ | ⟨_, p, q⟩
    · rw [p, Int.mul_comm]; omega
    · rw [p, Int.add_mul, Int.mul_comm (bs _ _ _ _)]; omega
  obtain ⟨z, k1, k2, k3⟩ := key
  unfold byV sg
  split
  · have a : amount = -(amount.natAbs : Int) := by omega
    have b : -addU d (bs (amount.natAbs : Int) wt (sumTo wt n)) u i * sumTo wt n - amount * wt i = -z := by
      rw [Int.neg_mul]; conv => lhs; rw [a]
      rw [Int.natAbs_neg, Int.natAbs_natCast, Int.neg_mul]; omega
    rw [b]; omega
  · have a : amount = (amount.natAbs : Int) := by omega
    have b : addU d (bs (amount.natAbs : Int) wt (sumTo wt n)) u i * sumTo wt n - amount * wt i = z := by
      rw [← k1]; congr 2
    rw [b]; omega
theorem ByOk.bd (h : ByOk amount n u wt d) (i : Nat) (hi : i < n) : -1000000000001 ≤ byV amount n u wt d i ∧ byV amount n u wt d i ≤ 1000000000001 := by
  have b := bs_bd h.wts (show (0 : Int) ≤ (amount.natAbs : Int) by omega) (sumTo wt n) rfl h.T0 i hi
  have a := h.am
  unfold byV sg
  rcases h.part i hi with ⟨_, p⟩ | ⟨_, p, q⟩
  · rw [p]; split <;> omega
  · rw [p]; split <;> omega
end
/-- By of the tests: the places come as they are. -/
theorem ordered_idn (r : Nat → Int) (n : Nat) (h : ∀ j, j < n → ∀ i, i < j → r j ≤ r i) : Ordered (keyOf r) n idn :=
  ⟨SegPerm.refl _ _ _, fun i j _ ij jn => by
    have := h j jn i ij
    unfold L keyOf idn
    rw [Int.toNat_natCast, Int.toNat_natCast]; omega⟩
def lit (l : List Int) : Nat → Int := fun j => l.getD j 0
theorem tab_lit (l : List Int) : tab l.length (lit l) = l := (tab_list l).symm
theorem by_433 (d : Nat → Int) (h : Ordered (keyOf (rs 10 (lit [1, 1, 1]) 3)) 3 d) : tab 3 (fun i => sg 10 (addU d (bs 10 (lit [1, 1, 1]) 3) 1 i)) = [4, 3, 3] := by
  rw [addU_eq h (ordered_idn _ 3 (by decide)) (by omega)]
  decide

end Go.Proofs.Ytjfflnkocajkeaa
