/-
  The law SplitEven returns true: all parts are the amount, and no two differ by more than one. No condition but that the number of parts fits 64 bits.
-/
import Derived.Test.YtkbbofpjelgiiabSWalkB
namespace Go.Proofs.Ytkbbofpjelgiiab
open Go.RowKit

theorem even_near (amount : Int) (n : Nat) (hn : 1 ≤ n) : ∃ z : Int, ∀ i, z ≤ evV amount n i ∧ evV amount n i ≤ z + 1 := by
  unfold evV sg
  split
  · exact ⟨-((amount.natAbs : Int) / n) - 1, fun i => by have := evP_near (amount.natAbs : Int) n i hn; omega⟩
  · exact ⟨(amount.natAbs : Int) / n, fun i => evP_near (amount.natAbs : Int) n i hn⟩
theorem evV_bd (amount : Int) (n i : Nat) (hn : 1 ≤ n) (hi : i < n) (h0 : -1000000000000 ≤ amount) (h1 : amount ≤ 1000000000000) : -1000000000000 ≤ evV amount n i ∧ evV amount n i ≤ 1000000000000 := by
  have a := evC_bd (amount.natAbs : Int) n i (by omega) hn (by omega)
  have b := evC_bd (amount.natAbs : Int) n (i + 1) (by omega) hn (by omega)
  unfold evV sg evP
  split <;> omega
theorem even_104 : tab 4 (evV 10 4) = [2, 3, 2, 3] := by decide

set_option maxRecDepth 100000 in
set_option maxHeartbeats 4000000 in
theorem splitEven_walk (amount m : Int) (w : World) :
    Calls Try.prog 6 #[.int .i64 amount, .int .i64 m] w fun e w' => e = .returned (.bool true) ∧ Kept w w' := by
  go_enter Try.func6, Try.ntmps6
  go_wp2_with fail
  refine (even_yes 10 4 _ (by decide) (by omega) (by omega)).mono ?_
  rintro e w1 ⟨p, hp, rfl, hO, hK⟩
  go_wp2_with fail
  have hQ := (Own.lit (w := w1) (l := [2, 3, 2, 3]) (t := 3) rfl).rd
  rw [← even_104] at hQ
  refine (equal_yes (evV 10 4) _ _ _ _ _ _ 4 _ (by omega) (hO.rd.later ((Kept.refl w1).alloc _)) hQ).mono ?_
  rintro e w2 ⟨rfl, hd⟩
  have hK2 := (hK.alloc _).trans hd.kept
  clear hO hK hd hQ
  by_cases h : amB amount = true ∧ 1 ≤ m ∧ m ≤ 40
  · obtain ⟨ha, m1, m2⟩ := h
    obtain ⟨n, rfl⟩ := Int.eq_ofNat_of_zero_le (show 0 ≤ m by omega)
    obtain ⟨a0, a1⟩ := (am_iff amount).1 ha
    have HA := Lib.hid ha
    clear ha
    go_wp2_with fail
    refine (even_yes amount n _ HA.out (by omega) (by omega)).mono ?_
    rintro e w3 ⟨q, hq, rfl, hO, hK⟩
    have hK3 := hK2.trans hK
    have S := Lib.hid (evV_sum amount n (by omega))
    have NR := Lib.hid (even_near amount n (by omega))
    have BD := Lib.hid (fun j (hj : j < n) => evV_bd amount n j (by omega) hj a0 a1)
    go_wp2_with fail
    refine (sum_any (evV amount n) _ _ n _ _ (by omega) (fun j hj => by have := BD.out j hj; omega) hO.rd).mono ?_
    rintro e w4 ⟨rfl, rfl⟩
    rw [S.out]
    go_wp2_with fail
    refine (max_any (evV amount n) _ _ _ n _ (by omega) (by omega) hO.rd).mono ?_
    rintro e w4 ⟨i, hi, rfl, rfl⟩
    go_wp2_with fail
    refine (min_any (evV amount n) _ _ _ n _ (by omega) (by omega) hO.rd).mono ?_
    rintro e w4 ⟨j, hj, rfl, rfl⟩
    have bi := BD.out i hi
    have bj := BD.out j hj
    have le : evV amount n i - evV amount n j ≤ 1 := by
      obtain ⟨z, hz⟩ := NR.out
      have := hz i; have := hz j; omega
    generalize evV amount n i = x at *
    generalize evV amount n j = y at *
    go_wp2
    go_ret
    exact ⟨rfl, hK3⟩
  · have h' : amB amount = false ∨ m < 1 ∨ 40 < m := by
      cases ha : amB amount
      · exact .inl rfl
      · right
        by_cases c : m < 1
        · exact .inl c
        · right
          by_cases c2 : 40 < m
          · exact c2
          · exact absurd ⟨ha, by omega, by omega⟩ h
    have HH := Lib.hid h'
    clear h h'
    go_wp2_with fail
    refine (even_no _ _ _ HH.out).mono ?_
    rintro e w3 ⟨rfl, rfl⟩
    go_wp2
    go_ret
    exact ⟨rfl, hK2⟩

end Go.Proofs.Ytkbbofpjelgiiab
