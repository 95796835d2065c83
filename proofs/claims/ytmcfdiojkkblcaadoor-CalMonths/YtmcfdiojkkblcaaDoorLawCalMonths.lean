/-
  The law CalMonths returns true: there are at least k months from a to b just if k months behind a is no later than b. Condition: the table of the months' lengths reads as the program lays it (Tab).
-/
import Derived.Test.YtmcfdiojkkblcaaDoorWalkD
namespace Go.Proofs.YtmcfdiojkkblcaaDoor
open Go.RowKit

set_option maxHeartbeats 1000000 in
theorem calMonths_tail (a b k : Int) (a0 : 0 ≤ a) (hab : a ≤ b) (b1 : b ≤ 292193) (k0 : 0 ≤ k) :
    (k ≤ monV a b ∧ 0 ≤ idx a k ∧ idx a k < 9600 ∧ addV a k ≤ b) ∨ (¬ k ≤ monV a b ∧ 0 ≤ idx a k ∧ idx a k < 9600 ∧ ¬ addV a k ≤ b) ∨ (¬ k ≤ monV a b ∧ 9600 ≤ idx a k) := by
  have m := mon_le a b k a0 hab b1 k0
  have i := idx_bd a a0 (by omega)
  have j := idx_add a k
  by_cases c : idx a k < 9600
  · by_cases d : addV a k ≤ b
    · exact .inl ⟨m.2 ⟨c, d⟩, by omega, c, d⟩
    · exact .inr (.inl ⟨fun h => d (m.1 h).2, by omega, c, d⟩)
  · exact .inr (.inr ⟨fun h => c (m.1 h).1, by omega⟩)

set_option maxHeartbeats 1000000 in
theorem calMonths_walk (a b k : Int) (w : World) (hT : Tab w) :
    Calls Tryd.prog 10 #[.int .i64 a, .int .i64 b, .int .i64 k] w fun e w' => e = .returned (.bool true) ∧ Kept w w' := by
  have H31 := Lib.hid (show monV 30 59 = 1 by decide)
  go_enter Tryd.func10, Tryd.ntmps10
  go_wp2_with fail
  refine (months_yes _ _ _ hT (by omega) (by omega) (by omega)).mono ?_
  rintro e w1 ⟨rfl, hk1⟩
  rw [H31.out]
  clear H31
  have hT1 := hT.kept hk1
  go_wp2_with fail
  refine (day_any _ _).mono ?_
  rintro e w2 ⟨r, r0, r1, rfl, rfl⟩
  go_wp2_with fail
  refine (day_any _ _).mono ?_
  rintro e w2 ⟨s, s0, s1, rfl, rfl⟩
  rcases (show r < s ∨ r = s ∨ s < r by omega) with ho | ho | ho
  · have p0 : 0 ≤ r := by omega
    have p1 : r ≤ s := by omega
    have p2 : s ≤ 292193 := by omega
    go_wp2_with fail
    refine (within_any _ _ _ (by omega) (by omega)).mono ?_
    rintro e w2 ⟨t, t0, t1, rfl, rfl⟩
    go_wp2_with fail
    refine (months_yes _ _ _ hT1 (by omega) (by omega) (by omega)).mono ?_
    rintro e w2 ⟨rfl, hk2⟩
    have hmb := mon_bd r s p0 p1 p2
    have hT2 := hT1.kept hk2
    have hK2 := hk1.trans hk2
    clear hT hT1 hk1 hk2
    rcases calMonths_tail r s t p0 p1 p2 t0 with ⟨c1, c2, c3, c4⟩ | ⟨c1, c2, c3, c4⟩ | ⟨c1, c2⟩
    · go_wp2_with fail
      refine (add_yes _ _ _ hT2 p0 (by omega) (by omega) (by omega) c2 c3).mono ?_
      rintro e w3 ⟨rfl, hk3⟩
      go_wp2
      go_ret
      exact ⟨rfl, hK2.trans hk3⟩
    · go_wp2_with fail
      refine (add_yes _ _ _ hT2 p0 (by omega) (by omega) (by omega) c2 c3).mono ?_
      rintro e w3 ⟨rfl, hk3⟩
      go_wp2
      go_ret
      exact ⟨ret_bool (by rw [decide_eq_false (by omega), decide_eq_false (by omega)]; rfl), hK2.trans hk3⟩
    · go_wp2_with fail
      refine (add_large _ _ _ hT2 p0 (by omega) (by omega) (by omega) (.inr c2)).mono ?_
      rintro e w3 ⟨rfl, hk3⟩
      go_wp2
      go_ret
      exact ⟨ret_bool (by rw [decide_eq_false (by omega)]; rfl), hK2.trans hk3⟩
  · subst ho
    have p0 : 0 ≤ r := by omega
    have p1 : r ≤ r := by omega
    have p2 : r ≤ 292193 := by omega
    go_wp2_with fail
    refine (within_any _ _ _ (by omega) (by omega)).mono ?_
    rintro e w2 ⟨t, t0, t1, rfl, rfl⟩
    go_wp2_with fail
    refine (months_yes _ _ _ hT1 (by omega) (by omega) (by omega)).mono ?_
    rintro e w2 ⟨rfl, hk2⟩
    have hmb := mon_bd r r p0 p1 p2
    have hT2 := hT1.kept hk2
    have hK2 := hk1.trans hk2
    clear hT hT1 hk1 hk2
    rcases calMonths_tail r r t p0 p1 p2 t0 with ⟨c1, c2, c3, c4⟩ | ⟨c1, c2, c3, c4⟩ | ⟨c1, c2⟩
    · go_wp2_with fail
      refine (add_yes _ _ _ hT2 p0 (by omega) (by omega) (by omega) c2 c3).mono ?_
      rintro e w3 ⟨rfl, hk3⟩
      go_wp2
      go_ret
      exact ⟨rfl, hK2.trans hk3⟩
    · go_wp2_with fail
      refine (add_yes _ _ _ hT2 p0 (by omega) (by omega) (by omega) c2 c3).mono ?_
      rintro e w3 ⟨rfl, hk3⟩
      go_wp2
      go_ret
      exact ⟨ret_bool (by rw [decide_eq_false (by omega), decide_eq_false (by omega)]; rfl), hK2.trans hk3⟩
    · go_wp2_with fail
      refine (add_large _ _ _ hT2 p0 (by omega) (by omega) (by omega) (.inr c2)).mono ?_
      rintro e w3 ⟨rfl, hk3⟩
      go_wp2
      go_ret
      exact ⟨ret_bool (by rw [decide_eq_false (by omega)]; rfl), hK2.trans hk3⟩
  · have p0 : 0 ≤ s := by omega
    have p1 : s ≤ r := by omega
    have p2 : r ≤ 292193 := by omega
    go_wp2_with fail
    refine (within_any _ _ _ (by omega) (by omega)).mono ?_
    rintro e w2 ⟨t, t0, t1, rfl, rfl⟩
    go_wp2_with fail
    refine (months_yes _ _ _ hT1 (by omega) (by omega) (by omega)).mono ?_
    rintro e w2 ⟨rfl, hk2⟩
    have hmb := mon_bd s r p0 p1 p2
    have hT2 := hT1.kept hk2
    have hK2 := hk1.trans hk2
    clear hT hT1 hk1 hk2
    rcases calMonths_tail s r t p0 p1 p2 t0 with ⟨c1, c2, c3, c4⟩ | ⟨c1, c2, c3, c4⟩ | ⟨c1, c2⟩
    · go_wp2_with fail
      refine (add_yes _ _ _ hT2 p0 (by omega) (by omega) (by omega) c2 c3).mono ?_
      rintro e w3 ⟨rfl, hk3⟩
      go_wp2
      go_ret
      exact ⟨rfl, hK2.trans hk3⟩
    · go_wp2_with fail
      refine (add_yes _ _ _ hT2 p0 (by omega) (by omega) (by omega) c2 c3).mono ?_
      rintro e w3 ⟨rfl, hk3⟩
      go_wp2
      go_ret
      exact ⟨ret_bool (by rw [decide_eq_false (by omega), decide_eq_false (by omega)]; rfl), hK2.trans hk3⟩
    · go_wp2_with fail
      refine (add_large _ _ _ hT2 p0 (by omega) (by omega) (by omega) (.inr c2)).mono ?_
      rintro e w3 ⟨rfl, hk3⟩
      go_wp2
      go_ret
      exact ⟨ret_bool (by rw [decide_eq_false (by omega)]; rfl), hK2.trans hk3⟩

end Go.Proofs.YtmcfdiojkkblcaaDoor
