/-
  The law CalMoves returns true: Add, Last and Months answer what the reference says, for all arguments. Condition: the table of the months' lengths reads as the program lays it (Tab).
-/
import Derived.Test.YtmcfdiojkkblcaaDoorWalkF
namespace Go.Proofs.YtmcfdiojkkblcaaDoor
open Go.RowKit

theorem dayB_range {n : Int} (h : dayB n = true) : 0 ≤ n ∧ n ≤ 292193 := by unfold dayB at h; exact of_decide_eq_true h

theorem bad_b {b n : Int} (h : dayB b = false ∨ b < n) : dayB b = false ∨ (dayB b = true ∧ b < n) := by
  cases c : dayB b
  · exact .inl rfl
  · rcases h with k | k
    · rw [c] at k; cases k
    · exact .inr ⟨rfl, k⟩

set_option maxHeartbeats 16000000 in
theorem calMoves_walk (n k b : Int) (w : World) (hT : Tab w) :
    Calls Tryd.prog 4 #[.int .i64 n, .int .i64 k, .int .i64 b] w fun e w' => e = .returned (.bool true) ∧ Kept w w' := by
  have H30 := Lib.hid (show lastV 0 = 30 by decide)
  cases hn : dayB n
  · have HN := Lib.hid hn
    clear hn
    go_enter Tryd.func4, Tryd.ntmps4
    go_wp2_with fail
    refine (add_no _ _ _ HN.out).mono ?_
    rintro e w1 ⟨rfl, hk1⟩
    go_wp2_with fail
    refine (last_no _ _ HN.out).mono ?_
    rintro e w2 ⟨rfl, hk2⟩
    have hT2 := (hT.kept hk1).kept hk2
    go_wp2_with fail
    refine (months_no1 _ _ _ hT2 HN.out).mono ?_
    rintro e w3 ⟨rfl, hk3⟩
    go_wp2_with fail
    refine (last_yes _ _ (hT2.kept hk3) (by omega) (by omega)).mono ?_
    rintro e w4 ⟨rfl, hk4⟩
    rw [H30.out]
    go_wp2_with fail
    refine (rday_any _ _).mono ?_
    rintro e w5 ⟨rfl, rfl⟩
    rw [HN.out]
    go_wp2
    go_ret
    exact ⟨rfl, ((hk1.trans hk2).trans hk3).trans hk4⟩
  · have HN := Lib.hid hn
    obtain ⟨n0, n1⟩ := dayB_range hn
    clear hn
    by_cases hk : k < -9600 ∨ 9600 < k
    · by_cases hb : n ≤ b ∧ b ≤ 292193
      · have HBt := Lib.hid (show dayB b = true by unfold dayB; exact decide_eq_true (by omega))
        go_enter Tryd.func4, Tryd.ntmps4
        go_wp2_with fail
        refine (add_far _ _ _ hT n0 n1 hk).mono ?_
        rintro e w1 ⟨rfl, hk1⟩
        go_wp2_with fail
        refine (last_yes _ _ (hT.kept hk1) n0 n1).mono ?_
        rintro e w2 ⟨rfl, hk2⟩
        have hT2 := (hT.kept hk1).kept hk2
        have hK2 := hk1.trans hk2
        go_wp2_with fail
        refine (months_yes _ _ _ hT2 n0 hb.1 hb.2).mono ?_
        rintro e w3 ⟨rfl, hk3⟩
        have hT3 := hT2.kept hk3
        have hK3 := hK2.trans hk3
        go_wp2_with fail
        refine (last_yes _ _ hT3 (by omega) (by omega)).mono ?_
        rintro e w4 ⟨rfl, hk4⟩
        rw [H30.out]
        have hK4 := hK3.trans hk4
        clear hk1 hk2 hk3 hk4 hT2 hT3 hK2 hK3 hT H30
        go_wp2_with fail
        refine (rday_any _ _).mono ?_
        rintro e w5 ⟨rfl, rfl⟩
        rw [HN.out]
        go_wp2_with fail
        refine (rlast_any _ _ n0 n1).mono ?_
        rintro e w5 ⟨rfl, hk5⟩
        have hK5 := hK4.trans hk5
        clear hK4 hk5
        go_wp2_with fail
        refine (rday_any _ _).mono ?_
        rintro e w6 ⟨rfl, rfl⟩
        rw [HBt.out]
        go_wp2_with fail
        refine (rmonths_any _ _ _ n0 hb.1 hb.2).mono ?_
        rintro e w7 ⟨rfl, hk7⟩
        have hK7 := hK5.trans hk7
        rcases hk with hk | hk
        all_goals
          go_wp2
          go_ret
          exact ⟨rfl, hK7⟩
      · have HB := Lib.hid (show dayB b = false ∨ b < n by
          by_cases z : b < n
          · exact .inr z
          · left; unfold dayB; exact decide_eq_false (by omega))
        clear hb
        go_enter Tryd.func4, Tryd.ntmps4
        go_wp2_with fail
        refine (add_far _ _ _ hT n0 n1 hk).mono ?_
        rintro e w1 ⟨rfl, hk1⟩
        go_wp2_with fail
        refine (last_yes _ _ (hT.kept hk1) n0 n1).mono ?_
        rintro e w2 ⟨rfl, hk2⟩
        have hT2 := (hT.kept hk1).kept hk2
        have hK2 := hk1.trans hk2
        go_wp2_with fail
        refine (months_no2 _ _ _ hT2 n0 n1 HB.out).mono ?_
        rintro e w3 ⟨rfl, hk3⟩
        have hT3 := hT2.kept hk3
        have hK3 := hK2.trans hk3
        go_wp2_with fail
        refine (last_yes _ _ hT3 (by omega) (by omega)).mono ?_
        rintro e w4 ⟨rfl, hk4⟩
        rw [H30.out]
        have hK4 := hK3.trans hk4
        clear hk1 hk2 hk3 hk4 hT2 hT3 hK2 hK3 hT H30
        go_wp2_with fail
        refine (rday_any _ _).mono ?_
        rintro e w5 ⟨rfl, rfl⟩
        rw [HN.out]
        go_wp2_with fail
        refine (rlast_any _ _ n0 n1).mono ?_
        rintro e w5 ⟨rfl, hk5⟩
        have hK5 := hK4.trans hk5
        clear hK4 hk5
        go_wp2_with fail
        refine (rday_any _ _).mono ?_
        rintro e w6 ⟨rfl, rfl⟩
        rcases bad_b HB.out with c | ⟨c, clt⟩
        · rw [c]
          clear c HB
          rcases hk with hk | hk
          all_goals
            go_wp2
            go_ret
            exact ⟨rfl, hK5⟩
        · rw [c]
          clear c HB
          rcases hk with hk | hk
          all_goals
            go_wp2
            go_ret
            exact ⟨rfl, hK5⟩
    · by_cases hi : 0 ≤ idx n k ∧ idx n k < 9600
      · have HR := Lib.hid (show raddV n k = addV n k by unfold raddV; rw [if_pos hi])
        have hv := (add_date n k n0 n1 hi.1 hi.2).2.2.2.1
        by_cases hb : n ≤ b ∧ b ≤ 292193
        · have HBt := Lib.hid (show dayB b = true by unfold dayB; exact decide_eq_true (by omega))
          go_enter Tryd.func4, Tryd.ntmps4
          go_wp2_with fail
          refine (add_yes _ _ _ hT n0 n1 (by omega) (by omega) hi.1 hi.2).mono ?_
          rintro e w1 ⟨rfl, hk1⟩
          go_wp2_with fail
          refine (last_yes _ _ (hT.kept hk1) n0 n1).mono ?_
          rintro e w2 ⟨rfl, hk2⟩
          have hT2 := (hT.kept hk1).kept hk2
          have hK2 := hk1.trans hk2
          go_wp2_with fail
          refine (months_yes _ _ _ hT2 n0 hb.1 hb.2).mono ?_
          rintro e w3 ⟨rfl, hk3⟩
          have hT3 := hT2.kept hk3
          have hK3 := hK2.trans hk3
          go_wp2_with fail
          refine (last_yes _ _ hT3 (by omega) (by omega)).mono ?_
          rintro e w4 ⟨rfl, hk4⟩
          rw [H30.out]
          have hK4 := hK3.trans hk4
          clear hk1 hk2 hk3 hk4 hT2 hT3 hK2 hK3 hT H30
          go_wp2_with fail
          refine (rday_any _ _).mono ?_
          rintro e w5 ⟨rfl, rfl⟩
          rw [HN.out]
          go_wp2_with fail
          refine (rlast_any _ _ n0 n1).mono ?_
          rintro e w5 ⟨rfl, hk5⟩
          have hK5 := hK4.trans hk5
          clear hK4 hk5
          go_wp2_with fail
          refine (rday_any _ _).mono ?_
          rintro e w6 ⟨rfl, rfl⟩
          rw [HBt.out]
          go_wp2_with fail
          refine (rmonths_any _ _ _ n0 hb.1 hb.2).mono ?_
          rintro e w7 ⟨rfl, hk7⟩
          have hK7 := hK5.trans hk7
          go_wp2_with fail
          refine (radd_any _ _ _ n0 n1 (by omega) (by omega)).mono ?_
          rintro e w8 ⟨rfl, hk8⟩
          rw [HR.out]
          go_wp2
          go_ret
          exact ⟨rfl, hK7.trans hk8⟩
        · have HB := Lib.hid (show dayB b = false ∨ b < n by
            by_cases z : b < n
            · exact .inr z
            · left; unfold dayB; exact decide_eq_false (by omega))
          clear hb
          go_enter Tryd.func4, Tryd.ntmps4
          go_wp2_with fail
          refine (add_yes _ _ _ hT n0 n1 (by omega) (by omega) hi.1 hi.2).mono ?_
          rintro e w1 ⟨rfl, hk1⟩
          go_wp2_with fail
          refine (last_yes _ _ (hT.kept hk1) n0 n1).mono ?_
          rintro e w2 ⟨rfl, hk2⟩
          have hT2 := (hT.kept hk1).kept hk2
          have hK2 := hk1.trans hk2
          go_wp2_with fail
          refine (months_no2 _ _ _ hT2 n0 n1 HB.out).mono ?_
          rintro e w3 ⟨rfl, hk3⟩
          have hT3 := hT2.kept hk3
          have hK3 := hK2.trans hk3
          go_wp2_with fail
          refine (last_yes _ _ hT3 (by omega) (by omega)).mono ?_
          rintro e w4 ⟨rfl, hk4⟩
          rw [H30.out]
          have hK4 := hK3.trans hk4
          clear hk1 hk2 hk3 hk4 hT2 hT3 hK2 hK3 hT H30
          go_wp2_with fail
          refine (rday_any _ _).mono ?_
          rintro e w5 ⟨rfl, rfl⟩
          rw [HN.out]
          go_wp2_with fail
          refine (rlast_any _ _ n0 n1).mono ?_
          rintro e w5 ⟨rfl, hk5⟩
          have hK5 := hK4.trans hk5
          clear hK4 hk5
          go_wp2_with fail
          refine (rday_any _ _).mono ?_
          rintro e w6 ⟨rfl, rfl⟩
          rcases bad_b HB.out with c | ⟨c, clt⟩
          · rw [c]
            clear c HB
            go_wp2_with fail
            refine (radd_any _ _ _ n0 n1 (by omega) (by omega)).mono ?_
            rintro e w8 ⟨rfl, hk8⟩
            rw [HR.out]
            go_wp2
            go_ret
            exact ⟨rfl, hK5.trans hk8⟩
          · rw [c]
            clear c HB
            go_wp2_with fail
            refine (radd_any _ _ _ n0 n1 (by omega) (by omega)).mono ?_
            rintro e w8 ⟨rfl, hk8⟩
            rw [HR.out]
            go_wp2
            go_ret
            exact ⟨rfl, hK5.trans hk8⟩
      · have HR := Lib.hid (show raddV n k = -1 by unfold raddV; rw [if_neg hi])
        replace hi : idx n k < 0 ∨ 9600 ≤ idx n k := by omega
        by_cases hb : n ≤ b ∧ b ≤ 292193
        · have HBt := Lib.hid (show dayB b = true by unfold dayB; exact decide_eq_true (by omega))
          go_enter Tryd.func4, Tryd.ntmps4
          go_wp2_with fail
          refine (add_large _ _ _ hT n0 n1 (by omega) (by omega) hi).mono ?_
          rintro e w1 ⟨rfl, hk1⟩
          go_wp2_with fail
          refine (last_yes _ _ (hT.kept hk1) n0 n1).mono ?_
          rintro e w2 ⟨rfl, hk2⟩
          have hT2 := (hT.kept hk1).kept hk2
          have hK2 := hk1.trans hk2
          go_wp2_with fail
          refine (months_yes _ _ _ hT2 n0 hb.1 hb.2).mono ?_
          rintro e w3 ⟨rfl, hk3⟩
          have hT3 := hT2.kept hk3
          have hK3 := hK2.trans hk3
          go_wp2_with fail
          refine (last_yes _ _ hT3 (by omega) (by omega)).mono ?_
          rintro e w4 ⟨rfl, hk4⟩
          rw [H30.out]
          have hK4 := hK3.trans hk4
          clear hk1 hk2 hk3 hk4 hT2 hT3 hK2 hK3 hT H30
          go_wp2_with fail
          refine (rday_any _ _).mono ?_
          rintro e w5 ⟨rfl, rfl⟩
          rw [HN.out]
          go_wp2_with fail
          refine (rlast_any _ _ n0 n1).mono ?_
          rintro e w5 ⟨rfl, hk5⟩
          have hK5 := hK4.trans hk5
          clear hK4 hk5
          go_wp2_with fail
          refine (rday_any _ _).mono ?_
          rintro e w6 ⟨rfl, rfl⟩
          rw [HBt.out]
          go_wp2_with fail
          refine (rmonths_any _ _ _ n0 hb.1 hb.2).mono ?_
          rintro e w7 ⟨rfl, hk7⟩
          have hK7 := hK5.trans hk7
          go_wp2_with fail
          refine (radd_any _ _ _ n0 n1 (by omega) (by omega)).mono ?_
          rintro e w8 ⟨rfl, hk8⟩
          rw [HR.out]
          go_wp2
          go_ret
          exact ⟨rfl, hK7.trans hk8⟩
        · have HB := Lib.hid (show dayB b = false ∨ b < n by
            by_cases z : b < n
            · exact .inr z
            · left; unfold dayB; exact decide_eq_false (by omega))
          clear hb
          go_enter Tryd.func4, Tryd.ntmps4
          go_wp2_with fail
          refine (add_large _ _ _ hT n0 n1 (by omega) (by omega) hi).mono ?_
          rintro e w1 ⟨rfl, hk1⟩
          go_wp2_with fail
          refine (last_yes _ _ (hT.kept hk1) n0 n1).mono ?_
          rintro e w2 ⟨rfl, hk2⟩
          have hT2 := (hT.kept hk1).kept hk2
          have hK2 := hk1.trans hk2
          go_wp2_with fail
          refine (months_no2 _ _ _ hT2 n0 n1 HB.out).mono ?_
          rintro e w3 ⟨rfl, hk3⟩
          have hT3 := hT2.kept hk3
          have hK3 := hK2.trans hk3
          go_wp2_with fail
          refine (last_yes _ _ hT3 (by omega) (by omega)).mono ?_
          rintro e w4 ⟨rfl, hk4⟩
          rw [H30.out]
          have hK4 := hK3.trans hk4
          clear hk1 hk2 hk3 hk4 hT2 hT3 hK2 hK3 hT H30
          go_wp2_with fail
          refine (rday_any _ _).mono ?_
          rintro e w5 ⟨rfl, rfl⟩
          rw [HN.out]
          go_wp2_with fail
          refine (rlast_any _ _ n0 n1).mono ?_
          rintro e w5 ⟨rfl, hk5⟩
          have hK5 := hK4.trans hk5
          clear hK4 hk5
          go_wp2_with fail
          refine (rday_any _ _).mono ?_
          rintro e w6 ⟨rfl, rfl⟩
          rcases bad_b HB.out with c | ⟨c, clt⟩
          · rw [c]
            clear c HB
            go_wp2_with fail
            refine (radd_any _ _ _ n0 n1 (by omega) (by omega)).mono ?_
            rintro e w8 ⟨rfl, hk8⟩
            rw [HR.out]
            go_wp2
            go_ret
            exact ⟨rfl, hK5.trans hk8⟩
          · rw [c]
            clear c HB
            go_wp2_with fail
            refine (radd_any _ _ _ n0 n1 (by omega) (by omega)).mono ?_
            rintro e w8 ⟨rfl, hk8⟩
            rw [HR.out]
            go_wp2
            go_ret
            exact ⟨rfl, hK5.trans hk8⟩

end Go.Proofs.YtmcfdiojkkblcaaDoor
