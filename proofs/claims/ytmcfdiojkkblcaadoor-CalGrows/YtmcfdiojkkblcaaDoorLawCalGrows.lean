/-
  The law CalGrows returns true: from a later day on, or by more months, it is no sooner, and the month is the one that comes out. Condition: the table of the months' lengths reads as the program lays it (Tab).
-/
import Derived.Test.YtmcfdiojkkblcaaDoorWalkD
namespace Go.Proofs.YtmcfdiojkkblcaaDoor
open Go.RowKit

theorem grows_date (n k : Int) (n0 : 0 ≤ n) (n1 : n ≤ 292193) (h2 : 0 ≤ idx n k) (h3 : idx n k < 9600) : 12 * Cal.Y (addV n k) + Cal.M (addV n k) = 12 * Cal.Y n + Cal.M n + k ∧ Cal.D (addV n k) ≤ Cal.D n := by
  obtain ⟨a, b, c, _, _⟩ := add_date n k n0 n1 h2 h3
  rw [a, b, c]
  have := addD_le n k
  refine ⟨?_, this⟩
  have d := dbd n n0 n1
  unfold idx; omega

set_option maxHeartbeats 8000000 in
theorem calGrows_walk (n m k j : Int) (w : World) (hT : Tab w) :
    Calls Tryd.prog 9 #[.int .i64 n, .int .i64 m, .int .i64 k, .int .i64 j] w fun e w' => e = .returned (.bool true) ∧ Kept w w' := by
  have H31 := Lib.hid (show addV 0 12 = 366 by decide)
  go_enter Tryd.func9, Tryd.ntmps9
  go_wp2_with fail
  refine (add_yes _ _ _ hT (by omega) (by omega) (by omega) (by omega) (by decide) (by decide)).mono ?_
  rintro e w1 ⟨rfl, hk1⟩
  rw [H31.out]
  clear H31
  have hT1 := hT.kept hk1
  clear hT
  go_wp2_with fail
  refine (day_any _ _).mono ?_
  rintro e w2 ⟨r, r0, r1, rfl, rfl⟩
  go_wp2_with fail
  refine (day_any _ _).mono ?_
  rintro e w2 ⟨s, s0, s1, rfl, rfl⟩
  rcases (show r < s ∨ r = s ∨ s < r by omega) with ho | ho | ho
  · have p0 : 0 ≤ r := by omega
    have p1 : r ≤ s := by omega
    have p2 : s ≤ 292193 := by omega
    go_wp2_with fail
    refine (within_any _ _ _ (by omega) (by omega)).mono ?_
    rintro e w2 ⟨t, t0, t1, rfl, rfl⟩
    go_wp2_with fail
    refine (within_any _ _ _ (by omega) (by omega)).mono ?_
    rintro e w2 ⟨u, u0, u1, rfl, rfl⟩
    by_cases c1 : 0 ≤ idx r (t - 2000) ∧ idx r (t - 2000) < 9600
    · obtain ⟨c1, c1'⟩ := c1
      obtain ⟨v1, v2, v3, v4, v5⟩ := add_date r (t - 2000) p0 (by omega) c1 c1'
      obtain ⟨g1, g2⟩ := grows_date r (t - 2000) p0 (by omega) c1 c1'
      have G1 := Lib.hid g1
      have db1 := dbd r p0 (by omega)
      have db2 := dbd _ v4 v5
      clear v1 v2 v3 g1
      go_wp2_with fail
      refine (add_yes _ _ _ hT1 p0 (by omega) (by omega) (by omega) c1 c1').mono ?_
      rintro e w2 ⟨rfl, hk2⟩
      have hT2 := hT1.kept hk2
      have hK2 := hk1.trans hk2
      by_cases c2 : 0 ≤ idx s (t - 2000) ∧ idx s (t - 2000) < 9600
      · obtain ⟨c2, c2'⟩ := c2
        have o1 := add_mono r s (t - 2000) p0 p1 p2 c1 c1' c2 c2'
        go_wp2_with fail
        refine (add_yes _ _ _ hT2 (by omega) (by omega) (by omega) (by omega) c2 c2').mono ?_
        rintro e w3 ⟨rfl, hk3⟩
        have hT3 := hT2.kept hk3
        have hK3 := hK2.trans hk3
        by_cases c3 : 0 ≤ idx r (t - 2000 + u) ∧ idx r (t - 2000 + u) < 9600
        · obtain ⟨c3, c3'⟩ := c3
          have o2 := add_more r (t - 2000) (t - 2000 + u) p0 (by omega) (by omega) c1 c1' c3 c3'
          go_wp2_with fail
          refine (add_yes _ _ _ hT3 p0 (by omega) (by omega) (by omega) c3 c3').mono ?_
          rintro e w4 ⟨rfl, hk4⟩
          have hT4 := hT3.kept hk4
          have hK4 := hK3.trans hk4
          clear hT1 hT2 hT3 hk1 hk2 hk3 hk4 hK2 hK3
          go_wp2_with fail
          refine (date_yes _ _ hT4 p0 (by omega)).mono ?_
          rintro e w5 ⟨rfl, hk5⟩
          go_wp2_with fail
          refine (date_yes _ _ ((hT4.kept hk5).alloc _) v4 v5).mono ?_
          rintro e w6 ⟨rfl, hk6⟩
          obtain ⟨hz, x0, x1, x2⟩ := box_later hk6
          have hK6 := ((hK4.trans hk5).alloc _).trans hk6
          clear hT4 hK4 hk5 hk6
          go_wp2
          go_ret
          exact ⟨ret_bool (by have := G1.out; simp <;> omega), hK6.alloc _⟩
        · go_wp2_with fail
          refine (add_large _ _ _ hT3 p0 (by omega) (by omega) (by omega) (by omega)).mono ?_
          rintro e w4 ⟨rfl, hk4⟩
          have hT4 := hT3.kept hk4
          have hK4 := hK3.trans hk4
          clear hT1 hT2 hT3 hk1 hk2 hk3 hk4 hK2 hK3
          go_wp2_with fail
          refine (date_yes _ _ hT4 p0 (by omega)).mono ?_
          rintro e w5 ⟨rfl, hk5⟩
          go_wp2_with fail
          refine (date_yes _ _ ((hT4.kept hk5).alloc _) v4 v5).mono ?_
          rintro e w6 ⟨rfl, hk6⟩
          obtain ⟨hz, x0, x1, x2⟩ := box_later hk6
          have hK6 := ((hK4.trans hk5).alloc _).trans hk6
          clear hT4 hK4 hk5 hk6
          go_wp2
          go_ret
          exact ⟨ret_bool (by have := G1.out; simp <;> omega), hK6.alloc _⟩
      · go_wp2_with fail
        refine (add_large _ _ _ hT2 (by omega) (by omega) (by omega) (by omega) (by omega)).mono ?_
        rintro e w3 ⟨rfl, hk3⟩
        have hT3 := hT2.kept hk3
        have hK3 := hK2.trans hk3
        by_cases c3 : 0 ≤ idx r (t - 2000 + u) ∧ idx r (t - 2000 + u) < 9600
        · obtain ⟨c3, c3'⟩ := c3
          have o2 := add_more r (t - 2000) (t - 2000 + u) p0 (by omega) (by omega) c1 c1' c3 c3'
          go_wp2_with fail
          refine (add_yes _ _ _ hT3 p0 (by omega) (by omega) (by omega) c3 c3').mono ?_
          rintro e w4 ⟨rfl, hk4⟩
          have hT4 := hT3.kept hk4
          have hK4 := hK3.trans hk4
          clear hT1 hT2 hT3 hk1 hk2 hk3 hk4 hK2 hK3
          go_wp2_with fail
          refine (date_yes _ _ hT4 p0 (by omega)).mono ?_
          rintro e w5 ⟨rfl, hk5⟩
          go_wp2_with fail
          refine (date_yes _ _ ((hT4.kept hk5).alloc _) v4 v5).mono ?_
          rintro e w6 ⟨rfl, hk6⟩
          obtain ⟨hz, x0, x1, x2⟩ := box_later hk6
          have hK6 := ((hK4.trans hk5).alloc _).trans hk6
          clear hT4 hK4 hk5 hk6
          go_wp2
          go_ret
          exact ⟨ret_bool (by have := G1.out; simp <;> omega), hK6.alloc _⟩
        · go_wp2_with fail
          refine (add_large _ _ _ hT3 p0 (by omega) (by omega) (by omega) (by omega)).mono ?_
          rintro e w4 ⟨rfl, hk4⟩
          have hT4 := hT3.kept hk4
          have hK4 := hK3.trans hk4
          clear hT1 hT2 hT3 hk1 hk2 hk3 hk4 hK2 hK3
          go_wp2_with fail
          refine (date_yes _ _ hT4 p0 (by omega)).mono ?_
          rintro e w5 ⟨rfl, hk5⟩
          go_wp2_with fail
          refine (date_yes _ _ ((hT4.kept hk5).alloc _) v4 v5).mono ?_
          rintro e w6 ⟨rfl, hk6⟩
          obtain ⟨hz, x0, x1, x2⟩ := box_later hk6
          have hK6 := ((hK4.trans hk5).alloc _).trans hk6
          clear hT4 hK4 hk5 hk6
          go_wp2
          go_ret
          exact ⟨ret_bool (by have := G1.out; simp <;> omega), hK6.alloc _⟩
    · go_wp2_with fail
      refine (add_large _ _ _ hT1 p0 (by omega) (by omega) (by omega) (by omega)).mono ?_
      rintro e w2 ⟨rfl, hk2⟩
      have hT2 := hT1.kept hk2
      have hK2 := hk1.trans hk2
      by_cases c2 : 0 ≤ idx s (t - 2000) ∧ idx s (t - 2000) < 9600
      · obtain ⟨c2, c2'⟩ := c2
        go_wp2_with fail
        refine (add_yes _ _ _ hT2 (by omega) (by omega) (by omega) (by omega) c2 c2').mono ?_
        rintro e w3 ⟨rfl, hk3⟩
        have hT3 := hT2.kept hk3
        have hK3 := hK2.trans hk3
        by_cases c3 : 0 ≤ idx r (t - 2000 + u) ∧ idx r (t - 2000 + u) < 9600
        · obtain ⟨c3, c3'⟩ := c3
          go_wp2_with fail
          refine (add_yes _ _ _ hT3 p0 (by omega) (by omega) (by omega) c3 c3').mono ?_
          rintro e w4 ⟨rfl, hk4⟩
          go_wp2
          go_ret
          exact ⟨rfl, hK3.trans hk4⟩
        · go_wp2_with fail
          refine (add_large _ _ _ hT3 p0 (by omega) (by omega) (by omega) (by omega)).mono ?_
          rintro e w4 ⟨rfl, hk4⟩
          go_wp2
          go_ret
          exact ⟨rfl, hK3.trans hk4⟩
      · go_wp2_with fail
        refine (add_large _ _ _ hT2 (by omega) (by omega) (by omega) (by omega) (by omega)).mono ?_
        rintro e w3 ⟨rfl, hk3⟩
        have hT3 := hT2.kept hk3
        have hK3 := hK2.trans hk3
        by_cases c3 : 0 ≤ idx r (t - 2000 + u) ∧ idx r (t - 2000 + u) < 9600
        · obtain ⟨c3, c3'⟩ := c3
          go_wp2_with fail
          refine (add_yes _ _ _ hT3 p0 (by omega) (by omega) (by omega) c3 c3').mono ?_
          rintro e w4 ⟨rfl, hk4⟩
          go_wp2
          go_ret
          exact ⟨rfl, hK3.trans hk4⟩
        · go_wp2_with fail
          refine (add_large _ _ _ hT3 p0 (by omega) (by omega) (by omega) (by omega)).mono ?_
          rintro e w4 ⟨rfl, hk4⟩
          go_wp2
          go_ret
          exact ⟨rfl, hK3.trans hk4⟩
  · subst ho
    have p0 : 0 ≤ r := by omega
    have p1 : r ≤ r := by omega
    have p2 : r ≤ 292193 := by omega
    go_wp2_with fail
    refine (within_any _ _ _ (by omega) (by omega)).mono ?_
    rintro e w2 ⟨t, t0, t1, rfl, rfl⟩
    go_wp2_with fail
    refine (within_any _ _ _ (by omega) (by omega)).mono ?_
    rintro e w2 ⟨u, u0, u1, rfl, rfl⟩
    by_cases c1 : 0 ≤ idx r (t - 2000) ∧ idx r (t - 2000) < 9600
    · obtain ⟨c1, c1'⟩ := c1
      obtain ⟨v1, v2, v3, v4, v5⟩ := add_date r (t - 2000) p0 (by omega) c1 c1'
      obtain ⟨g1, g2⟩ := grows_date r (t - 2000) p0 (by omega) c1 c1'
      have G1 := Lib.hid g1
      have db1 := dbd r p0 (by omega)
      have db2 := dbd _ v4 v5
      clear v1 v2 v3 g1
      go_wp2_with fail
      refine (add_yes _ _ _ hT1 p0 (by omega) (by omega) (by omega) c1 c1').mono ?_
      rintro e w2 ⟨rfl, hk2⟩
      have hT2 := hT1.kept hk2
      have hK2 := hk1.trans hk2
      have c2 := c1
      have c2' := c1'
      go_wp2_with fail
      refine (add_yes _ _ _ hT2 (by omega) (by omega) (by omega) (by omega) c2 c2').mono ?_
      rintro e w3 ⟨rfl, hk3⟩
      have hT3 := hT2.kept hk3
      have hK3 := hK2.trans hk3
      by_cases c3 : 0 ≤ idx r (t - 2000 + u) ∧ idx r (t - 2000 + u) < 9600
      · obtain ⟨c3, c3'⟩ := c3
        have o2 := add_more r (t - 2000) (t - 2000 + u) p0 (by omega) (by omega) c1 c1' c3 c3'
        go_wp2_with fail
        refine (add_yes _ _ _ hT3 p0 (by omega) (by omega) (by omega) c3 c3').mono ?_
        rintro e w4 ⟨rfl, hk4⟩
        have hT4 := hT3.kept hk4
        have hK4 := hK3.trans hk4
        clear hT1 hT2 hT3 hk1 hk2 hk3 hk4 hK2 hK3
        go_wp2_with fail
        refine (date_yes _ _ hT4 p0 (by omega)).mono ?_
        rintro e w5 ⟨rfl, hk5⟩
        go_wp2_with fail
        refine (date_yes _ _ ((hT4.kept hk5).alloc _) v4 v5).mono ?_
        rintro e w6 ⟨rfl, hk6⟩
        obtain ⟨hz, x0, x1, x2⟩ := box_later hk6
        have hK6 := ((hK4.trans hk5).alloc _).trans hk6
        clear hT4 hK4 hk5 hk6
        go_wp2
        go_ret
        exact ⟨ret_bool (by have := G1.out; simp <;> omega), hK6.alloc _⟩
      · go_wp2_with fail
        refine (add_large _ _ _ hT3 p0 (by omega) (by omega) (by omega) (by omega)).mono ?_
        rintro e w4 ⟨rfl, hk4⟩
        have hT4 := hT3.kept hk4
        have hK4 := hK3.trans hk4
        clear hT1 hT2 hT3 hk1 hk2 hk3 hk4 hK2 hK3
        go_wp2_with fail
        refine (date_yes _ _ hT4 p0 (by omega)).mono ?_
        rintro e w5 ⟨rfl, hk5⟩
        go_wp2_with fail
        refine (date_yes _ _ ((hT4.kept hk5).alloc _) v4 v5).mono ?_
        rintro e w6 ⟨rfl, hk6⟩
        obtain ⟨hz, x0, x1, x2⟩ := box_later hk6
        have hK6 := ((hK4.trans hk5).alloc _).trans hk6
        clear hT4 hK4 hk5 hk6
        go_wp2
        go_ret
        exact ⟨ret_bool (by have := G1.out; simp <;> omega), hK6.alloc _⟩
    · go_wp2_with fail
      refine (add_large _ _ _ hT1 p0 (by omega) (by omega) (by omega) (by omega)).mono ?_
      rintro e w2 ⟨rfl, hk2⟩
      have hT2 := hT1.kept hk2
      have hK2 := hk1.trans hk2
      go_wp2_with fail
      refine (add_large _ _ _ hT2 (by omega) (by omega) (by omega) (by omega) (by omega)).mono ?_
      rintro e w3 ⟨rfl, hk3⟩
      have hT3 := hT2.kept hk3
      have hK3 := hK2.trans hk3
      by_cases c3 : 0 ≤ idx r (t - 2000 + u) ∧ idx r (t - 2000 + u) < 9600
      · obtain ⟨c3, c3'⟩ := c3
        go_wp2_with fail
        refine (add_yes _ _ _ hT3 p0 (by omega) (by omega) (by omega) c3 c3').mono ?_
        rintro e w4 ⟨rfl, hk4⟩
        go_wp2
        go_ret
        exact ⟨rfl, hK3.trans hk4⟩
      · go_wp2_with fail
        refine (add_large _ _ _ hT3 p0 (by omega) (by omega) (by omega) (by omega)).mono ?_
        rintro e w4 ⟨rfl, hk4⟩
        go_wp2
        go_ret
        exact ⟨rfl, hK3.trans hk4⟩
  · have p0 : 0 ≤ s := by omega
    have p1 : s ≤ r := by omega
    have p2 : r ≤ 292193 := by omega
    go_wp2_with fail
    refine (within_any _ _ _ (by omega) (by omega)).mono ?_
    rintro e w2 ⟨t, t0, t1, rfl, rfl⟩
    go_wp2_with fail
    refine (within_any _ _ _ (by omega) (by omega)).mono ?_
    rintro e w2 ⟨u, u0, u1, rfl, rfl⟩
    by_cases c1 : 0 ≤ idx s (t - 2000) ∧ idx s (t - 2000) < 9600
    · obtain ⟨c1, c1'⟩ := c1
      obtain ⟨v1, v2, v3, v4, v5⟩ := add_date s (t - 2000) p0 (by omega) c1 c1'
      obtain ⟨g1, g2⟩ := grows_date s (t - 2000) p0 (by omega) c1 c1'
      have G1 := Lib.hid g1
      have db1 := dbd s p0 (by omega)
      have db2 := dbd _ v4 v5
      clear v1 v2 v3 g1
      go_wp2_with fail
      refine (add_yes _ _ _ hT1 p0 (by omega) (by omega) (by omega) c1 c1').mono ?_
      rintro e w2 ⟨rfl, hk2⟩
      have hT2 := hT1.kept hk2
      have hK2 := hk1.trans hk2
      by_cases c2 : 0 ≤ idx r (t - 2000) ∧ idx r (t - 2000) < 9600
      · obtain ⟨c2, c2'⟩ := c2
        have o1 := add_mono s r (t - 2000) p0 p1 p2 c1 c1' c2 c2'
        go_wp2_with fail
        refine (add_yes _ _ _ hT2 (by omega) (by omega) (by omega) (by omega) c2 c2').mono ?_
        rintro e w3 ⟨rfl, hk3⟩
        have hT3 := hT2.kept hk3
        have hK3 := hK2.trans hk3
        by_cases c3 : 0 ≤ idx s (t - 2000 + u) ∧ idx s (t - 2000 + u) < 9600
        · obtain ⟨c3, c3'⟩ := c3
          have o2 := add_more s (t - 2000) (t - 2000 + u) p0 (by omega) (by omega) c1 c1' c3 c3'
          go_wp2_with fail
          refine (add_yes _ _ _ hT3 p0 (by omega) (by omega) (by omega) c3 c3').mono ?_
          rintro e w4 ⟨rfl, hk4⟩
          have hT4 := hT3.kept hk4
          have hK4 := hK3.trans hk4
          clear hT1 hT2 hT3 hk1 hk2 hk3 hk4 hK2 hK3
          go_wp2_with fail
          refine (date_yes _ _ hT4 p0 (by omega)).mono ?_
          rintro e w5 ⟨rfl, hk5⟩
          go_wp2_with fail
          refine (date_yes _ _ ((hT4.kept hk5).alloc _) v4 v5).mono ?_
          rintro e w6 ⟨rfl, hk6⟩
          obtain ⟨hz, x0, x1, x2⟩ := box_later hk6
          have hK6 := ((hK4.trans hk5).alloc _).trans hk6
          clear hT4 hK4 hk5 hk6
          go_wp2
          go_ret
          exact ⟨ret_bool (by have := G1.out; simp <;> omega), hK6.alloc _⟩
        · go_wp2_with fail
          refine (add_large _ _ _ hT3 p0 (by omega) (by omega) (by omega) (by omega)).mono ?_
          rintro e w4 ⟨rfl, hk4⟩
          have hT4 := hT3.kept hk4
          have hK4 := hK3.trans hk4
          clear hT1 hT2 hT3 hk1 hk2 hk3 hk4 hK2 hK3
          go_wp2_with fail
          refine (date_yes _ _ hT4 p0 (by omega)).mono ?_
          rintro e w5 ⟨rfl, hk5⟩
          go_wp2_with fail
          refine (date_yes _ _ ((hT4.kept hk5).alloc _) v4 v5).mono ?_
          rintro e w6 ⟨rfl, hk6⟩
          obtain ⟨hz, x0, x1, x2⟩ := box_later hk6
          have hK6 := ((hK4.trans hk5).alloc _).trans hk6
          clear hT4 hK4 hk5 hk6
          go_wp2
          go_ret
          exact ⟨ret_bool (by have := G1.out; simp <;> omega), hK6.alloc _⟩
      · go_wp2_with fail
        refine (add_large _ _ _ hT2 (by omega) (by omega) (by omega) (by omega) (by omega)).mono ?_
        rintro e w3 ⟨rfl, hk3⟩
        have hT3 := hT2.kept hk3
        have hK3 := hK2.trans hk3
        by_cases c3 : 0 ≤ idx s (t - 2000 + u) ∧ idx s (t - 2000 + u) < 9600
        · obtain ⟨c3, c3'⟩ := c3
          have o2 := add_more s (t - 2000) (t - 2000 + u) p0 (by omega) (by omega) c1 c1' c3 c3'
          go_wp2_with fail
          refine (add_yes _ _ _ hT3 p0 (by omega) (by omega) (by omega) c3 c3').mono ?_
          rintro e w4 ⟨rfl, hk4⟩
          have hT4 := hT3.kept hk4
          have hK4 := hK3.trans hk4
          clear hT1 hT2 hT3 hk1 hk2 hk3 hk4 hK2 hK3
          go_wp2_with fail
          refine (date_yes _ _ hT4 p0 (by omega)).mono ?_
          rintro e w5 ⟨rfl, hk5⟩
          go_wp2_with fail
          refine (date_yes _ _ ((hT4.kept hk5).alloc _) v4 v5).mono ?_
          rintro e w6 ⟨rfl, hk6⟩
          obtain ⟨hz, x0, x1, x2⟩ := box_later hk6
          have hK6 := ((hK4.trans hk5).alloc _).trans hk6
          clear hT4 hK4 hk5 hk6
          go_wp2
          go_ret
          exact ⟨ret_bool (by have := G1.out; simp <;> omega), hK6.alloc _⟩
        · go_wp2_with fail
          refine (add_large _ _ _ hT3 p0 (by omega) (by omega) (by omega) (by omega)).mono ?_
          rintro e w4 ⟨rfl, hk4⟩
          have hT4 := hT3.kept hk4
          have hK4 := hK3.trans hk4
          clear hT1 hT2 hT3 hk1 hk2 hk3 hk4 hK2 hK3
          go_wp2_with fail
          refine (date_yes _ _ hT4 p0 (by omega)).mono ?_
          rintro e w5 ⟨rfl, hk5⟩
          go_wp2_with fail
          refine (date_yes _ _ ((hT4.kept hk5).alloc _) v4 v5).mono ?_
          rintro e w6 ⟨rfl, hk6⟩
          obtain ⟨hz, x0, x1, x2⟩ := box_later hk6
          have hK6 := ((hK4.trans hk5).alloc _).trans hk6
          clear hT4 hK4 hk5 hk6
          go_wp2
          go_ret
          exact ⟨ret_bool (by have := G1.out; simp <;> omega), hK6.alloc _⟩
    · go_wp2_with fail
      refine (add_large _ _ _ hT1 p0 (by omega) (by omega) (by omega) (by omega)).mono ?_
      rintro e w2 ⟨rfl, hk2⟩
      have hT2 := hT1.kept hk2
      have hK2 := hk1.trans hk2
      by_cases c2 : 0 ≤ idx r (t - 2000) ∧ idx r (t - 2000) < 9600
      · obtain ⟨c2, c2'⟩ := c2
        go_wp2_with fail
        refine (add_yes _ _ _ hT2 (by omega) (by omega) (by omega) (by omega) c2 c2').mono ?_
        rintro e w3 ⟨rfl, hk3⟩
        have hT3 := hT2.kept hk3
        have hK3 := hK2.trans hk3
        by_cases c3 : 0 ≤ idx s (t - 2000 + u) ∧ idx s (t - 2000 + u) < 9600
        · obtain ⟨c3, c3'⟩ := c3
          go_wp2_with fail
          refine (add_yes _ _ _ hT3 p0 (by omega) (by omega) (by omega) c3 c3').mono ?_
          rintro e w4 ⟨rfl, hk4⟩
          go_wp2
          go_ret
          exact ⟨rfl, hK3.trans hk4⟩
        · go_wp2_with fail
          refine (add_large _ _ _ hT3 p0 (by omega) (by omega) (by omega) (by omega)).mono ?_
          rintro e w4 ⟨rfl, hk4⟩
          go_wp2
          go_ret
          exact ⟨rfl, hK3.trans hk4⟩
      · go_wp2_with fail
        refine (add_large _ _ _ hT2 (by omega) (by omega) (by omega) (by omega) (by omega)).mono ?_
        rintro e w3 ⟨rfl, hk3⟩
        have hT3 := hT2.kept hk3
        have hK3 := hK2.trans hk3
        by_cases c3 : 0 ≤ idx s (t - 2000 + u) ∧ idx s (t - 2000 + u) < 9600
        · obtain ⟨c3, c3'⟩ := c3
          go_wp2_with fail
          refine (add_yes _ _ _ hT3 p0 (by omega) (by omega) (by omega) c3 c3').mono ?_
          rintro e w4 ⟨rfl, hk4⟩
          go_wp2
          go_ret
          exact ⟨rfl, hK3.trans hk4⟩
        · go_wp2_with fail
          refine (add_large _ _ _ hT3 p0 (by omega) (by omega) (by omega) (by omega)).mono ?_
          rintro e w4 ⟨rfl, hk4⟩
          go_wp2
          go_ret
          exact ⟨rfl, hK3.trans hk4⟩

end Go.Proofs.YtmcfdiojkkblcaaDoor
