/-
  The law NoteSays returns true: Rows and Least answer what the document says. No condition.
-/
import Derived.Test.YtcfcbglnmhoknaaKWalkD
namespace Go.Proofs.Ytcfcbglnmhoknaa
open Go.RowKit

theorem inB_yes {x a b : Int} (h : a ≤ x) (k : x ≤ b) : inB x a b = true := by unfold inB; simp [h, k]
theorem inB_no {x a b : Int} (h : ¬ (a ≤ x ∧ x ≤ b)) : inB x a b = false := by unfold inB; rw [decide_eq_false_iff_not]; exact h
set_option maxRecDepth 100000 in
set_option maxHeartbeats 2000000 in
theorem rloan_yes (L r pay : Int) (w : World) (h : erL L r pay = 0) :
    Calls Try.prog 11 #[.int .i64 L, .int .i64 r, .int .i64 pay] w (RowsYes w L r pay) := by
  obtain ⟨o, p1, p2, hi, hb⟩ := erL_yes h
  obtain ⟨a0, a1, r0, r1⟩ := (okL_iff L r).1 o
  have mb := ar_bd (a := L) (r := r) (by omega) a1 r0 r1
  have I1 := Lib.hid (inB_yes a0 a1)
  have I2 := Lib.hid (inB_yes r0 r1)
  have I3 := Lib.hid (inB_yes p1 p2)
  have RI := Lib.hid (fun w => rround_it L r w o)
  have RW := Lib.hid (fun w => rrows_any r pay r0 r1 p1 (by omega) 40 L w a0 a1 hi (by omega))
  have P := Lib.hid (show paid L r pay 40 = true by unfold paid; rw [hb]; rfl)
  clear o h hb
  by_cases L1 : 0 < L
  · generalize itR r L = t at *
    go_enter Try.func11, Try.ntmps11
    go_wp2_with fail
    refine (rwithin_any _ _ _ _).mono ?_
    rintro e w1 ⟨rfl, rfl⟩
    rw [I1.out]
    go_wp2_with fail
    refine (rrate_any _ _).mono ?_
    rintro e w1 ⟨rfl, rfl⟩
    rw [I2.out]
    go_wp2_with fail
    refine (rwithin_any _ _ _ _).mono ?_
    rintro e w1 ⟨rfl, rfl⟩
    rw [I3.out]
    go_wp2_with fail
    refine (RI.out _).mono ?_
    rintro e w1 ⟨rfl, rfl⟩
    go_wp2_with fail
    refine (RW.out _).mono ?_
    rintro e w2 ⟨a, c, rfl, hG, hK⟩
    rw [P.out]
    go_wp2
    go_ret2
    exact ⟨a, c, rfl, hG, hK⟩
  · obtain rfl : L = 0 := by omega
    clear L1
    go_enter Try.func11, Try.ntmps11
    go_wp2_with fail
    refine (rwithin_any _ _ _ _).mono ?_
    rintro e w1 ⟨rfl, rfl⟩
    rw [I1.out]
    go_wp2_with fail
    refine (rrate_any _ _).mono ?_
    rintro e w1 ⟨rfl, rfl⟩
    rw [I2.out]
    go_wp2_with fail
    refine (rwithin_any _ _ _ _).mono ?_
    rintro e w1 ⟨rfl, rfl⟩
    rw [I3.out]
    go_wp2_with fail
    refine (RW.out _).mono ?_
    rintro e w2 ⟨a, c, rfl, hG, hK⟩
    rw [P.out]
    go_wp2
    go_ret2
    exact ⟨a, c, rfl, hG, hK⟩
/-- Why there is an error. -/
theorem erL_why {L r pay : Int} (h : erL L r pay ≠ 0) : (erL L r pay = 1 ∧ ¬ (0 ≤ L ∧ L ≤ 1000000000000)) ∨ (erL L r pay = 1 ∧ 0 ≤ L ∧ L ≤ 1000000000000 ∧ ¬ (0 ≤ r ∧ r ≤ 1000000)) ∨ (erL L r pay = 1 ∧ okL L r = true ∧ ¬ (1 ≤ pay ∧ pay ≤ 2000000000000)) ∨
    (erL L r pay = 7 ∧ okL L r = true ∧ 1 ≤ pay ∧ pay ≤ 2000000000000 ∧ 0 < L ∧ pay ≤ itR r L) ∨ (erL L r pay = 2 ∧ okL L r = true ∧ 1 ≤ pay ∧ pay ≤ 2000000000000 ∧ itR r L < pay ∧ bal r pay L 40 ≠ 0) := by
  by_cases o : okL L r = true
  · by_cases p : 1 ≤ pay ∧ pay ≤ 2000000000000
    · by_cases c : 0 < L ∧ pay ≤ itR r L
      · right; right; right; left
        exact ⟨by unfold erL; rw [if_pos ⟨o, p⟩, if_pos c], o, p.1, p.2, c.1, c.2⟩
      · have hi : itR r L < pay := by
          obtain ⟨a0, _⟩ := (okL_iff L r).1 o
          by_cases z : L = 0
          · subst z; rw [itR_zero]; omega
          · omega
        by_cases b : bal r pay L 40 = 0
        · exact absurd (erL_of o p.1 p.2 hi b) h
        · right; right; right; right
          exact ⟨by unfold erL; rw [if_pos ⟨o, p⟩, if_neg c, if_neg b], o, p.1, p.2, hi, b⟩
    · right; right; left
      exact ⟨by unfold erL; rw [if_neg (fun z => p z.2)], o, p⟩
  · have e : erL L r pay = 1 := by unfold erL; rw [if_neg (fun z => o z.1)]
    rw [okL_iff] at o
    by_cases l : 0 ≤ L ∧ L ≤ 1000000000000
    · exact .inr (.inl ⟨e, l.1, l.2, by omega⟩)
    · exact .inl ⟨e, l⟩
set_option maxRecDepth 100000 in
set_option maxHeartbeats 4000000 in
theorem rloan_no (L r pay : Int) (w : World) (h : erL L r pay ≠ 0) :
    Calls Try.prog 11 #[.int .i64 L, .int .i64 r, .int .i64 pay] w (RowsNo w (erL L r pay)) := by
  rcases erL_why h with ⟨e, l⟩ | ⟨e, l0, l1, l2⟩ | ⟨e, o, l⟩ | ⟨e, o, p1, p2, L1, hi⟩ | ⟨e, o, p1, p2, hi, hb⟩
  · rw [e]
    have I1 := Lib.hid (inB_no l)
    clear h e l
    go_enter Try.func11, Try.ntmps11
    go_wp2_with fail
    refine (rwithin_any _ _ _ _).mono ?_
    rintro e w1 ⟨rfl, rfl⟩
    rw [I1.out]
    go_wp2
    go_ret2
    exact ⟨rfl, Kept.refl w⟩
  · rw [e]
    have I1 := Lib.hid (inB_yes l0 l1)
    have I2 := Lib.hid (inB_no l2)
    clear h e l0 l1 l2
    go_enter Try.func11, Try.ntmps11
    go_wp2_with fail
    refine (rwithin_any _ _ _ _).mono ?_
    rintro e w1 ⟨rfl, rfl⟩
    rw [I1.out]
    go_wp2_with fail
    refine (rrate_any _ _).mono ?_
    rintro e w1 ⟨rfl, rfl⟩
    rw [I2.out]
    go_wp2
    go_ret2
    exact ⟨rfl, Kept.refl w⟩
  · rw [e]
    obtain ⟨a0, a1, r0, r1⟩ := (okL_iff L r).1 o
    have I1 := Lib.hid (inB_yes a0 a1)
    have I2 := Lib.hid (inB_yes r0 r1)
    have I3 := Lib.hid (inB_no l)
    clear h e l o
    go_enter Try.func11, Try.ntmps11
    go_wp2_with fail
    refine (rwithin_any _ _ _ _).mono ?_
    rintro e w1 ⟨rfl, rfl⟩
    rw [I1.out]
    go_wp2_with fail
    refine (rrate_any _ _).mono ?_
    rintro e w1 ⟨rfl, rfl⟩
    rw [I2.out]
    go_wp2_with fail
    refine (rwithin_any _ _ _ _).mono ?_
    rintro e w1 ⟨rfl, rfl⟩
    rw [I3.out]
    go_wp2
    go_ret2
    exact ⟨rfl, Kept.refl w⟩
  · rw [e]
    obtain ⟨a0, a1, r0, r1⟩ := (okL_iff L r).1 o
    have mb := ar_bd (a := L) (r := r) (by omega) a1 r0 r1
    have I1 := Lib.hid (inB_yes a0 a1)
    have I2 := Lib.hid (inB_yes r0 r1)
    have I3 := Lib.hid (inB_yes p1 p2)
    have RI := Lib.hid (fun w => rround_it L r w o)
    clear h e o
    generalize itR r L = t at *
    go_enter Try.func11, Try.ntmps11
    go_wp2_with fail
    refine (rwithin_any _ _ _ _).mono ?_
    rintro e w1 ⟨rfl, rfl⟩
    rw [I1.out]
    go_wp2_with fail
    refine (rrate_any _ _).mono ?_
    rintro e w1 ⟨rfl, rfl⟩
    rw [I2.out]
    go_wp2_with fail
    refine (rwithin_any _ _ _ _).mono ?_
    rintro e w1 ⟨rfl, rfl⟩
    rw [I3.out]
    go_wp2_with fail
    refine (RI.out _).mono ?_
    rintro e w1 ⟨rfl, rfl⟩
    go_wp2
    go_ret2
    exact ⟨rfl, Kept.refl w⟩
  · rw [e]
    obtain ⟨a0, a1, r0, r1⟩ := (okL_iff L r).1 o
    have mb := ar_bd (a := L) (r := r) (by omega) a1 r0 r1
    have I1 := Lib.hid (inB_yes a0 a1)
    have I2 := Lib.hid (inB_yes r0 r1)
    have I3 := Lib.hid (inB_yes p1 p2)
    have RI := Lib.hid (fun w => rround_it L r w o)
    have RW := Lib.hid (fun w => rrows_any r pay r0 r1 p1 (by omega) 40 L w a0 a1 hi (by omega))
    have P := Lib.hid (show paid L r pay 40 = false by unfold paid; rw [decide_eq_false_iff_not]; exact hb)
    have L1 : 0 < L := by
      by_cases z : L = 0
      · subst z; exact absurd (bal_stay (by omega) 0 rfl 40 (by omega)) hb
      · omega
    clear h e o hb
    generalize itR r L = t at *
    go_enter Try.func11, Try.ntmps11
    go_wp2_with fail
    refine (rwithin_any _ _ _ _).mono ?_
    rintro e w1 ⟨rfl, rfl⟩
    rw [I1.out]
    go_wp2_with fail
    refine (rrate_any _ _).mono ?_
    rintro e w1 ⟨rfl, rfl⟩
    rw [I2.out]
    go_wp2_with fail
    refine (rwithin_any _ _ _ _).mono ?_
    rintro e w1 ⟨rfl, rfl⟩
    rw [I3.out]
    go_wp2_with fail
    refine (RI.out _).mono ?_
    rintro e w1 ⟨rfl, rfl⟩
    go_wp2_with fail
    refine (RW.out _).mono ?_
    rintro e w2 ⟨a, c, rfl, hG, hK⟩
    rw [P.out]
    go_wp2
    go_ret2
    exact ⟨rfl, hK⟩

set_option maxRecDepth 100000 in
set_option maxHeartbeats 2000000 in
theorem noteSays_yes_ok (L r p : Int) (n : Nat) (w : World) (h : erL L r p = 0) (o : okL L r = true) (n1 : 1 ≤ n) (n40 : n ≤ 40) :
    Calls Try.prog 3 #[.int .i64 L, .int .i64 r, .int .i64 p, .int .i64 (n : Int)] w fun e w' => e = .returned (.bool true) ∧ Kept w w' := by
  have X1 := Lib.hid (fun w => rows_yes L r p w h)
  have X2 := Lib.hid (fun w => rloan_yes L r p w h)
  have Y := Lib.hid (fun w => least_yes L r n w o n1 n40)
  have Z := Lib.hid (fun w => rleast_any L r n w o n1 n40)
  obtain ⟨a0, a1, r0, r1⟩ := (okL_iff L r).1 o
  have I2 := Lib.hid (inB_yes r0 r1)
  clear o
  clear h
  go_enter Try.func3, Try.ntmps3
  go_wp2_with fail
  refine (X1.out _).mono ?_
  rintro e w1 ⟨a, c, rfl, hG1, hK1⟩
  go_wp2_with fail
  refine (Y.out _).mono ?_
  rintro e w2 ⟨q, hq, qb, rfl, hK2⟩
  have Q := Lib.hid hq
  clear hq
  go_wp2_with fail
  refine (X2.out _).mono ?_
  rintro e w3 ⟨a', c', rfl, hG3, hK3⟩
  have hK := (hK1.trans hK2).trans hK3
  have e1 := (hG1.arg.later hK2).later hK3
  have e2 := hG3.arg
  have cl := cnt_le r p 40 L
  have EQ := Lib.hid (fun c c' => requal_yes _ _ _ _ c c' _ (by omega) e1 e2)
  clear hG1 hG3 e1 e2
  generalize cnt r p 40 L = N at *
  clear hK1 hK2 hK3 X1 X2 Y
  go_wp2_with fail
  refine (EQ.out _ _).mono ?_
  rintro e w4 ⟨rfl, hd⟩
  have hK4 := hK.trans hd.kept
  clear hK hd EQ
  go_wp2_with fail
  refine (rrate_any _ _).mono ?_
  rintro e w5 ⟨rfl, rfl⟩
  rw [I2.out]
  go_wp2_with fail
  refine (Z.out _).mono ?_
  rintro e w6 ⟨q', hq', rfl, hK6⟩
  obtain rfl := Q.out.eq hq'
  clear hq'
  go_wp2
  go_ret
  exact ⟨rfl, hK4.trans hK6⟩
set_option maxRecDepth 100000 in
set_option maxHeartbeats 2000000 in
theorem noteSays_yes_nlo (L r p : Int) (n : Int) (w : World) (h : erL L r p = 0) (o : okL L r = true) (g : n < 1) :
    Calls Try.prog 3 #[.int .i64 L, .int .i64 r, .int .i64 p, .int .i64 n] w fun e w' => e = .returned (.bool true) ∧ Kept w w' := by
  have X1 := Lib.hid (fun w => rows_yes L r p w h)
  have X2 := Lib.hid (fun w => rloan_yes L r p w h)
  have Y := Lib.hid (fun w => least_no L r n w (.inr (by omega)))
  obtain ⟨a0, a1, r0, r1⟩ := (okL_iff L r).1 o
  have I2 := Lib.hid (inB_yes r0 r1)
  clear o
  clear h
  go_enter Try.func3, Try.ntmps3
  go_wp2_with fail
  refine (X1.out _).mono ?_
  rintro e w1 ⟨a, c, rfl, hG1, hK1⟩
  go_wp2_with fail
  refine (Y.out _).mono ?_
  rintro e w2 ⟨rfl, hK2⟩
  go_wp2_with fail
  refine (X2.out _).mono ?_
  rintro e w3 ⟨a', c', rfl, hG3, hK3⟩
  have hK := (hK1.trans hK2).trans hK3
  have e1 := (hG1.arg.later hK2).later hK3
  have e2 := hG3.arg
  have cl := cnt_le r p 40 L
  have EQ := Lib.hid (fun c c' => requal_yes _ _ _ _ c c' _ (by omega) e1 e2)
  clear hG1 hG3 e1 e2
  generalize cnt r p 40 L = N at *
  clear hK1 hK2 hK3 X1 X2 Y
  go_wp2_with fail
  refine (EQ.out _ _).mono ?_
  rintro e w4 ⟨rfl, hd⟩
  have hK4 := hK.trans hd.kept
  clear hK hd EQ
  go_wp2_with fail
  refine (rrate_any _ _).mono ?_
  rintro e w5 ⟨rfl, rfl⟩
  rw [I2.out]
  go_wp2
  go_ret
  exact ⟨rfl, hK4⟩
set_option maxRecDepth 100000 in
set_option maxHeartbeats 2000000 in
theorem noteSays_yes_nhi (L r p : Int) (n : Int) (w : World) (h : erL L r p = 0) (o : okL L r = true) (g0 : 1 ≤ n) (g : 40 < n) :
    Calls Try.prog 3 #[.int .i64 L, .int .i64 r, .int .i64 p, .int .i64 n] w fun e w' => e = .returned (.bool true) ∧ Kept w w' := by
  have X1 := Lib.hid (fun w => rows_yes L r p w h)
  have X2 := Lib.hid (fun w => rloan_yes L r p w h)
  have Y := Lib.hid (fun w => least_no L r n w (.inr (by omega)))
  obtain ⟨a0, a1, r0, r1⟩ := (okL_iff L r).1 o
  have I2 := Lib.hid (inB_yes r0 r1)
  clear o
  clear h
  go_enter Try.func3, Try.ntmps3
  go_wp2_with fail
  refine (X1.out _).mono ?_
  rintro e w1 ⟨a, c, rfl, hG1, hK1⟩
  go_wp2_with fail
  refine (Y.out _).mono ?_
  rintro e w2 ⟨rfl, hK2⟩
  go_wp2_with fail
  refine (X2.out _).mono ?_
  rintro e w3 ⟨a', c', rfl, hG3, hK3⟩
  have hK := (hK1.trans hK2).trans hK3
  have e1 := (hG1.arg.later hK2).later hK3
  have e2 := hG3.arg
  have cl := cnt_le r p 40 L
  have EQ := Lib.hid (fun c c' => requal_yes _ _ _ _ c c' _ (by omega) e1 e2)
  clear hG1 hG3 e1 e2
  generalize cnt r p 40 L = N at *
  clear hK1 hK2 hK3 X1 X2 Y
  go_wp2_with fail
  refine (EQ.out _ _).mono ?_
  rintro e w4 ⟨rfl, hd⟩
  have hK4 := hK.trans hd.kept
  clear hK hd EQ
  go_wp2_with fail
  refine (rrate_any _ _).mono ?_
  rintro e w5 ⟨rfl, rfl⟩
  rw [I2.out]
  go_wp2
  go_ret
  exact ⟨rfl, hK4⟩
set_option maxRecDepth 100000 in
set_option maxHeartbeats 2000000 in
theorem noteSays_no_ok (L r p : Int) (n : Nat) (w : World) (h : erL L r p ≠ 0) (o : okL L r = true) (n1 : 1 ≤ n) (n40 : n ≤ 40) :
    Calls Try.prog 3 #[.int .i64 L, .int .i64 r, .int .i64 p, .int .i64 (n : Int)] w fun e w' => e = .returned (.bool true) ∧ Kept w w' := by
  have X1 := Lib.hid (fun w => rows_no L r p w h)
  have X2 := Lib.hid (fun w => rloan_no L r p w h)
  have Y := Lib.hid (fun w => least_yes L r n w o n1 n40)
  have Z := Lib.hid (fun w => rleast_any L r n w o n1 n40)
  obtain ⟨a0, a1, r0, r1⟩ := (okL_iff L r).1 o
  have I2 := Lib.hid (inB_yes r0 r1)
  clear o
  clear h
  generalize erL L r p = er at *
  go_enter Try.func3, Try.ntmps3
  go_wp2_with fail
  refine (X1.out _).mono ?_
  rintro e w1 ⟨rfl, hK1⟩
  go_wp2_with fail
  refine (Y.out _).mono ?_
  rintro e w2 ⟨q, hq, qb, rfl, hK2⟩
  have Q := Lib.hid hq
  clear hq
  go_wp2_with fail
  refine (X2.out _).mono ?_
  rintro e w3 ⟨rfl, hK3⟩
  have hK := (hK1.trans hK2).trans hK3
  have EQ := Lib.hid (fun w => requal_yes ⟨fun _ => 0, fun _ => 0, fun _ => 0⟩ none none 0 0 0 w (by omega) (.inl rfl) (.inl rfl))
  clear hK1 hK2 hK3 X1 X2 Y
  go_wp2_with fail
  refine (EQ.out _).mono ?_
  rintro e w4 ⟨rfl, hd⟩
  have hK4 := hK.trans hd.kept
  clear hK hd EQ
  go_wp2_with fail
  refine (rrate_any _ _).mono ?_
  rintro e w5 ⟨rfl, rfl⟩
  rw [I2.out]
  go_wp2_with fail
  refine (Z.out _).mono ?_
  rintro e w6 ⟨q', hq', rfl, hK6⟩
  obtain rfl := Q.out.eq hq'
  clear hq'
  go_wp2
  go_ret
  exact ⟨rfl, hK4.trans hK6⟩
set_option maxRecDepth 100000 in
set_option maxHeartbeats 2000000 in
theorem noteSays_no_lo (L r p : Int) (n : Int) (w : World) (h : erL L r p ≠ 0) (g : L < 0) :
    Calls Try.prog 3 #[.int .i64 L, .int .i64 r, .int .i64 p, .int .i64 n] w fun e w' => e = .returned (.bool true) ∧ Kept w w' := by
  have X1 := Lib.hid (fun w => rows_no L r p w h)
  have X2 := Lib.hid (fun w => rloan_no L r p w h)
  have Y := Lib.hid (fun w => least_no L r n w (.inl (by cases e : okL L r
                                                         · rfl
                                                         · rw [okL_iff] at e; omega)))
  clear h
  generalize erL L r p = er at *
  go_enter Try.func3, Try.ntmps3
  go_wp2_with fail
  refine (X1.out _).mono ?_
  rintro e w1 ⟨rfl, hK1⟩
  go_wp2_with fail
  refine (Y.out _).mono ?_
  rintro e w2 ⟨rfl, hK2⟩
  go_wp2_with fail
  refine (X2.out _).mono ?_
  rintro e w3 ⟨rfl, hK3⟩
  have hK := (hK1.trans hK2).trans hK3
  have EQ := Lib.hid (fun w => requal_yes ⟨fun _ => 0, fun _ => 0, fun _ => 0⟩ none none 0 0 0 w (by omega) (.inl rfl) (.inl rfl))
  clear hK1 hK2 hK3 X1 X2 Y
  go_wp2_with fail
  refine (EQ.out _).mono ?_
  rintro e w4 ⟨rfl, hd⟩
  have hK4 := hK.trans hd.kept
  clear hK hd EQ
  go_wp2
  go_ret
  exact ⟨rfl, hK4⟩
set_option maxRecDepth 100000 in
set_option maxHeartbeats 2000000 in
theorem noteSays_no_hi (L r p : Int) (n : Int) (w : World) (h : erL L r p ≠ 0) (g0 : 0 ≤ L) (g : 1000000000000 < L) :
    Calls Try.prog 3 #[.int .i64 L, .int .i64 r, .int .i64 p, .int .i64 n] w fun e w' => e = .returned (.bool true) ∧ Kept w w' := by
  have X1 := Lib.hid (fun w => rows_no L r p w h)
  have X2 := Lib.hid (fun w => rloan_no L r p w h)
  have Y := Lib.hid (fun w => least_no L r n w (.inl (by cases e : okL L r
                                                         · rfl
                                                         · rw [okL_iff] at e; omega)))
  clear h
  generalize erL L r p = er at *
  go_enter Try.func3, Try.ntmps3
  go_wp2_with fail
  refine (X1.out _).mono ?_
  rintro e w1 ⟨rfl, hK1⟩
  go_wp2_with fail
  refine (Y.out _).mono ?_
  rintro e w2 ⟨rfl, hK2⟩
  go_wp2_with fail
  refine (X2.out _).mono ?_
  rintro e w3 ⟨rfl, hK3⟩
  have hK := (hK1.trans hK2).trans hK3
  have EQ := Lib.hid (fun w => requal_yes ⟨fun _ => 0, fun _ => 0, fun _ => 0⟩ none none 0 0 0 w (by omega) (.inl rfl) (.inl rfl))
  clear hK1 hK2 hK3 X1 X2 Y
  go_wp2_with fail
  refine (EQ.out _).mono ?_
  rintro e w4 ⟨rfl, hd⟩
  have hK4 := hK.trans hd.kept
  clear hK hd EQ
  go_wp2
  go_ret
  exact ⟨rfl, hK4⟩
set_option maxRecDepth 100000 in
set_option maxHeartbeats 2000000 in
theorem noteSays_no_rt (L r p : Int) (n : Int) (w : World) (h : erL L r p ≠ 0) (g0 : 0 ≤ L) (g1 : L ≤ 1000000000000) (g : ¬ (0 ≤ r ∧ r ≤ 1000000)) :
    Calls Try.prog 3 #[.int .i64 L, .int .i64 r, .int .i64 p, .int .i64 n] w fun e w' => e = .returned (.bool true) ∧ Kept w w' := by
  have X1 := Lib.hid (fun w => rows_no L r p w h)
  have X2 := Lib.hid (fun w => rloan_no L r p w h)
  have Y := Lib.hid (fun w => least_no L r n w (.inl (by cases e : okL L r
                                                         · rfl
                                                         · rw [okL_iff] at e; omega)))
  have I2 := Lib.hid (inB_no g)
  clear g
  clear h
  generalize erL L r p = er at *
  go_enter Try.func3, Try.ntmps3
  go_wp2_with fail
  refine (X1.out _).mono ?_
  rintro e w1 ⟨rfl, hK1⟩
  go_wp2_with fail
  refine (Y.out _).mono ?_
  rintro e w2 ⟨rfl, hK2⟩
  go_wp2_with fail
  refine (X2.out _).mono ?_
  rintro e w3 ⟨rfl, hK3⟩
  have hK := (hK1.trans hK2).trans hK3
  have EQ := Lib.hid (fun w => requal_yes ⟨fun _ => 0, fun _ => 0, fun _ => 0⟩ none none 0 0 0 w (by omega) (.inl rfl) (.inl rfl))
  clear hK1 hK2 hK3 X1 X2 Y
  go_wp2_with fail
  refine (EQ.out _).mono ?_
  rintro e w4 ⟨rfl, hd⟩
  have hK4 := hK.trans hd.kept
  clear hK hd EQ
  go_wp2_with fail
  refine (rrate_any _ _).mono ?_
  rintro e w5 ⟨rfl, rfl⟩
  rw [I2.out]
  go_wp2
  go_ret
  exact ⟨rfl, hK4⟩
set_option maxRecDepth 100000 in
set_option maxHeartbeats 2000000 in
theorem noteSays_no_nlo (L r p : Int) (n : Int) (w : World) (h : erL L r p ≠ 0) (o : okL L r = true) (g : n < 1) :
    Calls Try.prog 3 #[.int .i64 L, .int .i64 r, .int .i64 p, .int .i64 n] w fun e w' => e = .returned (.bool true) ∧ Kept w w' := by
  have X1 := Lib.hid (fun w => rows_no L r p w h)
  have X2 := Lib.hid (fun w => rloan_no L r p w h)
  have Y := Lib.hid (fun w => least_no L r n w (.inr (by omega)))
  obtain ⟨a0, a1, r0, r1⟩ := (okL_iff L r).1 o
  have I2 := Lib.hid (inB_yes r0 r1)
  clear o
  clear h
  generalize erL L r p = er at *
  go_enter Try.func3, Try.ntmps3
  go_wp2_with fail
  refine (X1.out _).mono ?_
  rintro e w1 ⟨rfl, hK1⟩
  go_wp2_with fail
  refine (Y.out _).mono ?_
  rintro e w2 ⟨rfl, hK2⟩
  go_wp2_with fail
  refine (X2.out _).mono ?_
  rintro e w3 ⟨rfl, hK3⟩
  have hK := (hK1.trans hK2).trans hK3
  have EQ := Lib.hid (fun w => requal_yes ⟨fun _ => 0, fun _ => 0, fun _ => 0⟩ none none 0 0 0 w (by omega) (.inl rfl) (.inl rfl))
  clear hK1 hK2 hK3 X1 X2 Y
  go_wp2_with fail
  refine (EQ.out _).mono ?_
  rintro e w4 ⟨rfl, hd⟩
  have hK4 := hK.trans hd.kept
  clear hK hd EQ
  go_wp2_with fail
  refine (rrate_any _ _).mono ?_
  rintro e w5 ⟨rfl, rfl⟩
  rw [I2.out]
  go_wp2
  go_ret
  exact ⟨rfl, hK4⟩
set_option maxRecDepth 100000 in
set_option maxHeartbeats 2000000 in
theorem noteSays_no_nhi (L r p : Int) (n : Int) (w : World) (h : erL L r p ≠ 0) (o : okL L r = true) (g0 : 1 ≤ n) (g : 40 < n) :
    Calls Try.prog 3 #[.int .i64 L, .int .i64 r, .int .i64 p, .int .i64 n] w fun e w' => e = .returned (.bool true) ∧ Kept w w' := by
  have X1 := Lib.hid (fun w => rows_no L r p w h)
  have X2 := Lib.hid (fun w => rloan_no L r p w h)
  have Y := Lib.hid (fun w => least_no L r n w (.inr (by omega)))
  obtain ⟨a0, a1, r0, r1⟩ := (okL_iff L r).1 o
  have I2 := Lib.hid (inB_yes r0 r1)
  clear o
  clear h
  generalize erL L r p = er at *
  go_enter Try.func3, Try.ntmps3
  go_wp2_with fail
  refine (X1.out _).mono ?_
  rintro e w1 ⟨rfl, hK1⟩
  go_wp2_with fail
  refine (Y.out _).mono ?_
  rintro e w2 ⟨rfl, hK2⟩
  go_wp2_with fail
  refine (X2.out _).mono ?_
  rintro e w3 ⟨rfl, hK3⟩
  have hK := (hK1.trans hK2).trans hK3
  have EQ := Lib.hid (fun w => requal_yes ⟨fun _ => 0, fun _ => 0, fun _ => 0⟩ none none 0 0 0 w (by omega) (.inl rfl) (.inl rfl))
  clear hK1 hK2 hK3 X1 X2 Y
  go_wp2_with fail
  refine (EQ.out _).mono ?_
  rintro e w4 ⟨rfl, hd⟩
  have hK4 := hK.trans hd.kept
  clear hK hd EQ
  go_wp2_with fail
  refine (rrate_any _ _).mono ?_
  rintro e w5 ⟨rfl, rfl⟩
  rw [I2.out]
  go_wp2
  go_ret
  exact ⟨rfl, hK4⟩
theorem noteSays_walk (L r p n : Int) (w : World) :
    Calls Try.prog 3 #[.int .i64 L, .int .i64 r, .int .i64 p, .int .i64 n] w fun e w' => e = .returned (.bool true) ∧ Kept w w' := by
  have tri : okL L r = true ∨ L < 0 ∨ (0 ≤ L ∧ 1000000000000 < L) ∨ (0 ≤ L ∧ L ≤ 1000000000000 ∧ ¬ (0 ≤ r ∧ r ≤ 1000000)) := by
    rw [okL_iff]; omega
  by_cases h : erL L r p = 0
  · have o := (erL_yes h).1
    rcases (show n < 1 ∨ (1 ≤ n ∧ 40 < n) ∨ (1 ≤ n ∧ n ≤ 40) by omega) with g | ⟨g0, g⟩ | ⟨g0, g⟩
    · exact noteSays_yes_nlo L r p n w h o g
    · exact noteSays_yes_nhi L r p n w h o g0 g
    · obtain ⟨m, rfl⟩ := Int.eq_ofNat_of_zero_le (show 0 ≤ n by omega)
      exact noteSays_yes_ok L r p m w h o (by omega) (by omega)
  · rcases tri with o | g | ⟨g0, g⟩ | ⟨g0, g1, g⟩
    · rcases (show n < 1 ∨ (1 ≤ n ∧ 40 < n) ∨ (1 ≤ n ∧ n ≤ 40) by omega) with g | ⟨g0, g⟩ | ⟨g0, g⟩
      · exact noteSays_no_nlo L r p n w h o g
      · exact noteSays_no_nhi L r p n w h o g0 g
      · obtain ⟨m, rfl⟩ := Int.eq_ofNat_of_zero_le (show 0 ≤ n by omega)
        exact noteSays_no_ok L r p m w h o (by omega) (by omega)
    · exact noteSays_no_lo L r p n w h g
    · exact noteSays_no_hi L r p n w h g0 g
    · exact noteSays_no_rt L r p n w h g0 g1 g

end Go.Proofs.Ytcfcbglnmhoknaa
