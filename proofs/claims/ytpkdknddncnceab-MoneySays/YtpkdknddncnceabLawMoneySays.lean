/-
  The law MoneySays returns true: whatever is handed in, Share, With and Within answer what the document says. No condition.
-/
import Derived.Test.YtpkdknddncnceabMWalkC
namespace Go.Proofs.Ytpkdknddncnceab
open Go.RowKit

theorem inB_am (a : Int) : inB a (-1000000000000) 1000000000000 = amB a := rfl
theorem inB_rt (a : Int) : inB a 0 1000000 = rtB a := rfl
set_option maxRecDepth 100000 in
set_option maxHeartbeats 4000000 in
theorem moneySays_walk (a r way : Int) (w : World) :
    Calls Try.prog 3 #[.int .i64 a, .int .i64 r, .int .i64 way] w fun e w' => e = .returned (.bool true) ∧ Kept w w' := by
  cases h : okM a r way
  · have SH := Lib.hid (fun w => share_no a r way w h)
    have WI := Lib.hid (fun w => within_no a r way w h)
    have E := Lib.hid (show wiE a r way = 1 by unfold wiE; rw [h]; rfl)
    have E0 := Lib.hid (show wi0 a r way = 0 by unfold wi0; rw [E.out]; rfl)
    have E1 := Lib.hid (show wi1 a r way = 0 by unfold wi1; rw [E.out]; rfl)
    have cs := okM_no h
    clear h
    go_enter Try.func3, Try.ntmps3
    go_wp2_with fail
    refine (SH.out _).mono ?_
    rintro e w1 ⟨rfl, hK1⟩
    go_wp2_with fail
    refine (with_any _ _ _ _).mono ?_
    rintro e w2 ⟨rfl, hK⟩
    rw [E.out, E0.out, E1.out]
    have hK2 := hK1.trans hK
    clear hK1 hK
    go_wp2_with fail
    refine (WI.out _).mono ?_
    rintro e w3 ⟨rfl, hK⟩
    have hK3 := hK2.trans hK
    clear hK2 hK
    rcases cs with h1 | ⟨h1, h2⟩ | ⟨h1, h2, h3⟩
    · have A1 := Lib.hid h1
      clear h1
      go_wp2_with fail
      refine (rmoney_any _ _).mono ?_
      rintro e w4 ⟨rfl, rfl⟩
      rw [inB_am, A1.out]
      go_wp2
      go_ret
      exact ⟨rfl, hK3⟩
    · have A1 := Lib.hid h1
      have R1 := Lib.hid h2
      clear h1 h2
      go_wp2_with fail
      refine (rmoney_any _ _).mono ?_
      rintro e w4 ⟨rfl, rfl⟩
      rw [inB_am, A1.out]
      go_wp2_with fail
      refine (rrate_any _ _).mono ?_
      rintro e w4 ⟨rfl, rfl⟩
      rw [inB_rt, R1.out]
      go_wp2
      go_ret
      exact ⟨rfl, hK3⟩
    · have A1 := Lib.hid h1
      have R1 := Lib.hid h2
      have W1 : way < 0 ∨ (¬ way < 0 ∧ 3 < way) := by unfold wayB at h3; simp at h3; omega
      clear h1 h2 h3
      rcases W1 with z | ⟨z, y⟩
      · go_wp2_with fail
        refine (rmoney_any _ _).mono ?_
        rintro e w4 ⟨rfl, rfl⟩
        rw [inB_am, A1.out]
        go_wp2_with fail
        refine (rrate_any _ _).mono ?_
        rintro e w4 ⟨rfl, rfl⟩
        rw [inB_rt, R1.out]
        go_wp2
        go_ret
        exact ⟨rfl, hK3⟩
      · have zb : decide (way < 0) = false := by simpa using z
        clear z
        go_wp2_with fail
        refine (rmoney_any _ _).mono ?_
        rintro e w4 ⟨rfl, rfl⟩
        rw [inB_am, A1.out]
        go_wp2_with fail
        refine (rrate_any _ _).mono ?_
        rintro e w4 ⟨rfl, rfl⟩
        rw [inB_rt, R1.out]
        go_wp2
        go_ret
        exact ⟨rfl, hK3⟩
  · obtain ⟨⟨a0, a1⟩, ⟨r0, r1⟩, w0, w3⟩ := (okM_iff a r way).1 h
    have SH := Lib.hid (fun w => share_yes a r way w h)
    have WI := Lib.hid (fun w => within_yes a r way w h)
    have A1 := Lib.hid ((am_iff a).2 ⟨a0, a1⟩)
    have R1 := Lib.hid ((rtB_iff r).2 ⟨r0, r1⟩)
    have sb := shV_bd h
    have ib := inV_bd h
    have mb := ar_bd a0 a1 r0 r1
    have z1 : decide (way < 0) = false := by simp; omega
    have z2 : decide (3 < way) = false := by simp; omega
    have Q1 := Lib.hid (show ∀ w, Calls Try.prog 14 #[.int .i64 (a * r), .int .i64 1000000, .int .i64 way] w fun e w' => e = .returned (.int .i64 (shV a r way)) ∧ w = w' from fun w => rround_any (a * r) 1000000 way w mb.1 mb.2 (by omega) (by omega) w0 w3)
    have Q2 := Lib.hid (show ∀ w, Calls Try.prog 14 #[.int .i64 (a * 1000000), .int .i64 (1000000 + r), .int .i64 way] w fun e w' => e = .returned (.int .i64 (inV a r way)) ∧ w = w' from fun w => rround_any (a * 1000000) (1000000 + r) way w (by omega) (by omega) (by omega) (by omega) w0 w3)
    cases g : amB (a + shV a r way)
    · have E := Lib.hid (show wiE a r way = 2 by unfold wiE; rw [h, g]; rfl)
      have E0 := Lib.hid (show wi0 a r way = 0 by unfold wi0; rw [E.out]; rfl)
      have E1 := Lib.hid (show wi1 a r way = 0 by unfold wi1; rw [E.out]; rfl)
      have G := Lib.hid g
      clear h g
      go_enter Try.func3, Try.ntmps3
      go_wp2_with fail
      refine (SH.out _).mono ?_
      rintro e w1 ⟨rfl, hK1⟩
      go_wp2_with fail
      refine (with_any _ _ _ _).mono ?_
      rintro e w2 ⟨rfl, hK⟩
      rw [E.out, E0.out, E1.out]
      have hK2 := hK1.trans hK
      clear hK1 hK E E0 E1
      go_wp2_with fail
      refine (WI.out _).mono ?_
      rintro e w3' ⟨rfl, hK⟩
      have hK3 := hK2.trans hK
      clear hK2 hK WI SH
      go_wp2_with fail
      refine (rmoney_any _ _).mono ?_
      rintro e w4 ⟨rfl, rfl⟩
      rw [inB_am, A1.out]
      go_wp2_with fail
      refine (rrate_any _ _).mono ?_
      rintro e w4 ⟨rfl, rfl⟩
      rw [inB_rt, R1.out]
      go_wp2_with fail
      refine (Q1.out _).mono ?_
      rintro e w4 ⟨rfl, rfl⟩
      go_wp2_with fail
      refine (Q2.out _).mono ?_
      rintro e w4 ⟨rfl, rfl⟩
      clear Q1 Q2
      generalize shV a r way = s at *
      generalize inV a r way = n at *
      have e1 : (s != s) = false := by simp
      have e2 : (n != n) = false := by simp
      have e3 : (a - n != a - n) = false := by simp
      go_wp2_with fail
      refine (rmoney_any _ _).mono ?_
      rintro e w4 ⟨rfl, rfl⟩
      rw [inB_am, G.out]
      go_wp2
      go_ret
      exact ⟨rfl, hK3⟩
    · have E := Lib.hid (show wiE a r way = 0 by unfold wiE; rw [h, g]; rfl)
      have E0 := Lib.hid (show wi0 a r way = a + shV a r way by unfold wi0; rw [E.out]; rfl)
      have E1 := Lib.hid (show wi1 a r way = shV a r way by unfold wi1; rw [E.out]; rfl)
      have G := Lib.hid g
      clear h g
      go_enter Try.func3, Try.ntmps3
      go_wp2_with fail
      refine (SH.out _).mono ?_
      rintro e w1 ⟨rfl, hK1⟩
      go_wp2_with fail
      refine (with_any _ _ _ _).mono ?_
      rintro e w2 ⟨rfl, hK⟩
      rw [E.out, E0.out, E1.out]
      have hK2 := hK1.trans hK
      clear hK1 hK E E0 E1
      go_wp2_with fail
      refine (WI.out _).mono ?_
      rintro e w3' ⟨rfl, hK⟩
      have hK3 := hK2.trans hK
      clear hK2 hK WI SH
      go_wp2_with fail
      refine (rmoney_any _ _).mono ?_
      rintro e w4 ⟨rfl, rfl⟩
      rw [inB_am, A1.out]
      go_wp2_with fail
      refine (rrate_any _ _).mono ?_
      rintro e w4 ⟨rfl, rfl⟩
      rw [inB_rt, R1.out]
      go_wp2_with fail
      refine (Q1.out _).mono ?_
      rintro e w4 ⟨rfl, rfl⟩
      go_wp2_with fail
      refine (Q2.out _).mono ?_
      rintro e w4 ⟨rfl, rfl⟩
      clear Q1 Q2
      generalize shV a r way = s at *
      generalize inV a r way = n at *
      have e1 : (s != s) = false := by simp
      have e2 : (n != n) = false := by simp
      have e3 : (a - n != a - n) = false := by simp
      go_wp2_with fail
      refine (rmoney_any _ _).mono ?_
      rintro e w4 ⟨rfl, rfl⟩
      rw [inB_am, G.out]
      have e4 : (a + s == a + s) = true := by simp
      have e5 : (s == s) = true := by simp
      go_wp2
      go_ret
      exact ⟨ret_bool (by simp), hK3⟩

end Go.Proofs.Ytpkdknddncnceab
