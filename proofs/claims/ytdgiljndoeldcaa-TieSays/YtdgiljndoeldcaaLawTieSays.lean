/-
  The law TieSays: for all items and a number it answers true; nothing that was there is turned. No condition but those that each theorem names.
-/
import Derived.Test.YtdgiljndoeldcaaGRefT
namespace Go.Proofs.Ytdgiljndoeldcaa
open Go.RowKit Go.Sort
set_option linter.unusedVariables false

theorem tie_nil (w : World) : Calls Try.prog 23 #[.slice none 0 0, .slice none 0 0, .int .i64 (-1)] w (TieNone w 1) := by
  have h := tie_no none none [] [] 0 0 (-1) w (by decide) (by decide) (.inl rfl) (.inl rfl) (by decide)
  exact h
set_option maxRecDepth 100000 in
set_option maxHeartbeats 8000000 in
theorem tieSays_walk (a : Option Addr) (l : List Mv) (cap : Nat) (b : Option Addr) (m : List Mv) (cap' : Nat) (h : Int) (w : World) (hA : JArg eP w a l) (hc : l.length ≤ cap) (hn : cap ≤ maxLen) (z : a = none → cap = 0) (hB : JArg eP w b m) (hc' : m.length ≤ cap') (hn' : cap' ≤ maxLen) (z' : b = none → cap' = 0) :
    Calls Try.prog 4 #[.slice a l.length cap, .slice b m.length cap', .int .i64 h] w fun e w' => e = .returned (.bool true) ∧ Below w.heap.size w w' := by
  have hl : l.length ≤ maxLen := Nat.le_trans hc hn
  have hl' : m.length ≤ maxLen := Nat.le_trans hc' hn'
  have RA := Lib.hid (fun (W : World) (k : Kept w W) => ritems_any a l cap W hl (hA.later k))
  have RB := Lib.hid (fun (W : World) (k : Kept w W) => ritems_any b m cap' W hl' (hB.later k))
  have HA := Lib.hid hA
  have HB := Lib.hid hB
  clear hc hn z hc' hn' z' hA hB
  by_cases er : tiE l m h = 0
  · have ok := ti_ok er
    have l40 : l.length ≤ 40 := ok.oa.len
    have T1 := Lib.hid (tie_yes a b l m cap cap' h w HA.out HB.out ok)
    have T2 := Lib.hid (fun (W : World) (k : Kept w W) => rtie_any a b l m cap cap' h W (HA.out.later k) (HB.out.later k) ok)
    rw [itE_iff.2 ok.oa] at RA
    rw [itE_iff.2 ok.ob] at RB
    have I1 := Lib.hid (inG_yes ok.h0 ok.h1)
    have SL := Lib.hid (tieL_len l m h)
    generalize tieL l m h = s at *
    clear ok er
    go_enter Try.func4, Try.ntmps4
    go_wp2_with fail
    refine T1.out.mono ?_
    rintro e w1 ⟨g, rfl, hg, hO, hK1⟩
    have HO := Lib.hid hO
    clear T1 hO
    go_wp2_with fail
    refine (RA.out _ hK1).mono ?_
    rintro e w2 ⟨rfl, hK2⟩
    have hK12 := hK1.trans hK2
    go_wp2_with fail
    refine (RB.out _ hK12).mono ?_
    rintro e w3 ⟨rfl, hK3⟩
    have hK13 := hK12.trans hK3
    go_wp2_with fail
    refine (gday_any _ _).mono ?_
    rintro e w4 ⟨rfl, rfl⟩
    rw [I1.out]
    go_wp2_with fail
    refine (tie_nil _).mono ?_
    rintro e w5 ⟨rfl, hK5⟩
    have hK15 := hK13.trans hK5
    have HO5 := Lib.hid (((HO.out.later hK2).later hK3).later hK5)
    have P2 := Lib.hid (T2.out _ hK15)
    clear T2 HO hK2 hK3 hK12 hK13 hK5 hK1
    go_wp2_with fail
    refine P2.out.mono ?_
    rintro e w6 ⟨g2, rfl, hg2, hO2, hK6⟩
    have EQ := Lib.hid (iequal_yes s (some ⟨g, 0, none⟩) (some ⟨g2, 0, none⟩) s.length s.length s.length w6 (by rw [SL.out]; omega) rfl (own_argT (HO5.out.later hK6)) (own_argT hO2))
    have hK16 := hK15.trans hK6
    clear P2 HO5 hO2 hK15 hK6
    go_wp2_with fail
    refine EQ.out.mono ?_
    rintro e w7 ⟨rfl, hK7⟩
    go_wp2
    go_ret
    exact ⟨rfl, hK16.trans hK7⟩
  · have T1 := Lib.hid (tie_no a b l m cap cap' h w hl hl' HA.out HB.out er)
    by_cases c : itE l = 0
    · rw [c] at RA
      by_cases d : itE m = 0
      · rw [d] at RB
        have f : ¬ (0 ≤ h ∧ h ≤ 292193) := fun f => er (by unfold tiE; rw [if_pos c, if_pos d, if_pos f])
        have E : tiE l m h = 1 := by unfold tiE; rw [if_pos c, if_pos d, if_neg f]
        rw [E] at T1
        have I1 := Lib.hid (inG_no f)
        clear er E c d f
        go_enter Try.func4, Try.ntmps4
        go_wp2_with fail
        refine T1.out.mono ?_
        rintro e w1 ⟨rfl, hK1⟩
        go_wp2_with fail
        refine (RA.out _ hK1).mono ?_
        rintro e w2 ⟨rfl, hK2⟩
        have hK12 := hK1.trans hK2
        go_wp2_with fail
        refine (RB.out _ hK12).mono ?_
        rintro e w3 ⟨rfl, hK3⟩
        have hK13 := hK12.trans hK3
        go_wp2_with fail
        refine (gday_any _ _).mono ?_
        rintro e w4 ⟨rfl, rfl⟩
        rw [I1.out]
        go_wp2_with fail
        refine (tie_nil _).mono ?_
        rintro e w5 ⟨rfl, hK5⟩
        go_wp2
        go_ret
        exact ⟨rfl, hK13.trans hK5⟩
      · have E : tiE l m h = itE m := by unfold tiE; rw [if_pos c, if_neg d]
        rw [E] at T1
        have nb : (itE m != 0) = true := by rw [bne_iff_ne]; exact d
        have nb2 : (itE m == 0) = false := by rw [beq_eq_false_iff_ne]; exact d
        generalize itE m = x at *
        clear er E c d
        go_enter Try.func4, Try.ntmps4
        go_wp2_with fail
        refine T1.out.mono ?_
        rintro e w1 ⟨rfl, hK1⟩
        go_wp2_with fail
        refine (RA.out _ hK1).mono ?_
        rintro e w2 ⟨rfl, hK2⟩
        have hK12 := hK1.trans hK2
        go_wp2_with fail
        refine (RB.out _ hK12).mono ?_
        rintro e w3 ⟨rfl, hK3⟩
        have hK13 := hK12.trans hK3
        go_wp2_with fail
        refine (tie_nil _).mono ?_
        rintro e w5 ⟨rfl, hK5⟩
        go_wp2
        go_ret
        exact ⟨by simp, hK13.trans hK5⟩
    · have E : tiE l m h = itE l := by unfold tiE; rw [if_neg c]
      rw [E] at T1
      have nb : (itE l != 0) = true := by rw [bne_iff_ne]; exact c
      have nb2 : (itE l == 0) = false := by rw [beq_eq_false_iff_ne]; exact c
      generalize itE l = x at *
      clear er E c
      go_enter Try.func4, Try.ntmps4
      go_wp2_with fail
      refine T1.out.mono ?_
      rintro e w1 ⟨rfl, hK1⟩
      go_wp2_with fail
      refine (RA.out _ hK1).mono ?_
      rintro e w2 ⟨rfl, hK2⟩
      have hK12 := hK1.trans hK2
      go_wp2_with fail
      refine (tie_nil _).mono ?_
      rintro e w5 ⟨rfl, hK5⟩
      go_wp2
      go_ret
      exact ⟨by simp, hK12.trans hK5⟩
end Go.Proofs.Ytdgiljndoeldcaa
