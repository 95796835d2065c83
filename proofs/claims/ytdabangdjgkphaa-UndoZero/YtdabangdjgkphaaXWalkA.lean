/-
  What package closing's check and closingLines return. No condition but those that each theorem names.
-/
import Derived.Test.YtdabangdjgkphaaXMath
import Derived.StillTailTactics
namespace Go.Proofs.Ytdabangdjgkphaa
open Go.RowKit
set_option linter.unusedVariables false

set_option maxHeartbeats 2000000 in
theorem ccheck_any (q : BkA) (b : Bk) (d : Int) (c : ByteArray) (w : World) (hM : BkM w q b) :
    Calls Try.prog 28 #[bkV q b, .int .i64 d, .string c] w fun e w' => e = .returned (.int .i64 (ccE b d c)) ∧ Kept w w' := by
  have hK2 := (Kept.refl w).alloc (bkO q b)
  have HB := Lib.hid (BBx.new w q b)
  have HM := Lib.hid (hM.later hK2)
  have CK := Lib.hid (check_any q b _ (hM.later hK2))
  generalize hW : w.alloc (bkO q b) = W at HB CK hK2 HM
  have HW := Lib.hid hW
  have HK := Lib.hid hK2
  clear hM hW hK2
  obtain ⟨b0, b1, b2, b3⟩ := HB.out
  by_cases h1 : bkE b = 0
  · rw [h1] at CK
    have AC := Lib.hid (bkE_iff.1 h1).acs
    have TE := Lib.hid (show ∀ r : Int, (if dyB d = true then (if hasB c b.acs = true then (if kiV b.acs c = 2 then 0 else 3) else 4) else (1 : Int)) = r → ccE b d c = r from fun r h => by unfold ccE; rw [if_pos h1, h])
    clear h1
    by_cases g1 : d < 0
    · have FIN := Lib.hid (TE.out 1 (if_neg (by rw [dyB_iff]; omega)))
      clear TE
      go_enter Try.func28, Try.ntmps28
      go_wp2_with fail
      rw [HW.out]
      refine CK.out.mono ?_
      rintro e w1 ⟨rfl, hK1⟩
      go_wp2
      go_ret
      exact ⟨ret_int FIN.out.symm, HK.out.trans hK1⟩
    · by_cases g2 : 292193 < d
      · have FIN := Lib.hid (TE.out 1 (if_neg (by rw [dyB_iff]; omega)))
        clear TE
        go_enter Try.func28, Try.ntmps28
        go_wp2_with fail
        rw [HW.out]
        refine CK.out.mono ?_
        rintro e w1 ⟨rfl, hK1⟩
        go_wp2
        go_ret
        exact ⟨ret_int FIN.out.symm, HK.out.trans hK1⟩
      · have dy : dyB d = true := (dyB_iff _).2 ⟨by omega, by omega⟩
        have KY := Lib.hid (fun V (k : Kept W V) => kind_yes q.aa b.acs q.ca c V (HM.out.later k).acs HM.out.sha HM.out.an AC.out)
        rw [kd_has] at KY
        by_cases hb : hasB c b.acs = true
        · rw [if_pos hb] at KY
          obtain ⟨k, hk⟩ : ∃ k, kiV b.acs c = k := ⟨_, rfl⟩
          rw [show kdV (b.acs.filter (isB c)) = k from hk] at KY
          have FIN := Lib.hid (TE.out (if k = 2 then 0 else 3) (by rw [if_pos dy, if_pos hb, hk]))
          clear TE hk hb dy
          by_cases k2 : k = 2
          · rw [if_pos k2] at FIN
            subst k2
            go_enter Try.func28, Try.ntmps28
            go_wp2_with fail
            rw [HW.out]
            refine CK.out.mono ?_
            rintro e w1 ⟨rfl, hK1⟩
            clear b0 b1 b2 b3
            obtain ⟨b0, b1, b2, b3⟩ := HB.out.later hK1
            go_wp2_with fail
            refine (KY.out w1 hK1).mono ?_
            rintro e w2 ⟨rfl, hK2⟩
            go_wp2
            go_ret
            exact ⟨ret_int FIN.out.symm, HK.out.trans (hK1.trans hK2)⟩
          · rw [if_neg k2] at FIN
            have k3 : (k == 2) = false := by simpa using k2
            go_enter Try.func28, Try.ntmps28
            go_wp2_with fail
            rw [HW.out]
            refine CK.out.mono ?_
            rintro e w1 ⟨rfl, hK1⟩
            clear b0 b1 b2 b3
            obtain ⟨b0, b1, b2, b3⟩ := HB.out.later hK1
            go_wp2_with fail
            refine (KY.out w1 hK1).mono ?_
            rintro e w2 ⟨rfl, hK2⟩
            go_wp2
            go_ret
            exact ⟨ret_int FIN.out.symm, HK.out.trans (hK1.trans hK2)⟩
        · rw [if_neg hb] at KY
          have FIN := Lib.hid (TE.out 4 (by rw [if_pos dy, if_neg hb]))
          clear TE hb dy
          generalize kdV (b.acs.filter (isB c)) = k at *
          go_enter Try.func28, Try.ntmps28
          go_wp2_with fail
          rw [HW.out]
          refine CK.out.mono ?_
          rintro e w1 ⟨rfl, hK1⟩
          clear b0 b1 b2 b3
          obtain ⟨b0, b1, b2, b3⟩ := HB.out.later hK1
          go_wp2_with fail
          refine (KY.out w1 hK1).mono ?_
          rintro e w2 ⟨rfl, hK2⟩
          go_wp2
          go_ret
          exact ⟨ret_int FIN.out.symm, HK.out.trans (hK1.trans hK2)⟩
  · have FIN := Lib.hid (show ccE b d c = bkE b by unfold ccE; rw [if_neg h1])
    have h2 : (bkE b != 0) = true := by simpa using h1
    clear h1
    generalize bkE b = ek at *
    go_enter Try.func28, Try.ntmps28
    go_wp2_with fail
    rw [HW.out]
    refine CK.out.mono ?_
    rintro e w1 ⟨rfl, hK1⟩
    go_wp2
    go_ret
    exact ⟨ret_int FIN.out.symm, HK.out.trans hK1⟩
end Go.Proofs.Ytdabangdjgkphaa
