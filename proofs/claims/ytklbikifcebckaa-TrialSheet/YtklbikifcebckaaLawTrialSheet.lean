/-
  The walk of talkeep.TrialSheet: it returns true at every input. No condition but those that each theorem names.
-/
import Derived.Test.YtklbikifcebckaaVWalkD
namespace Go.Proofs.Ytklbikifcebckaa
open Go.RowKit
set_option linter.unusedVariables false

set_option maxRecDepth 100000 in
set_option maxHeartbeats 4000000 in
theorem trialSheet_walk (q : BkA) (b : Bk) (t0 : Int) (w : World) (hM : BkM w q b) :
    Calls Try.prog 5 #[bkV q b, .int .i64 t0] w fun e w' => e = .returned (.bool true) ∧ Below w.heap.size w w' := by
  have hK2 := (Kept.refl w).alloc (bkO q b)
  have HB := Lib.hid (BBx.new w q b)
  have HM := Lib.hid (hM.later hK2)
  generalize hW : w.alloc (bkO q b) = W at *
  have HW := Lib.hid hW
  have HK := Lib.hid hK2
  clear hM hW hK2
  go_enter Try.func5, Try.ntmps5
  go_wp2_with fail
  rw [HW.out]
  refine (plain_any _).mono ?_
  rintro e w1 ⟨q1, rfl, hM1, hK1⟩
  go_wp2_with fail
  refine (sale_any _ _ _ _ (by decide) (by decide)).mono ?_
  rintro e w2 ⟨p, hp, rfl, hR, hK2⟩
  have PY := Lib.hid (post_yes q1 plainB saleE (some ⟨p, 0, none⟩) 2 w2 (hM1.later hK2) (sale_m hR) sale_ok)
  rw [sale_post] at PY
  go_wp2_with fail
  refine PY.out.mono ?_
  rintro e w3 ⟨q3, rfl, hF, hK3⟩
  have k4 := (Kept.refl w3).alloc (bkO q3 saleB)
  have HM4 := Lib.hid (hF.m.later k4)
  have hK4 := hK1.trans (hK2.trans (hK3.trans k4))
  have TY := Lib.hid (profit_yes q3 saleB 0 5 _ HM4.out saleB_t.2)
  rw [saleB_pr.1] at TY
  clear hM1 hR hF hK1 hK2 hK3
  go_wp2_with fail
  refine TY.out.mono ?_
  rintro e w5 ⟨rfl, hK5⟩
  have hK6 := hK4.trans hK5
  have HK6 := Lib.hid hK6
  obtain ⟨b0, b1, b2, b3⟩ := HB.out.later hK6
  clear hK6 hK4 hK5 k4
  go_wp2_with fail
  refine (day_any _ _).mono ?_
  rintro e w6 ⟨rfl, rfl⟩
  have DY := Lib.hid ((dyB_iff _).1 (dyV_ok t0))
  generalize dyV t0 = d at *
  by_cases ok : bkE b = 0
  · have gd := bkE_iff.1 ok
    have t1 : tcE b d d = 0 := tcE_of gd (by have := DY.out; omega)
    have t2 : tcE b 0 d = 0 := tcE_of gd (by have := DY.out; omega)
    have SY := Lib.hid (sheet_yes q b d w5 (HM.out.later HK6.out) t1)
    have PV := Lib.hid (fun V (h : BkM V q b) => profit_yes q b 0 d V h t2)
    have Z := gd.kin0 0 d
    obtain ⟨z1, z2⟩ := gd.kbd 1 0 d
    obtain ⟨y1, y2⟩ := gd.kbd 2 0 d
    obtain ⟨x1, x2⟩ := gd.kbd 3 0 d
    obtain ⟨u1, u2⟩ := gd.kbd 4 0 d
    have PR := Lib.hid (show prV b 0 d = -(kinS b.acs 3 0 d b.ens + kinS b.acs 4 0 d b.ens) from rfl)
    clear ok gd t1 t2
    generalize kinS b.acs 0 0 d b.ens = k0 at *
    generalize kinS b.acs 1 0 d b.ens = k1 at *
    generalize kinS b.acs 2 0 d b.ens = k2 at *
    generalize kinS b.acs 3 0 d b.ens = k3 at *
    generalize kinS b.acs 4 0 d b.ens = k4 at *
    rw [PR.out] at PV
    have w1' : IntKind.i64.wrap (-k1 + -k2) = -k1 + -k2 := IntWalk.i64_in _ (by omega)
    have w2' : IntKind.i64.wrap (-k1 + -k2 + -(k3 + k4)) = -k1 + -k2 + -(k3 + k4) := IntWalk.i64_in _ (by omega)
    have FIN := Lib.hid (show (k0 == -k1 + -k2 + -(k3 + k4)) = true by rw [beq_iff_eq]; omega)
    clear Z
    go_wp2_with fail
    refine SY.out.mono ?_
    rintro e w7 ⟨rfl, hK7⟩
    clear b0 b1 b2 b3
    obtain ⟨b0, b1, b2, b3⟩ := HB.out.later (HK6.out.trans hK7)
    go_wp2_with fail
    refine (PV.out w7 (HM.out.later (HK6.out.trans hK7))).mono ?_
    rintro e w8 ⟨rfl, hK8⟩
    go_wp2
    go_ret
    exact ⟨ret_bool FIN.out, HK.out.trans (HK6.out.trans (hK7.trans hK8))⟩
  · have e1 : tcE b d d = bkE b := by unfold tcE; rw [if_neg ok]
    have e2 : tcE b 0 d = bkE b := by unfold tcE; rw [if_neg ok]
    have SY := Lib.hid (sheet_no q b d w5 (HM.out.later HK6.out) (by rw [e1]; exact ok))
    have PV := Lib.hid (fun V (h : BkM V q b) => profit_no q b 0 d V h (by rw [e2]; exact ok))
    rw [e1] at SY
    rw [e2] at PV
    have h2 : (bkE b != 0) = true := by simpa using ok
    clear ok e1 e2
    generalize bkE b = ek at *
    go_wp2_with fail
    refine SY.out.mono ?_
    rintro e w7 ⟨rfl, hK7⟩
    clear b0 b1 b2 b3
    obtain ⟨b0, b1, b2, b3⟩ := HB.out.later (HK6.out.trans hK7)
    go_wp2_with fail
    refine (PV.out w7 (HM.out.later (HK6.out.trans hK7))).mono ?_
    rintro e w8 ⟨rfl, hK8⟩
    go_wp2
    go_ret
    exact ⟨by simp, HK.out.trans (HK6.out.trans (hK7.trans hK8))⟩
end Go.Proofs.Ytklbikifcebckaa
