/-
  The walk of talkeep.TrialEqual: it returns true at every input. No condition but those that each theorem names.
-/
import Derived.Test.YtklbikifcebckaaVWalkD
namespace Go.Proofs.Ytklbikifcebckaa
open Go.RowKit
set_option linter.unusedVariables false

set_option maxRecDepth 100000 in
set_option maxHeartbeats 4000000 in
theorem trialEqual_walk (q : BkA) (b : Bk) (t0 : Int) (w : World) (hM : BkM w q b) :
    Calls Try.prog 4 #[bkV q b, .int .i64 t0] w fun e w' => e = .returned (.bool true) ∧ Below w.heap.size w w' := by
  have hK2 := (Kept.refl w).alloc (bkO q b)
  have HB := Lib.hid (BBx.new w q b)
  have HM := Lib.hid (hM.later hK2)
  generalize hW : w.alloc (bkO q b) = W at *
  have HW := Lib.hid hW
  have HK := Lib.hid hK2
  clear hM hW hK2
  go_enter Try.func4, Try.ntmps4
  go_wp2_with fail
  rw [HW.out]
  refine (plain_any _).mono ?_
  rintro e w1 ⟨q1, rfl, hM1, hK1⟩
  go_wp2_with fail
  refine (sale_any _ _ _ _ (by decide) (by decide)).mono ?_
  rintro e w2 ⟨p, hp, rfl, hR, hK2⟩
  have PY := Lib.hid (post_yes q1 plainB saleE (some ⟨p, 0, none⟩) 2 w2 (hM1.later hK2) (sale_m hR) sale_ok)
  rw [sale_post] at PY
  go_wp2_with fail
  refine PY.out.mono ?_
  rintro e w3 ⟨q3, rfl, hF, hK3⟩
  have k4 := (Kept.refl w3).alloc (bkO q3 saleB)
  have HM4 := Lib.hid (hF.m.later k4)
  have hK4 := hK1.trans (hK2.trans (hK3.trans k4))
  have TY := Lib.hid (trial_yes q3 saleB 5 _ HM4.out saleB_t.1)
  rw [saleB_ud.1, saleB_ud.2] at TY
  clear hM1 hR hF hK1 hK2 hK3
  go_wp2_with fail
  refine TY.out.mono ?_
  rintro e w5 ⟨rfl, hK5⟩
  have hK6 := hK4.trans hK5
  have HK6 := Lib.hid hK6
  obtain ⟨b0, b1, b2, b3⟩ := HB.out.later hK6
  clear hK6 hK4 hK5 k4
  by_cases ok : tcE b t0 t0 = 0
  · have BY := Lib.hid (trial_yes q b t0 w5 (HM.out.later HK6.out) ok)
    have UD := Lib.hid ((tcE_ok ok).1.ud t0)
    have UZ := (ud_sum (fun k => balS k t0 b.ens) b.acs).2.1
    rw [← UD.out] at BY
    clear ok UD
    generalize upS (fun k => balS k t0 b.ens) b.acs = S at *
    go_wp2_with fail
    refine BY.out.mono ?_
    rintro e w7 ⟨rfl, hK7⟩
    go_wp2
    go_ret
    exact ⟨rfl, HK.out.trans (HK6.out.trans hK7)⟩
  · have BY := Lib.hid (trial_no q b t0 w5 (HM.out.later HK6.out) ok)
    have h2 : (tcE b t0 t0 != 0) = true := by simpa using ok
    clear ok
    generalize tcE b t0 t0 = ek at *
    go_wp2_with fail
    refine BY.out.mono ?_
    rintro e w7 ⟨rfl, hK7⟩
    go_wp2
    go_ret
    exact ⟨rfl, HK.out.trans (HK6.out.trans hK7)⟩
end Go.Proofs.Ytklbikifcebckaa
