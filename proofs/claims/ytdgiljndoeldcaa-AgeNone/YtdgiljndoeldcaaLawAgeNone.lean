/-
  The law AgeNone: for all items and an amount it answers true; nothing that was there is turned. No condition but those that each theorem names.
-/
import Derived.Test.YtdgiljndoeldcaaLawAgeTwice
namespace Go.Proofs.Ytdgiljndoeldcaa
open Go.RowKit
set_option linter.unusedVariables false

theorem none_facts {l : List Mv} (ok : ItOk l) : ∃ m : List Mv, payL (srtD l) 0 = m ∧ payR (srtD l) 0 = 0 ∧ m.length = l.length ∧ csm m = csm l ∧ (∀ x ∈ m, 1 ≤ x.2) ∧ (∀ x ∈ l, 1 ≤ x.2) ∧ 0 ≤ csm l ∧ csm l ≤ 40000000000000 ∧ (∀ y, 0 ≤ y → payL (srtD l) (csm l + y) = [] ∧ payR (srtD l) (csm l + y) = y) := by
  have pos : ∀ v ∈ srtD l, 1 ≤ v.2 := fun v hv => (ok.it v ((srtD_perm l).subset hv)).2.2.1
  have posl : ∀ v ∈ l, 1 ≤ v.2 := fun v hv => (ok.it v hv).2.2.1
  obtain ⟨e1, e2⟩ := pay_zero pos
  have c := csm_perm (srtD_perm l)
  have b := ItOk.csm ok.it
  have := ok.len
  refine ⟨_, e1, e2, (srtD_perm l).length_eq, c, pos, posl, by omega, by omega, fun y hy => ?_⟩
  rw [← c]
  exact pay_all pos hy
set_option maxRecDepth 100000 in
set_option maxHeartbeats 8000000 in
theorem ageNone_walk (a : Option Addr) (l : List Mv) (cap : Nat) (k1 : Int) (w : World) (hA : JArg eP w a l) (hc : l.length ≤ cap) (hn : cap ≤ maxLen) (z : a = none → cap = 0) :
    Calls Try.prog 12 #[.slice a l.length cap, .int .i64 k1] w fun e w' => e = .returned (.bool true) ∧ Below w.heap.size w w' := by
  have F0 := Lib.hid (pay_is (some ⟨w.heap.size, 0, none⟩) [(2, 4)] 1 9 (w.alloc (.cells #[.int .i64 2, .int .i64 4] 31)) [] 5 (JArg.lit eP _ _ _ rfl rfl) (fun e => by cases e) (it_ok (by decide +kernel)) (by decide) (by decide) (by decide +kernel) (by decide +kernel))
  have KA := (Kept.refl w).alloc (.cells #[.int .i64 2, .int .i64 4] 31)
  have HA := Lib.hid hA
  have hl : l.length ≤ maxLen := Nat.le_trans hc hn
  clear hA
  by_cases er : itE l = 0
  · have ok := it_ok er
    clear er
    obtain ⟨m, e1, e2, ml, mc, mp, lp, s0, s1, PA⟩ := none_facts ok
    have hl4 : l.length ≤ 40 := ok.len
    have OK := Lib.hid ok
    have E1 := Lib.hid e1
    have E2 := Lib.hid e2
    have PA := Lib.hid PA
    have MP := Lib.hid mp
    have LP := Lib.hid lp
    clear ok e1 e2 mp lp
    go_enter Try.func12, Try.ntmps12
    go_wp2_with fail
    refine F0.out.mono ?_
    rintro e w1 ⟨a0, c0, rfl, hR0, hK0⟩
    have hK1 := KA.trans hK0
    clear F0 KA hR0 hK0
    have P1 := Lib.hid (pay_is a l cap 0 w1 m 0 (HA.out.later hK1) z OK.out (by decide) (by decide) E1.out E2.out)
    go_wp2_with fail
    refine P1.out.mono ?_
    rintro e w2 ⟨a1, c1, rfl, hR1, hK2⟩
    have hK12 := hK1.trans hK2
    clear P1 hK1 hK2
    have O1 := Lib.hid (owed_any a1 m c1 w2 (by omega) MP.out (by omega) hR1.arg)
    rw [mc] at O1
    rw [ml]
    rw [ml] at O1
    clear hR1
    go_wp2_with fail
    refine O1.out.mono ?_
    rintro e w3 ⟨rfl, hK3⟩
    have hK13 := hK12.trans hK3
    clear O1 hK12 hK3
    have OL := Lib.hid (fun (w' : World) (k : Kept w w') => owed_any a l cap w' (by omega) LP.out (by omega) (HA.out.later k))
    go_wp2_with fail
    refine (OL.out _ hK13).mono ?_
    rintro e w4 ⟨rfl, hK4⟩
    have hK14 := hK13.trans hK4
    clear hK13 hK4
    go_wp2_with fail
    refine (OL.out _ hK14).mono ?_
    rintro e w5 ⟨rfl, hK5⟩
    have hK15 := hK14.trans hK5
    clear hK14 hK5
    by_cases big : 500000000000 < csm l
    · go_wp2
      go_ret
      exact ⟨rfl, hK15⟩
    · go_wp2_with fail
      refine (skWithin_any _ _ _ (by decide) (by decide)).mono ?_
      rintro e w6 ⟨y, y0, y1, rfl, rfl⟩
      have hsum : IntKind.i64.wrap (csm l + y) = csm l + y := IntWalk.i64_in _ (by omega)
      go_wp2_with fail
      refine (OL.out _ hK15).mono ?_
      rintro e w7 ⟨rfl, hK7⟩
      have hK17 := hK15.trans hK7
      clear hK15 hK7
      have P2 := Lib.hid (pay_is a l cap (csm l + y) w7 [] y (HA.out.later hK17) z OK.out (by omega) (by omega) (PA.out y y0).1 (PA.out y y0).2)
      go_wp2_with fail
      refine P2.out.mono ?_
      rintro e w8 ⟨a8, c8, rfl, hR8, hK8⟩
      go_wp2
      go_ret
      exact ⟨rfl, hK17.trans hK8⟩
  · have ep : pyE l 0 = itE l := by unfold pyE; rw [if_neg er]
    have nb : (itE l != 0) = true := by rw [bne_iff_ne]; exact er
    have P1 := Lib.hid (fun (w' : World) (k : Kept w w') => pay_no a l cap 0 w' hl (HA.out.later k) (by rw [ep]; exact er))
    rw [ep] at P1
    generalize itE l = q at *
    clear ep er
    go_enter Try.func12, Try.ntmps12
    go_wp2_with fail
    refine F0.out.mono ?_
    rintro e w1 ⟨a0, c0, rfl, hR0, hK0⟩
    have hK1 := KA.trans hK0
    clear F0 KA hR0 hK0
    go_wp2_with fail
    refine (P1.out _ hK1).mono ?_
    rintro e w2 ⟨rfl, hK2⟩
    go_wp2
    go_ret
    exact ⟨rfl, hK1.trans hK2⟩
end Go.Proofs.Ytdgiljndoeldcaa
