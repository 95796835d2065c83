/-
  The walk of talkeep.CloseZero: it returns true at every input. No condition but those that each theorem names.
-/
import Derived.Test.YtdabangdjgkphaaXWalkE
namespace Go.Proofs.Ytdabangdjgkphaa
open Go.RowKit
set_option linter.unusedVariables false

set_option maxRecDepth 100000 in
set_option maxHeartbeats 4000000 in
theorem closeZero_walk (q : BkA) (b : Bk) (k : ByteArray) (d : Int) (c : ByteArray) (w : World) (hM : BkM w q b) (hk : k.size ≤ maxLen) (hc : c.size ≤ maxLen) :
    Calls Try.prog 3 #[bkV q b, .string k, .int .i64 d, .string c] w fun e w' => e = .returned (.bool true) ∧ Below w.heap.size w w' := by
  have hK2 := (Kept.refl w).alloc (bkO q b)
  have HB := Lib.hid (BBx.new w q b)
  have HM := Lib.hid (hM.later hK2)
  generalize hW : w.alloc (bkO q b) = W at *
  have HW := Lib.hid hW
  have HK := Lib.hid hK2
  clear hM hW hK2
  go_enter Try.func3, Try.ntmps3
  go_wp2_with fail
  rw [HW.out]
  refine (plain_any _).mono ?_
  rintro e w1 ⟨q1, rfl, hM1, hK1⟩
  go_wp2_with fail
  refine (sale_any _ _ _ _ (by decide) (by decide)).mono ?_
  rintro e w2 ⟨p, hp, rfl, hR, hK2⟩
  have PY := Lib.hid (post_yes q1 plainB saleE (some ⟨p, 0, none⟩) 2 w2 (hM1.later hK2) (sale_m hR) sale_ok)
  rw [sale_post] at PY
  go_wp2_with fail
  refine PY.out.mono ?_
  rintro e w3 ⟨q3, rfl, hF, hK3⟩
  have k4 := (Kept.refl w3).alloc (bkO q3 saleB)
  have HM4 := Lib.hid (hF.m.later k4)
  have hK4 := hK1.trans (hK2.trans (hK3.trans k4))
  have CY := Lib.hid (close_yes q3 saleB ⟨#[122]⟩ 6 ⟨#[51, 48]⟩ _ HM4.out (by unfold maxLen; decide) (by unfold maxLen; decide) z_cl)
  rw [show clV saleB ⟨#[122]⟩ 6 ⟨#[51, 48]⟩ = clB from rfl] at CY
  clear hM1 hR hF hK1 hK2 hK3 PY
  go_wp2_with fail
  refine CY.out.mono ?_
  rintro e w5 ⟨q5, rfl, hF5, hK5⟩
  have k6 := (Kept.refl w5).alloc (bkO q5 clB)
  have HV := Lib.hid (xb_new (w := w5) rfl q5 clB)
  have BA := Lib.hid (bal_yes q5 clB ⟨#[51, 48]⟩ 6 _ (hF5.m.later k6) z_ba)
  rw [z_bal] at BA
  have HK6 := Lib.hid (hK4.trans (hK5.trans k6))
  have hp5 : W.heap.size ≤ w5.heap.size := (hK4.trans hK5).le
  clear hK4 hK5 k4 hF5 CY HM4
  go_wp2_with fail
  refine BA.out.mono ?_
  rintro e w7 ⟨rfl, hK7⟩
  have HV7 := Lib.hid (HV.out.later hK7)
  have HK7 := Lib.hid (HK6.out.trans hK7)
  clear BA HV HK6 hK7 k6
  generalize w5.heap.size = py at *
  obtain ⟨⟨v0, v1, v2, v3⟩, f0, f1, f2⟩ := HV7.out
  rw [z_shut] at v3
  obtain ⟨b0, b1, b2, b3⟩ := HB.out.later HK7.out
  by_cases ok : clE b k d c = 0
  · have CL := Lib.hid (close_yes q b k d c w7 (HM.out.later HK7.out) hk hc ok)
    have CF := clE_closed ok
    obtain ⟨h1, h2, h3, h4⟩ := clE_ok ok
    obtain ⟨gd, dy, hcc, hc2⟩ := ccE_ok h1
    generalize clV b k d c = y at *
    clear ok h2 h3 h4
    go_wp2_with fail
    refine CL.out.mono ?_
    rintro e w8 ⟨q8, rfl, hF8, hK8⟩
    have PU := Lib.hid (Put.of HV7.out hK8 HK7.out hp5 hF8 (Nat.le_refl _))
    clear v0 v1 v2 v3 f0 f1 f2 b0 b1 b2 b3
    obtain ⟨⟨v0, v1, v2, v3⟩, f0, f1, f2⟩ := HV7.out.later hK8
    obtain ⟨b0, b1, b2, b3⟩ := HB.out.later (HK7.out.trans hK8)
    have hn : w.heap.size ≠ py := by have := HB.out.lt; omega
    clear CL hF8 hK8
    have GD := Lib.hid gd
    have DY := Lib.hid dy
    have CF := Lib.hid CF
    have HC := Lib.hid (show hasB c b.acs = true ∧ kiV b.acs c = 2 from ⟨hcc, hc2⟩)
    clear gd dy hcc hc2 h1
    go_wp2_with fail
    generalize ((w8.setCell ⟨py, 0, none⟩ (.slice q8.aa y.acs.length q8.ca)).setCell ⟨py, 1, none⟩ (.slice q8.ae y.ens.length q8.ce)).setCell ⟨py, 2, none⟩ (.int .i64 y.shut) = w9 at *
    clear v0 v1 v2 v3 f0 f1 f2 b0 b1 b2 b3
    by_cases hky : kyI k b.ens < b.ens.length
    · refine (get_yes q b k w9 (HM.out.later PU.out.kp) GD.out _ rfl hky).mono ?_
      rintro e w10 ⟨p9, hp9, rfl, hO9, hK9⟩
      have FK := Lib.hid (PU.out.kp.trans hK9)
      generalize b.ens[kyI k b.ens] = x at *
      clear hky hO9 hK9
      go_wp2
      go_ret
      exact ⟨rfl, HK.out.trans (FK.out.alloc _)⟩
    · have G4 : gtE b k = 4 := by unfold gtE; rw [if_pos (bkE_iff.2 GD.out), if_neg hky]
      have hnk : ∀ e ∈ b.ens, e.key ≠ k := fun e he h => hky (kyI_lt.2 ⟨e, he, h⟩)
      have GN := get_no q b k w9 (HM.out.later PU.out.kp) (by rw [G4]; decide)
      rw [G4] at GN
      refine GN.mono ?_
      rintro e w10 ⟨rfl, hK10⟩
      have GY := Lib.hid CF.out.good
      have ZR := Lib.hid (fun a (ha : a ∈ b.acs) (h3 : 3 ≤ a.2) => CF.out.zero GD.out HC.out.2 hnk ha h3)
      have EA := Lib.hid CF.out.acs
      have NX := Lib.hid (CF.out.none GD.out HC.out.2 hnk)
      obtain ⟨x0, x1, x2, x3⟩ := CF.out.kin GD.out HC.out.2 DY.out hnk
      have dd := (dyB_iff d).1 DY.out
      have tb : tcE b d d = 0 := tcE_of GD.out (by omega)
      have tb0 : tcE b 0 d = 0 := tcE_of GD.out (by omega)
      have ty : tcE y d d = 0 := tcE_of GY.out (by omega)
      have ty0 : tcE y 0 d = 0 := tcE_of GY.out (by omega)
      have SB := Lib.hid (fun V (h : BkM V q b) => sheet_yes q b d V h tb)
      have SY := Lib.hid (fun V (h : BkM V q8 y) => sheet_yes q8 y d V h ty)
      have PB := Lib.hid (fun V (h : BkM V q b) => profit_yes q b 0 d V h tb0)
      have PY := Lib.hid (fun V (h : BkM V q8 y) => profit_yes q8 y 0 d V h ty0)
      obtain ⟨m1, m2⟩ := GD.out.kbd 2 0 d
      obtain ⟨m3, m4⟩ := GD.out.kbd 3 0 d
      obtain ⟨m5, m6⟩ := GD.out.kbd 4 0 d
      rw [x0, x1, x2] at SY
      rw [show prV y 0 d = 0 by unfold prV; omega] at PY
      rw [show prV b 0 d = -(kinS b.acs 3 0 d b.ens + kinS b.acs 4 0 d b.ens) from rfl] at PB
      have K11 := Lib.hid (hK10.alloc noEn)
      have BM := Lib.hid (fun V (k : Kept w9 V) => (HB.out.later (PU.out.kp.trans k)))
      have YM := Lib.hid (fun V (k : Kept w9 V) => (PU.out.vy.later k).box)
      have K10 := Lib.hid hK10
      clear x0 x1 x2 x3 tb tb0 ty ty0 hky G4 hnk GN hK10 dd
      generalize kinS b.acs 0 0 d b.ens = k0 at *
      generalize kinS b.acs 1 0 d b.ens = k1 at *
      generalize kinS b.acs 2 0 d b.ens = k2 at *
      generalize kinS b.acs 3 0 d b.ens = k3 at *
      generalize kinS b.acs 4 0 d b.ens = k4 at *
      have wr1 : IntKind.i64.wrap (-k2 + -(k3 + k4)) = -k2 + -(k3 + k4) := IntWalk.i64_in _ (by omega)
      rw [show -(k2 + (k3 + k4)) = -k2 + -(k3 + k4) by omega] at SY
      obtain ⟨b0, b1, b2, b3⟩ := BM.out _ K10.out
      generalize hw11 : w10.alloc noEn = w11 at *
      have HW11 := Lib.hid hw11
      clear hw11
      go_wp2_with fail
      rw [HW11.out]
      refine (SB.out w11 (HM.out.later (PU.out.kp.trans K11.out))).mono ?_
      rintro e w12 ⟨rfl, hK12⟩
      have K12 := Lib.hid (K11.out.trans hK12)
      clear b0 b1 b2 b3 hK12
      obtain ⟨v0, v1, v2, v3⟩ := YM.out _ K12.out
      go_wp2_with fail
      refine (SY.out w12 (PU.out.my.later K12.out)).mono ?_
      rintro e w13 ⟨rfl, hK13⟩
      have K13 := Lib.hid (K12.out.trans hK13)
      clear v0 v1 v2 v3 hK13
      obtain ⟨b0, b1, b2, b3⟩ := BM.out _ K13.out
      go_wp2_with fail
      refine (PB.out w13 (HM.out.later (PU.out.kp.trans K13.out))).mono ?_
      rintro e w14 ⟨rfl, hK14⟩
      have K14 := Lib.hid (K13.out.trans hK14)
      clear b0 b1 b2 b3 hK14
      obtain ⟨v0, v1, v2, v3⟩ := YM.out _ K14.out
      go_wp2_with fail
      refine (PY.out w14 (PU.out.my.later K14.out)).mono ?_
      rintro e w15 ⟨rfl, hK15⟩
      have K15 := Lib.hid (K14.out.trans hK15)
      clear v0 v1 v2 v3 hK15
      obtain ⟨v0, v1, v2, v3⟩ := YM.out _ K15.out
      go_wp2_with fail
      clear v0 v1 v2 v3
      have y24 := GY.out.a24
      go_loopw [152] (fun i wr => ∃ j : Nat, j ≤ y.acs.length ∧ i = .int .i64 j ∧ Kept w15 wr) (fun i _ => y.acs.length - (intOf i).toNat)
      case atStart => exact ⟨0, Nat.zero_le _, rfl, Kept.refl _⟩
      case round =>
        obtain ⟨j, hj, rfl, hK⟩ := hrel
        have KW := Lib.hid (K15.out.trans hK)
        by_cases hlt : j < y.acs.length
        · obtain ⟨p8, off, hp8, hR⟩ := (PU.out.my.later KW.out).acs.at hlt
          have c0 := hR.c0 j hlt
          have c1 := hR.c1 j hlt
          have plt := hR.lt
          have HH := Lib.hid (show hasB (y.acs[j]).1 y.acs = true from hasB_iff.2 ⟨_, List.getElem_mem hlt, rfl⟩)
          have ZX := Lib.hid (ZR.out y.acs[j] (by rw [← EA.out]; exact List.getElem_mem hlt))
          clear hR
          rw [hp8] at *
          generalize y.acs[j] = x at *
          have kA := (Kept.refl wr).alloc (.cells #[.string x.1, .int .i64 x.2] 43)
          have BC := Lib.hid (bal_yes q8 y x.1 d _ (PU.out.my.later (KW.out.trans kA)) (GY.out.ba HH.out DY.out))
          obtain ⟨v0, v1, v2, v3⟩ := YM.out _ KW.out
          have KA := Lib.hid (hK.trans kA)
          have HX := Lib.hid (PBx.new wr x 43)
          have HLT := Lib.hid hlt
          clear hp8
          by_cases h3 : 3 ≤ x.2
          · rw [ZX.out h3] at BC
            go_wp2_with fail
            refine BC.out.mono ?_
            rintro e w17 ⟨rfl, hK17⟩
            have KF := Lib.hid (KA.out.trans hK17)
            obtain ⟨x0, x1, x2⟩ := HX.out.later hK17
            clear v0 v1 v2 v3 hK17 kA hK
            go_wp2
            go_roundw
            case rel => exact ⟨j + 1, HLT.out, by go_num, KF.out⟩
            case measure => have := HLT.out; simp [intOf]; omega
          · generalize balS x.1 d y.ens = n at *
            go_wp2_with fail
            refine BC.out.mono ?_
            rintro e w17 ⟨rfl, hK17⟩
            have KF := Lib.hid (KA.out.trans hK17)
            obtain ⟨x0, x1, x2⟩ := HX.out.later hK17
            clear v0 v1 v2 v3 hK17 kA hK
            go_wp2
            go_roundw
            case rel => exact ⟨j + 1, HLT.out, by go_num, KF.out⟩
            case measure => have := HLT.out; simp [intOf]; omega
        · obtain rfl : j = y.acs.length := by omega
          clear hlt
          have C4 : clE y k d c = 4 := by
            unfold clE
            rw [if_pos (show ccE y d c = 0 by unfold ccE; rw [if_pos (bkE_iff.2 GY.out), if_pos DY.out, EA.out, if_pos HC.out.1, if_pos HC.out.2]), if_pos NX.out]
          have CN := close_no q8 y k d c wr (PU.out.my.later KW.out) hk hc (by rw [C4]; decide)
          rw [C4] at CN
          have CN := Lib.hid CN
          obtain ⟨v0, v1, v2, v3⟩ := YM.out _ KW.out
          clear C4
          go_wp2_with fail
          refine CN.out.mono ?_
          rintro e w17 ⟨rfl, hK17⟩
          have K17 := Lib.hid (KW.out.trans hK17)
          clear v0 v1 v2 v3 hK17 CN
          have CK := check_any q8 y w17 (PU.out.my.later K17.out)
          rw [bkE_iff.2 GY.out] at CK
          have CK := Lib.hid CK
          obtain ⟨v0, v1, v2, v3⟩ := YM.out _ K17.out
          have sd : (y.shut == d) = true := by rw [CF.out.shut]; simp
          go_wp2_with fail
          refine CK.out.mono ?_
          rintro e w18 ⟨rfl, hK18⟩
          have KF := Lib.hid (K17.out.trans hK18)
          clear v0 v1 v2 v3 hK18
          go_wp2
          go_ret
          exact ⟨rfl, HK.out.trans (PU.out.kp.trans KF.out)⟩
  · have CN := Lib.hid (close_no q b k d c w7 (HM.out.later HK7.out) hk hc ok)
    have hne : (clE b k d c != 0) = true := by simpa using ok
    clear ok
    generalize clE b k d c = ek at *
    go_wp2_with fail
    refine CN.out.mono ?_
    rintro e w8 ⟨rfl, hK8⟩
    clear v0 v1 v2 v3 f0 f1 f2 b0 b1 b2 b3
    obtain ⟨⟨v0, v1, v2, v3⟩, f0, f1, f2⟩ := HV7.out.later hK8
    have FK := Lib.hid ((HK7.out.trans hK8).set3 (p := py) hp5 (.slice none 0 0) (.slice none 0 0) (.int .i64 0))
    clear hK8 CN
    go_wp2
    go_ret
    exact ⟨rfl, HK.out.trans FK.out⟩
end Go.Proofs.Ytdabangdjgkphaa
