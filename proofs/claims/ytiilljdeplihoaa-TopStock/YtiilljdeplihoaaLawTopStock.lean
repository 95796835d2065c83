/-
  The law TopStock: for all moves it answers true; nothing that was there is turned. No condition but those that each theorem names.
-/
import Derived.Test.YtiilljdeplihoaaUMathK
namespace Go.Proofs.Ytiilljdeplihoaa
open Go.RowKit
set_option linter.unusedVariables false

set_option maxRecDepth 100000 in
set_option maxHeartbeats 4000000 in
theorem topStock_no (a : Option Addr) (l : List Mv) (cap : Nat) (w : World) (hA : JArg eP w a l) (hn : l.length ≤ maxLen) (er : skE l ≠ 0) :
    Calls Try.prog 8 #[.slice a l.length cap] w fun e w' => e = .returned (.bool true) ∧ Below w.heap.size w w' := by
  have FN := Lib.hid (fun V (k : Kept w V) => fifo_no a l cap V hn (hA.later k) er)
  have ne : (skE l != 0) = true := by simpa using er
  clear hA hn er
  generalize skE l = er at *
  go_enter Try.func8, Try.ntmps8
  go_wp2_with fail
  refine (tbegun_any _).mono ?_
  rintro e w1 ⟨rfl, hK1⟩
  have K1 := Lib.hid hK1
  clear hK1
  go_wp2_with fail
  refine (FN.out w1 K1.out).mono ?_
  rintro e w2 ⟨rfl, hK2⟩
  have K2 := Lib.hid (K1.out.trans hK2)
  clear hK2
  go_wp2
  go_ret
  exact ⟨by simp, K2.out⟩
/-- What a round of the loop knows of one move. -/
structure RdK (l : List Mv) (j : Nat) (x : Mv) : Prop where
  mv : ckM x = 0
  recv : 0 < x.1 → (ffS (l.take (j + 1))).1 = (ffS (l.take j)).1 ∧ csm (l.take (j + 1)) = csm (l.take j) + x.2
  send : ¬ 0 < x.1 → ∃ o, (ffS (l.take (j + 1))).1 = (ffS (l.take j)).1 ++ [o] ∧ csm (l.take (j + 1)) = csm (l.take j) ∧ 0 ≤ o ∧ o ≤ 40000000000000 ∧ ∃ h2 : (ffS (l.take j)).1.length < (ffS l).1.length, (ffS l).1[(ffS (l.take j)).1.length] = o
theorem rdK {l : List Mv} (ok : MvOk l) {j : Nat} (h : j < l.length) : RdK l j l[j] := by
  have hm := ok.mv _ (List.getElem_mem h)
  obtain ⟨m1, m2, m3, m4, m5, m6⟩ := ckM_ok hm
  have c : csm (l.take (j + 1)) = csm (l.take j) + (l[j]).2 := by rw [take_snocP l j h, csm_app, csm, csm]; omega
  refine ⟨hm, fun pos => ⟨by rw [ffS_at h]; unfold ffT; rw [if_pos pos], c⟩, fun neg => ?_⟩
  obtain ⟨h2, e⟩ := outs_at h neg
  have f := ffS_ok ok j (by omega)
  have st := ok.st (j + 1) h
  rw [take_snocP l j h, cnt_app, cnt, cnt] at st
  obtain ⟨b1, b2, b3, b4, b5⟩ := tk_ok (ffS (l.take j)).2 f.lots (by omega : 0 ≤ -(l[j]).1) (by rw [f.cn]; omega)
  have lc := f.lots.cnt0.2.2.1
  have l2 := f.l2
  rw [List.length_take] at l2
  have l40 := ok.len
  have b0 := b1.cnt0.2.1
  exact ⟨_, by rw [ffS_at h]; unfold ffT; rw [if_neg neg], by rw [c, m6 (by omega)]; omega, b4, by omega, h2, e⟩
set_option maxRecDepth 100000 in
set_option maxHeartbeats 8000000 in
theorem topStock_yes (a : Option Addr) (l : List Mv) (cap : Nat) (w : World) (hA : JArg eP w a l) (ok : MvOk l) :
    Calls Try.prog 8 #[.slice a l.length cap] w fun e w' => e = .returned (.bool true) ∧ Below w.heap.size w w' := by
  have FN := Lib.hid (fun V (k : Kept w V) => fifo_arg a l cap V (hA.later k) ok)
  have HA := Lib.hid hA
  have RK := Lib.hid (fun j (h : j < l.length) => rdK ok h)
  have l40 := ok.len
  have FF := Lib.hid (ffS_ok ok)
  have FE := Lib.hid (show FfOk (ffS l) l from by
    have := ffS_ok ok l.length (Nat.le_refl _)
    rwa [List.take_length] at this)
  have CL := Lib.hid (MvOk.csm ok.mv)
  clear hA ok
  go_enter Try.func8, Try.ntmps8
  go_wp2_with fail
  refine (tbegun_any _).mono ?_
  rintro e w1 ⟨rfl, hK1⟩
  have K1 := Lib.hid hK1
  clear hK1
  go_wp2_with fail
  refine (FN.out w1 K1.out).mono ?_
  rintro e w2 ⟨ax, cx, al, cl, rfl, hX, hL, _, _, _, hK2⟩
  have HX := Lib.hid hX
  have HL := Lib.hid hL
  have K2 := Lib.hid (K1.out.trans hK2)
  clear hK2 hX hL
  go_wp2_with fail
  refine (tplain_any _).mono ?_
  rintro e w3 ⟨q, rfl, hM, hK3⟩
  have V7 := Lib.hid (uv_new (w := w3) rfl q topB)
  have kX := Lib.hid ((Kept.refl w3).alloc (bkO q topB))
  have HX3 := Lib.hid (HX.out.later hK3)
  have HL3 := Lib.hid (HL.out.later hK3)
  have K3 := Lib.hid (K2.out.trans hK3)
  have HM := Lib.hid hM
  have TP0 := Lib.hid (show Tp topB (fun n => n < 0) 0 from Tp.new.mono (fun j h => h.elim) (Nat.le_refl 0))
  clear hM hK3 HX HL K2 K1
  have LN := Lib.hid (fun j (h : j ≤ l.length) => (FF.out j h).l1)
  go_wp2
  go_loopw [5, 7, 39] (fun s5 s7 i wr => ∃ (j : Nat) (qb : BkA) (b : Bk), j ≤ l.length ∧ i = .int .i64 j ∧ s5 = .int .i64 0 ∧ s7 = .int .i64 ((ffS (l.take j)).1.length : Nat) ∧ VBk wr w3.heap.size qb b ∧ BkU w3 wr w3.heap.size qb b ∧ Hid (Tp b (fun n => n < j) j) ∧ Hid (StSt b (csm (l.take j) - sumI (ffS (l.take j)).1) (sumI (ffS (l.take j)).1)) ∧ Kept w3 wr) (fun _ _ i _ => l.length - (intOf i).toNat)
  case atStart => exact ⟨0, q, topB, Nat.zero_le _, rfl, rfl, rfl, V7.out, .inl HM.out, TP0, Lib.hid (by simpa [csm, sumI, ffS] using StSt.new), kX.out⟩
  case round =>
    obtain ⟨j, qb, b, hj, rfl, rfl, rfl, hV, hBk, hT, hS, hK⟩ := hrel
    clear V7 kX HM TP0
    by_cases hlt : j < l.length
    · obtain ⟨p, off, rfl, hR⟩ := (HA.out.later (K3.out.trans hK)).at hlt
      have c0 := hR.c0 j hlt
      have c1 := hR.c1 j hlt
      have plt := hR.lt
      obtain ⟨mv, recv, send⟩ := RK.out j hlt
      have ln := LN.out j hj
      rw [List.length_take, Nat.min_eq_left hj] at ln
      have HXr := HX3.out.later hK
      clear hR
      generalize l[j] = x at *
      obtain ⟨m1, m2, m3, m4, m5, m6⟩ := ckM_ok mv
      have RECV := Lib.hid recv
      have SEND := Lib.hid send
      clear recv send mv
      generalize hk : (ffS (l.take j)).1 = so at *
      have HSO := Lib.hid hk
      clear hk
      have g0 : (0 : Int) ≤ (j : Int) := by omega
      have g1 : (j : Int) < (l.length : Int) := by omega
      have wl : w3.heap.size < wr.heap.size := hV.box.lt
      have HVB := Lib.hid hV
      have HBK := Lib.hid hBk
      have HK := Lib.hid hK
      have HXR := Lib.hid HXr
      clear hV hBk hK HXr
      have HMX := Lib.hid (JBx.new (w := wr) rfl x 40)
      have kA := (Kept.refl wr).alloc (.cells #[.int .i64 x.1, .int .i64 x.2] 40)
      go_wp2_with fail
      refine (moved_big j j x.2 c15 c10 _ (by omega) (by omega) (by omega)).mono ?_
      rintro e w7 ⟨p7, hp7, rfl, hO7, hK7⟩
      have kE := (Kept.refl w7).alloc (.cells #[.string (kyS j), .int .i64 (j : Int), .slice (some ⟨p7, 0, none⟩) 2 2] 56)
      have HX7 := Lib.hid (WBx.new w7 (kyS j) (j : Int) (.slice (some ⟨p7, 0, none⟩) 2 2) 56 _ rfl)
      have HO7 := Lib.hid (hO7.later kE)
      have HW7 := Lib.hid ((kA.trans hK7).trans kE)
      obtain ⟨y0, y1, y2⟩ := HMX.out.later (hK7.trans kE)
      have wx : wr.heap.size + 1 ≤ w7.heap.size := by have := hK7.size; simpa using this
      clear hO7 hK7 hp7 kA kE c0 c1 plt
      go_upto_region 12 with fail
      generalize w7.alloc (.cells #[.string (kyS j), .int .i64 (j : Int), .slice (some ⟨p7, 0, none⟩) 2 2] 56) = W8 at *
      generalize w7.heap.size = bx at *
      by_cases pos : 0 < x.1
      · obtain ⟨e1, e2⟩ := RECV.out pos
        have E1 := Lib.hid e1
        have E2 := Lib.hid e2
        have neg : ¬ x.1 < 0 := by omega
        clear e1 e2 SEND RECV m6
        have HWF := Lib.hid HW7.out
        have HKF := Lib.hid (HK.out.trans HW7.out)
        have HBF := Lib.hid (HBK.out.later HW7.out)
        have HXF := Lib.hid HX7.out
        have HOF := Lib.hid HO7.out
        clear HW7 HX7 HO7
        obtain ⟨⟨z0, z1, z2, z3⟩, f0, f1, f2⟩ := HXF.out
        have qc : W8.cell? ⟨p7, 1, none⟩ = some (.int .i64 x.2) := by have := HOF.out.row.c1 0 (by simp [mvL]); simpa [mvL] using this
        have ql := HOF.out.row.lt
        by_cases cz : x.2 = 0
        · have HV8 := Lib.hid (HVB.out.later HWF.out)
          have T2 := Lib.hid (show Tp b (fun n => n < j + 1) (j + 1) from hT.out.mono (fun n hn => by omega) (by omega))
          have S2 := Lib.hid (show StSt b (csm (l.take (j + 1)) - sumI (ffS (l.take (j + 1))).1) (sumI (ffS (l.take (j + 1))).1) by rw [E1.out, E2.out, cz, Int.add_zero]; exact hS.out)
          rw [cz] at qc
          go_wp2
          go_roundw
          case rel => exact ⟨j + 1, qb, b, by omega, by go_num, rfl, by rw [E1.out], HV8.out, HBF.out, T2, S2, HKF.out⟩
          case measure => simp [intOf]; omega
        · have czb : (x.2 == 0) = false := by simpa using cz
          obtain ⟨ok, tp, st⟩ := hS.out.recv hT.out (by omega) cz m4 m5
          have OK := Lib.hid ok
          have TP := Lib.hid tp
          have ST := Lib.hid st
          have OKL := Lib.hid (mvL_ok (tc := c15) (fr := c10) (by decide +kernel) (by decide +kernel) (by decide) (by decide +kernel) (by decide +kernel) cz (by omega) m5)
          clear ok tp st
          have PO := Lib.hid (ky_post (k := j) (n := 2) (d := (j : Int)) (c := 2) (HBF.out.m HKF.out) (by omega) rfl (by decide) HOF.out OKL.out.2.2.2.2.2 (Nat.le_refl 2) (by unfold maxLen; decide) OK.out)
          have HVF := Lib.hid (HVB.out.later HWF.out)
          clear HVB HBK HK HXR
          obtain ⟨b0, b1, b2, b3⟩ := id HVF.out.box
          obtain ⟨z0, z1, z2, z3⟩ := HXF.out.box
          go_wp2_with fail
          refine PO.out.mono ?_
          rintro e w10 ⟨q3, rfl, hF, hK10⟩
          have hV10 := HVF.out.later hK10
          have hW10 := HWF.out.trans hK10
          have hFl := HWF.out.size
          obtain ⟨b', hb'⟩ : ∃ b', poV b ⟨kyS j, (j : Int), mvL c15 c10 x.2⟩ = b' := ⟨_, rfl⟩
          rw [hb'] at hF TP ST ⊢
          have hB := hF.set3 (r := w3.heap.size) (by omega) (.slice q3.aa b'.acs.length q3.ca) (.slice q3.ae b'.ens.length q3.ce) (.int .i64 b'.shut)
          have hKK := (HKF.out.trans hK10).set3 (p := w3.heap.size) (Nat.le_refl _) (.slice q3.aa b'.acs.length q3.ca) (.slice q3.ae b'.ens.length q3.ce) (.int .i64 b'.shut)
          have hVV := uv_put (q' := q3) (b' := b') hV10
          have BB := Lib.hid (show BkU w3 _ w3.heap.size q3 b' from .inr ⟨_, by omega, hB⟩)
          have VV := Lib.hid hVV
          have KK := Lib.hid hKK
          clear hB hKK hVV hF hb' hW10 hFl z0 z1 z2 z3 b0 b1 b2 b3 PO HXF HOF HWF HVF HKF HBF hT hS OK
          obtain ⟨⟨b0', b1, b2, b3⟩, f0, f1, f2⟩ := id hV10
          clear hV10
          go_wp2
          go_roundw
          case rel => exact ⟨j + 1, q3, b', by omega, by go_num, rfl, by rw [E1.out], VV.out, BB.out, TP, Lib.hid (by rw [E1.out, E2.out, show csm (l.take j) + x.2 - sumI so = csm (l.take j) - sumI so + x.2 by omega]; exact ST.out), KK.out⟩
          case measure => simp [intOf]; omega
      · obtain ⟨o, e1, e2, o0, o1, h2, e3⟩ := SEND.out (by omega)
        have neg : x.1 < 0 := by omega
        have E1 := Lib.hid e1
        have E2 := Lib.hid e2
        have SI := Lib.hid (show sumI (so ++ [o]) = sumI so + o by rw [sumI_app]; simp [sumI])
        have x20 := m6 neg
        obtain ⟨pk, po, rfl, hRw⟩ := HXR.out.at h2
        have pkw := hRw.lt
        have hRk := hRw.later HW7.out
        have k0 := hRk.i so.length h2
        rw [e3] at k0
        have klt := hRk.lt
        have HRW := Lib.hid hRw
        have E3 := Lib.hid e3
        have kne : ((so.length : Int) == ((ffS l).1.length : Int)) = false := by rw [beq_eq_false_iff_ne]; omega
        have k1 : (0 : Int) ≤ (so.length : Int) := by omega
        have k2 : (so.length : Int) < ((ffS l).1.length : Int) := by omega
        have u1 : IntKind.i64.wrap ((so.length : Int) + 1) = (so.length : Int) + 1 := IntWalk.i64_in _ (by omega)
        clear e1 e2 SEND RECV m6 HO7 e3 hRk hRw
        have HWF0 := Lib.hid HW7.out
        have HKF0 := Lib.hid (HK.out.trans HW7.out)
        have HXF0 := Lib.hid HX7.out
        clear HW7 HX7
        go_wp2_with fail
        refine (moved_big j j o c50 c15 _ (by omega) (by omega) (by omega)).mono ?_
        rintro e w9 ⟨p9, hp9, rfl, hO9, hK9⟩
        have hX9 := HXF0.out.later hK9
        have bl : bx < W8.heap.size := HXF0.out.box.lt
        have bp : bx ≠ p9 := by omega
        have bb : wr.heap.size ≤ bx := by omega
        have HXF := Lib.hid (hX9.putK (kyS j) (j : Int) (.slice (some ⟨p9, 0, none⟩) 2 2))
        have HOF := Lib.hid (((hO9.other (r := bx) (i := 0) (v := .string (kyS j)) bp).other (r := bx) (i := 1) (v := .int .i64 (j : Int)) bp).other (r := bx) (i := 2) (v := .slice (some ⟨p9, 0, none⟩) 2 2) bp)
        have HWF := Lib.hid ((HWF0.out.trans hK9).set3 (p := bx) bb (.string (kyS j)) (.int .i64 (j : Int)) (.slice (some ⟨p9, 0, none⟩) 2 2))
        have K93 := Lib.hid (HKF0.out.trans hK9)
        have B93 := Lib.hid (HBK.out.later (HWF0.out.trans hK9))
        have hbw : w3.heap.size < bx := by omega
        have HKF := Lib.hid (K93.out.set3 (p := bx) (by have := K93.out.size; omega) (.string (kyS j)) (.int .i64 (j : Int)) (.slice (some ⟨p9, 0, none⟩) 2 2))
        have HBF := Lib.hid (HBK.out.later HWF.out)
        obtain ⟨⟨z0, z1, z2, z3⟩, f0, f1, f2⟩ := hX9
        clear hO9 bp k0 klt HXF0 HWF0 HKF0 K93 B93 y0 y1 y2
        go_upto_region 16 with fail
        generalize ((w9.setCell ⟨bx, 0, none⟩ (.string (kyS j))).setCell ⟨bx, 1, none⟩ (.int .i64 (j : Int))).setCell ⟨bx, 2, none⟩ (.slice (some ⟨p9, 0, none⟩) 2 2) = Wf at *
        have hRf := HRW.out.later HWF.out
        have k0 := hRf.i so.length h2
        rw [E3.out] at k0
        have klt := hRf.lt
        clear z0 z1 z2 z3 f0 f1 f2 hRf
        obtain ⟨⟨z0, z1, z2, z3⟩, f0, f1, f2⟩ := HXF.out
        have qc : Wf.cell? ⟨p9, 1, none⟩ = some (.int .i64 o) := by have := HOF.out.row.c1 0 (by simp [mvL]); simpa [mvL] using this
        have ql := HOF.out.row.lt
        by_cases big : 1000000000000 < o
        · go_wp2
          go_ret
          exact ⟨rfl, K3.out.trans HKF.out⟩
        · have SL := Lib.hid (show ((so.length : Int) + 1) = (((ffS (l.take (j + 1))).1.length : Nat) : Int) by rw [E1.out]; simp)
          by_cases cz : o = 0
          · have HV8 := Lib.hid (HVB.out.later HWF.out)
            have T2 := Lib.hid (show Tp b (fun n => n < j + 1) (j + 1) from hT.out.mono (fun n hn => by omega) (by omega))
            have S2 := Lib.hid (show StSt b (csm (l.take (j + 1)) - sumI (ffS (l.take (j + 1))).1) (sumI (ffS (l.take (j + 1))).1) by rw [E1.out, E2.out, SI.out, cz, Int.add_zero]; exact hS.out)
            rw [cz] at qc
            go_wp2
            go_roundw
            case rel => exact ⟨j + 1, qb, b, by omega, by go_num, rfl, by rw [SL.out], HV8.out, HBF.out, T2, S2, HKF.out⟩
            case measure => simp [intOf]; omega
          · have czb : (o == 0) = false := by simpa using cz
            obtain ⟨okk, tp, st⟩ := hS.out.send hT.out (by omega) cz o0 (by omega)
            have OK := Lib.hid okk
            have TP := Lib.hid tp
            have ST := Lib.hid st
            have OKL := Lib.hid (mvL_ok (tc := c50) (fr := c15) (by decide +kernel) (by decide +kernel) (by decide) (by decide +kernel) (by decide +kernel) cz (by omega) (by omega))
            clear okk tp st
            have PO := Lib.hid (ky_post (k := j) (n := 2) (d := (j : Int)) (c := 2) (HBF.out.m HKF.out) (by omega) rfl (by decide) HOF.out OKL.out.2.2.2.2.2 (Nat.le_refl 2) (by unfold maxLen; decide) OK.out)
            have HVF := Lib.hid (HVB.out.later HWF.out)
            clear HVB HBK HK HXR
            obtain ⟨b0, b1, b2, b3⟩ := id HVF.out.box
            obtain ⟨z0, z1, z2, z3⟩ := HXF.out.box
            go_wp2_with fail
            refine PO.out.mono ?_
            rintro e w10 ⟨q3, rfl, hF, hK10⟩
            have hV10 := HVF.out.later hK10
            have hW10 := HWF.out.trans hK10
            have hFl := HWF.out.size
            obtain ⟨b', hb'⟩ : ∃ b', poV b ⟨kyS j, (j : Int), mvL c50 c15 o⟩ = b' := ⟨_, rfl⟩
            rw [hb'] at hF TP ST ⊢
            have hB := hF.set3 (r := w3.heap.size) (by omega) (.slice q3.aa b'.acs.length q3.ca) (.slice q3.ae b'.ens.length q3.ce) (.int .i64 b'.shut)
            have hKK := (HKF.out.trans hK10).set3 (p := w3.heap.size) (Nat.le_refl _) (.slice q3.aa b'.acs.length q3.ca) (.slice q3.ae b'.ens.length q3.ce) (.int .i64 b'.shut)
            have hVV := uv_put (q' := q3) (b' := b') hV10
            have BB := Lib.hid (show BkU w3 _ w3.heap.size q3 b' from .inr ⟨_, by omega, hB⟩)
            have VV := Lib.hid hVV
            have KK := Lib.hid hKK
            clear hB hKK hVV hF hb' hW10 hFl z0 z1 z2 z3 b0 b1 b2 b3 PO HXF HOF HWF HVF HKF HBF hT hS OK
            obtain ⟨⟨b0', b1, b2, b3⟩, f0, f1, f2⟩ := id hV10
            clear hV10
            go_wp2
            go_roundw
            case rel => exact ⟨j + 1, q3, b', by omega, by go_num, rfl, by rw [SL.out], VV.out, BB.out, TP, Lib.hid (by rw [E1.out, E2.out, SI.out, show csm (l.take j) - (sumI so + o) = csm (l.take j) - sumI so - o by omega]; exact ST.out), KK.out⟩
            case measure => simp [intOf]; omega
    · obtain rfl : j = l.length := by omega
      clear hlt
      rw [List.take_length] at hS ⊢
      have fe := FE.out
      have e0 : csm l - sumI (ffS l).1 = csm (ffS l).2 := by have := fe.cs; omega
      rw [e0] at hS
      have ba1 := hT.out.ba (c := c15) (d := 99) (by decide +kernel) (by omega) (by omega)
      have ba2 := hT.out.ba (c := c50) (d := 99) (by decide +kernel) (by omega) (by omega)
      have BA1 := Lib.hid (fun V (h : BkM V qb b) => bal_yes qb b c15 99 V h ba1)
      have BA2 := Lib.hid (fun V (h : BkM V qb b) => bal_yes qb b c50 99 V h ba2)
      rw [hS.out.inv] at BA1
      rw [hS.out.gone] at BA2
      have LO := Lib.hid fe.lots
      have l2 := fe.l2
      have so1 := fe.pos
      have cs := fe.cs
      have cl := CL.out
      have sp := sumI_pos so1
      have cp := fe.lots.cnt0.2.1
      have l1 := fe.l1
      have TS := Lib.hid (fun V (h : JArg eI V ax (ffS l).1) => tsumI_any ax (ffS l).1 cx V (by omega) so1 (by omega) h)
      have HVB := Lib.hid hV
      have HBM := Lib.hid (hBk.m hK)
      have HK := Lib.hid (K3.out.trans hK)
      have HXr := Lib.hid (HX3.out.later hK)
      have HLr := Lib.hid (HL3.out.later hK)
      clear hV hBk hK hT hS ba1 ba2 fe so1 cs cl sp e0 FE l1
      generalize (ffS l).2 = lo at *
      go_wp2
      go_loopw [11, 87] (fun s i wq => ∃ k : Nat, k ≤ lo.length ∧ i = .int .i64 k ∧ s = .int .i64 (csm (lo.take k)) ∧ Kept wr wq) (fun _ i _ => lo.length - (intOf i).toNat)
      case atStart => exact ⟨0, Nat.zero_le _, rfl, rfl, Kept.refl _⟩
      case round =>
        obtain ⟨k, hk, rfl, rfl, hK⟩ := hrel
        by_cases hlt : k < lo.length
        · obtain ⟨q2, o2, rfl, hR⟩ := (HLr.out.later hK).at hlt
          have c0 := hR.c0 k hlt
          have c1 := hR.c1 k hlt
          have plt := hR.lt
          have S1 := Lib.hid (show csm (lo.take (k + 1)) = csm (lo.take k) + (lo[k]).2 by rw [take_snocP lo k hlt, csm_app, csm, csm]; omega)
          have b1 := (lots_take LO.out (k + 1)).cnt0
          rw [S1.out, List.length_take] at b1
          clear hR
          generalize lo[k] = x at *
          generalize csm (lo.take k) = c at *
          have u1 : IntKind.i64.wrap (c + x.2) = c + x.2 := IntWalk.i64_in _ (by omega)
          have hK2 := Lib.hid (hK.alloc (.cells #[.int .i64 x.1, .int .i64 x.2] 29))
          clear hK b1
          go_wp2
          go_roundw
          case rel => exact ⟨k + 1, by omega, by go_num, by rw [S1.out], hK2.out⟩
          case measure => simp [intOf]; omega
        · obtain rfl : k = lo.length := by omega
          clear hlt
          rw [List.take_length] at *
          obtain ⟨⟨b0, b1, b2, b3⟩, _, _, _⟩ := HVB.out.later hK
          have HB1 := Lib.hid (BA1.out _ (HBM.out.later hK))
          have KQ := Lib.hid hK
          clear hK
          go_wp2_with fail
          refine HB1.out.mono ?_
          rintro e wa ⟨rfl, hKa⟩
          have K2' := Lib.hid (KQ.out.trans hKa)
          clear b0 b1 b2 b3 hKa
          obtain ⟨⟨b0, b1, b2, b3⟩, _, _, _⟩ := HVB.out.later K2'.out
          have HB2 := Lib.hid (BA2.out _ (HBM.out.later K2'.out))
          go_wp2_with fail
          refine HB2.out.mono ?_
          rintro e wb ⟨rfl, hKb⟩
          have K4 := Lib.hid (K2'.out.trans hKb)
          clear b0 b1 b2 b3 hKb
          go_wp2_with fail
          refine (TS.out _ (HXr.out.later K4.out)).mono ?_
          rintro e wc ⟨rfl, rfl⟩
          go_wp2
          go_ret
          exact ⟨by simp, HK.out.trans K4.out⟩
/-- TopStock, whatever is handed in. -/
theorem topStock_walk (a : Option Addr) (l : List Mv) (cap : Nat) (w : World) (hA : JArg eP w a l) (hc : l.length ≤ cap) (hm : cap ≤ maxLen) (h0 : a = none → cap = 0) :
    Calls Try.prog 8 #[.slice a l.length cap] w fun e w' => e = .returned (.bool true) ∧ Below w.heap.size w w' := by
  by_cases e : skE l = 0
  · exact topStock_yes a l cap w hA (skE_ok e)
  · exact topStock_no a l cap w hA (by omega) e
end Go.Proofs.Ytiilljdeplihoaa
