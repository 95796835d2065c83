/-
  The walk of talkeep.UndoUndo: it returns true at every input. No condition but those that each theorem names.
-/
import Derived.Test.YtdabangdjgkphaaXWalkF
namespace Go.Proofs.Ytdabangdjgkphaa
open Go.RowKit
set_option linter.unusedVariables false

/-- A variable's box and the book in it, whatever lies where. -/
theorem Put.any {W w w' : World} {py : Nat} {q q' : BkA} {x y : Bk} {er : Int} (h : VBk w py q x) (k : Kept w w') (hW : Kept W w) (hp : W.heap.size ≤ py) (hm : BkM w' q' y) (hF : er = 0 → BkF w' w.heap.size q' y) (hN : er ≠ 0 → q' = noA ∧ y = noB) :
    Put W (((w'.setCell ⟨py, 0, none⟩ (.slice q'.aa y.acs.length q'.ca)).setCell ⟨py, 1, none⟩ (.slice q'.ae y.ens.length q'.ce)).setCell ⟨py, 2, none⟩ (.int .i64 y.shut)) py q' y := by
  by_cases e : er = 0
  · exact Put.of h k hW hp (hF e) (Nat.le_refl _)
  · obtain ⟨rfl, rfl⟩ := hN e
    exact ⟨xb_put (h.later k), noB_m _, (hW.trans k).set3 (p := py) hp _ _ _⟩
theorem xb_other {w : World} {p r i : Nat} {q : BkA} {b : Bk} {v : Value} (h : VBk w p q b) (hr : r ≠ p) : VBk (w.setCell ⟨r, i, Option.none⟩ v) p q b :=
  ⟨h.box.other hr, by simpa using h.f0, by simpa using h.f1, by simpa using h.f2⟩
set_option maxRecDepth 100000 in
set_option maxHeartbeats 4000000 in
theorem undoUndo_walk (q : BkA) (b : Bk) (k : ByteArray) (d : Int) (c : ByteArray) (w : World) (hM : BkM w q b) (hk : k.size ≤ maxLen) (hc : c.size ≤ maxLen) :
    Calls Try.prog 6 #[bkV q b, .string k, .int .i64 d, .string c] w fun e w' => e = .returned (.bool true) ∧ Below w.heap.size w w' := by
  have hK2 := (Kept.refl w).alloc (bkO q b)
  have HB := Lib.hid (BBx.new w q b)
  have HM := Lib.hid (hM.later hK2)
  generalize hW : w.alloc (bkO q b) = W at *
  have HW := Lib.hid hW
  have HK := Lib.hid hK2
  clear hM hW hK2
  go_enter Try.func6, Try.ntmps6
  go_wp2_with fail
  rw [HW.out]
  refine (plain_any _).mono ?_
  rintro e w1 ⟨q1, rfl, hM1, hK1⟩
  go_wp2_with fail
  refine (sale_any _ _ _ _ (by decide) (by decide)).mono ?_
  rintro e w2 ⟨p, hp, rfl, hR, hK2⟩
  have PY := Lib.hid (post_yes q1 plainB saleE (some ⟨p, 0, none⟩) 2 w2 (hM1.later hK2) (sale_m hR) sale_ok)
  rw [sale_post] at PY
  go_wp2_with fail
  refine PY.out.mono ?_
  rintro e w3 ⟨q3, rfl, hF, hK3⟩
  have k4 := (Kept.refl w3).alloc (bkO q3 saleB)
  have HM4 := Lib.hid (hF.m.later k4)
  have hK4 := hK1.trans (hK2.trans (hK3.trans k4))
  have CY := Lib.hid (undo_yes q3 saleB ⟨#[97]⟩ ⟨#[98]⟩ 5 _ HM4.out (by unfold maxLen; decide) u_un5)
  rw [show poV saleB (unX saleB ⟨#[97]⟩ ⟨#[98]⟩ 5) = unB5 from rfl] at CY
  clear hM1 hR hF hK1 hK2 hK3 PY
  go_wp2_with fail
  refine CY.out.mono ?_
  rintro e w5 ⟨q5, rfl, hF5, hK5⟩
  have k6 := (Kept.refl w5).alloc (bkO q5 unB5)
  have HV := Lib.hid (xb_new (w := w5) rfl q5 unB5)
  have CZ := Lib.hid (undo_yes q5 unB5 ⟨#[98]⟩ ⟨#[99]⟩ 5 _ (hF5.m.later k6) (by unfold maxLen; decide) u_two)
  rw [show poV unB5 (unX unB5 ⟨#[98]⟩ ⟨#[99]⟩ 5) = unB6 from rfl] at CZ
  have HK6 := Lib.hid (hK4.trans (hK5.trans k6))
  have hp5 : W.heap.size ≤ w5.heap.size := (hK4.trans hK5).le
  clear hK4 hK5 k4 hF5 CY HM4
  go_wp2_with fail
  refine CZ.out.mono ?_
  rintro e w7 ⟨q7, rfl, hF7, hK7⟩
  have k8 := (Kept.refl w7).alloc (bkO q7 unB6)
  have HZ := Lib.hid (xb_new (w := w7) rfl q7 unB6)
  have HV8 := Lib.hid ((HV.out.later hK7).later k8)
  have BA := Lib.hid (bal_yes q7 unB6 ⟨#[49, 48]⟩ 5 _ (hF7.m.later k8) u_ba6)
  rw [u_bal6] at BA
  have HK8 := Lib.hid (HK6.out.trans (hK7.trans k8))
  have hp7 : W.heap.size ≤ w7.heap.size := (HK6.out.trans hK7).le
  have pyz : w5.heap.size < w7.heap.size := (HV.out.later hK7).box.lt
  clear CZ hF7 HV hK7 HK6
  go_wp2_with fail
  refine BA.out.mono ?_
  rintro e w9 ⟨rfl, hK9⟩
  have HV9 := Lib.hid (HV8.out.later hK9)
  have HZ9 := Lib.hid (HZ.out.later hK9)
  have HK9 := Lib.hid (HK8.out.trans hK9)
  clear BA HV8 HZ HK8 hK9 k8 k6
  generalize w5.heap.size = py at *
  generalize w7.heap.size = pz at *
  obtain ⟨b0, b1, b2, b3⟩ := HB.out.later HK9.out
  have U1 := Lib.hid (undo_any q b k ⟨#[117, 110, 100, 111, 45, 49]⟩ d w9 (HM.out.later HK9.out) (by unfold maxLen; decide))
  go_wp2_with fail
  refine U1.out.mono ?_
  rintro e w10 ⟨q10, rfl, hm10, hF10, hN10, hK10⟩
  have PU := Lib.hid (Put.any HV9.out hK10 HK9.out hp5 hm10 hF10 (fun h => ⟨hN10 h, unY_no h⟩))
  have ZU := Lib.hid (HZ9.out.later hK10)
  clear U1 hF10 hN10 hm10 b0 b1 b2 b3
  obtain ⟨⟨v0, v1, v2, v3⟩, f0, f1, f2⟩ := HV9.out.later hK10
  have TW := Lib.hid (fun h1 h2 g1 g2 => undo_twice (b := b) (k := k) (u := ⟨#[117, 110, 100, 111, 45, 49]⟩) (v := ⟨#[117, 110, 100, 111, 45, 50]⟩) (d := d) h1 h2 g1 g2 (by decide))
  have DD := Lib.hid (fun h => (unE_ok (b := b) (k := k) (y := ⟨#[117, 110, 100, 111, 45, 49]⟩) (d := d) h).2.1)
  generalize unE b k ⟨#[117, 110, 100, 111, 45, 49]⟩ d = e1 at *
  generalize unY b k ⟨#[117, 110, 100, 111, 45, 49]⟩ d = y at *
  clear hK10
  have hyz : py ≠ pz := by omega
  have ZV := Lib.hid (((xb_other ZU.out hyz (i := 0) (v := .slice q10.aa y.acs.length q10.ca)) |> fun h => xb_other h hyz (i := 1) (v := .slice q10.ae y.ens.length q10.ce)) |> fun h => xb_other h hyz (i := 2) (v := .int .i64 y.shut))
  go_wp2_with fail
  generalize ((w10.setCell ⟨py, 0, none⟩ (.slice q10.aa y.acs.length q10.ca)).setCell ⟨py, 1, none⟩ (.slice q10.ae y.ens.length q10.ce)).setCell ⟨py, 2, none⟩ (.int .i64 y.shut) = w11 at *
  clear v0 v1 v2 v3 f0 f1 f2
  refine (undo_any q10 y ⟨#[117, 110, 100, 111, 45, 49]⟩ ⟨#[117, 110, 100, 111, 45, 50]⟩ d w11 PU.out.my (by unfold maxLen; decide)).mono ?_
  rintro e w12 ⟨q12, rfl, hm12, hF12, hN12, hK12⟩
  have PZ := Lib.hid (Put.any ZV.out hK12 PU.out.kp hp7 hm12 hF12 (fun h => ⟨hN12 h, unY_no h⟩))
  obtain ⟨⟨v0, v1, v2, v3⟩, f0, f1, f2⟩ := ZV.out.later hK12
  generalize unE y ⟨#[117, 110, 100, 111, 45, 49]⟩ ⟨#[117, 110, 100, 111, 45, 50]⟩ d = e2 at *
  generalize unY y ⟨#[117, 110, 100, 111, 45, 49]⟩ ⟨#[117, 110, 100, 111, 45, 50]⟩ d = z at *
  obtain ⟨b0, b1, b2, b3⟩ := HB.out.later (PU.out.kp.trans hK12)
  have hbz : w.heap.size ≠ pz := by have := HB.out.lt; omega
  have K12 := Lib.hid (PU.out.kp.trans hK12)
  clear hm12 hF12 hN12 hK12
  go_wp2_with fail
  generalize ((w12.setCell ⟨pz, 0, none⟩ (.slice q12.aa z.acs.length q12.ca)).setCell ⟨pz, 1, none⟩ (.slice q12.ae z.ens.length q12.ce)).setCell ⟨pz, 2, none⟩ (.int .i64 z.shut) = w13 at *
  clear v0 v1 v2 v3 f0 f1 f2 b0 b1 b2 b3
  have BM := Lib.hid (fun V (k : Kept w13 V) => (HB.out.later (PZ.out.kp.trans k)))
  have ZM := Lib.hid (fun V (k : Kept w13 V) => (PZ.out.vy.later k).box)
  refine (get_any q b ⟨#[117, 110, 100, 111, 45, 49]⟩ w13 (HM.out.later PZ.out.kp)).mono ?_
  rintro e w14 ⟨x1, a1, cap1, rfl, hK14⟩
  have kA := hK14.alloc (enO x1 a1 cap1)
  have KA := Lib.hid kA
  obtain ⟨b0, b1, b2, b3⟩ := BM.out _ hK14
  generalize hw15 : w14.alloc (enO x1 a1 cap1) = w15 at KA
  have HW15 := Lib.hid hw15
  generalize gtE b ⟨#[117, 110, 100, 111, 45, 49]⟩ = e3 at *
  clear hw15 hK14 kA
  go_wp2_with fail
  rw [HW15.out]
  clear b0 b1 b2 b3
  refine (get_any q b ⟨#[117, 110, 100, 111, 45, 50]⟩ w15 (HM.out.later (PZ.out.kp.trans KA.out))).mono ?_
  rintro e w16 ⟨x2, a2, cap2, rfl, hK16⟩
  have K17 := Lib.hid ((KA.out.trans hK16).alloc (enO x2 a2 cap2))
  have K16 := Lib.hid (KA.out.trans hK16)
  generalize gtE b ⟨#[117, 110, 100, 111, 45, 50]⟩ = e4 at *
  clear hK16
  obtain ⟨b0, b1, b2, b3⟩ := BM.out _ K16.out
  have FIN := Lib.hid (PZ.out.kp.trans K17.out)
  by_cases t1 : e1 = 0
  · subst t1
    by_cases t2 : e2 = 0
    · subst t2
      by_cases t3 : e3 = 0
      · subst t3
        clear b0 b1 b2 b3
        go_wp2
        go_ret
        exact ⟨rfl, HK.out.trans FIN.out⟩
      · have t3' : (e3 == 0) = false := by simpa using t3
        by_cases t4 : e4 = 0
        · subst t4
          clear b0 b1 b2 b3
          go_wp2
          go_ret
          exact ⟨rfl, HK.out.trans FIN.out⟩
        · have t4' : (e4 == 0) = false := by simpa using t4
          obtain ⟨gd, gz, ea, el, eb⟩ := TW.out rfl rfl t3 t4
          have d1 : d ≤ 292193 := by
            have := DD.out rfl
            unfold hdE at this
            split at this
            · split at this
              · omega
              · omega
            · omega
          have GD := Lib.hid gd
          have GZ := Lib.hid gz
          have EA := Lib.hid ea
          have EB := Lib.hid (eb c 292193 d1)
          have el' : ((z.ens.length : Int) == (b.ens.length : Int) + 2) = true := by rw [el]; simp
          have n60 := gd.many
          have w1' : IntKind.i64.wrap ((b.ens.length : Int) + 2) = (b.ens.length : Int) + 2 := IntWalk.i64_in _ (by omega)
          clear gd gz ea el eb d1 t3 t4 TW DD
          go_wp2_with fail
          clear b0 b1 b2 b3
          generalize w16.alloc (.cells #[.string x2.key, .int .i64 x2.day, .slice a2 x2.lns.length cap2] 32) = w17 at *
          by_cases oo : hasB c b.acs = true
          · have BB := Lib.hid (bal_yes q b c 292193 w17 (HM.out.later FIN.out) (GD.out.ba oo (by decide)))
            have BZ := Lib.hid (fun V (h : BkM V q12 z) => bal_yes q12 z c 292193 V h (GZ.out.ba (by rw [EA.out]; exact oo) (by decide)))
            rw [EB.out] at BZ
            clear oo
            generalize balS c 292193 b.ens = n at *
            refine BB.out.mono ?_
            rintro e w18 ⟨rfl, hK18⟩
            have K18 := Lib.hid (K17.out.trans hK18)
            clear hK18
            obtain ⟨v0, v1, v2, v3⟩ := ZM.out _ K18.out
            go_wp2_with fail
            refine (BZ.out w18 (PZ.out.my.later K18.out)).mono ?_
            rintro e w19 ⟨rfl, hK19⟩
            have K19 := Lib.hid (K18.out.trans hK19)
            clear v0 v1 v2 v3 hK19
            obtain ⟨v0, v1, v2, v3⟩ := ZM.out _ K19.out
            obtain ⟨b0, b1, b2, b3⟩ := BM.out _ K19.out
            go_wp2
            go_ret
            exact ⟨rfl, HK.out.trans (PZ.out.kp.trans K19.out)⟩
          · have ba : baE b c 292193 = 4 := by unfold baE; rw [if_pos (bkE_iff.2 GD.out), if_neg oo]
            have za : baE z c 292193 = 4 := by unfold baE; rw [if_pos (bkE_iff.2 GZ.out), EA.out, if_neg oo]
            have BB := bal_no q b c 292193 w17 (HM.out.later FIN.out) (by rw [ba]; decide)
            rw [ba] at BB
            have BZ := Lib.hid (fun V (h : BkM V q12 z) => show Calls Try.prog 11 #[bkV q12 z, .string c, .int .i64 292193] V (BalPost V 0 4) from by
              have := bal_no q12 z c 292193 V h (by rw [za]; decide)
              rwa [za] at this)
            clear oo ba za
            refine BB.mono ?_
            rintro e w18 ⟨rfl, hK18⟩
            have K18 := Lib.hid (K17.out.trans hK18)
            clear hK18
            obtain ⟨v0, v1, v2, v3⟩ := ZM.out _ K18.out
            go_wp2_with fail
            refine (BZ.out w18 (PZ.out.my.later K18.out)).mono ?_
            rintro e w19 ⟨rfl, hK19⟩
            have K19 := Lib.hid (K18.out.trans hK19)
            clear v0 v1 v2 v3 hK19
            obtain ⟨v0, v1, v2, v3⟩ := ZM.out _ K19.out
            obtain ⟨b0, b1, b2, b3⟩ := BM.out _ K19.out
            go_wp2
            go_ret
            exact ⟨rfl, HK.out.trans (PZ.out.kp.trans K19.out)⟩
    · have t2' : (e2 != 0) = true := by simpa using t2
      clear b0 b1 b2 b3
      go_wp2
      go_ret
      exact ⟨rfl, HK.out.trans FIN.out⟩
  · have t1' : (e1 != 0) = true := by simpa using t1
    clear b0 b1 b2 b3
    go_wp2
    go_ret
    exact ⟨rfl, HK.out.trans FIN.out⟩
end Go.Proofs.Ytdabangdjgkphaa
