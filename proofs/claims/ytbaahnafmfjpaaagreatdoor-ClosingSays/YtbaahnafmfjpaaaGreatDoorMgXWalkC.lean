import Derived.Test.YtbaahnafmfjpaaaGreatDoorMgXMath
import Derived.Test.YtbaahnafmfjpaaaGreatDoorHWalkG
/-
  What package closing's Undo returns. No condition but those that each theorem names.
-/
namespace Go.Proofs.YtbaahnafmfjpaaaGreatDoor
open Go.RowKit
set_option linter.unusedVariables false

theorem negL_short {l : List Pr} (h : Shortish l) : Shortish (negL l) := fun x hx => by
  unfold negL at hx
  obtain ⟨y, hy, rfl⟩ := List.mem_map.1 hx
  exact h y hy
set_option maxRecDepth 100000 in
set_option maxHeartbeats 4000000 in
theorem undo_get (q : BkA) (b : Bk) (k y : ByteArray) (d : Int) (w : World) (hM : BkM w q b) (er : gtE b k ≠ 0) :
    Calls Tryz.prog 5 #[bkV q b, .string k, .string y, .int .i64 d] w (BkNo w (gtE b k)) := by
  have hB := (BBx.new w q b).later ((Kept.refl (w.alloc (bkO q b))).alloc noBk)
  have hR := VBk.noneAt w q b
  have hK2 := ((Kept.refl w).alloc (bkO q b)).alloc noBk
  have GT := Lib.hid (get_no q b k _ (hM.later hK2) er)
  generalize hW : (w.alloc (bkO q b)).alloc noBk = W at *
  have HW := Lib.hid hW
  have HK := Lib.hid hK2
  have HR := Lib.hid hR
  have h2 : (gtE b k != 0) = true := by simpa using er
  clear hM hW hK2 er hR
  generalize gtE b k = ek at *
  obtain ⟨b0, b1, b2, b3⟩ := hB
  go_enter Tryz.func5, Tryz.ntmps5
  go_wp2_with fail
  rw [HW.out]
  refine GT.out.mono ?_
  rintro e w1 ⟨rfl, hK1⟩
  have ka := hK1.alloc noEn
  obtain ⟨⟨r0, r1, r2, r3⟩, f0, f1, f2⟩ := HR.out.later ka
  have FK := Lib.hid ((HK.out.trans ka).set3 (p := w.heap.size + 1) (by omega) (.slice none 0 0) (.slice none 0 0) (.int .i64 0))
  go_wp2
  exact bodyPost_ret (v := .tuple #[.agg #[.slice none 0 0, .slice none 0 0, .int .i64 0], .int .i64 ek]) (by simp [results, Tryz.results5, go_sem, r1, r2, r3]) rfl ⟨rfl, FK.out⟩
/-- What a call of Get and a call of Turned leave. -/
theorem undo_pre (q : BkA) (b : Bk) (k : ByteArray) (w : World) (hM : BkM w q b) (gd : Good b) (i : Nat) (hi : kyI k b.ens = i) (hk : i < b.ens.length) :
    Calls Tryz.prog 14 #[bkV q b, .string k] w (EtYes w (atK k b.ens)) ∧ enE (atK k b.ens).key (atK k b.ens).day (atK k b.ens).lns = 0 ∧ (atK k b.ens).key.size ≤ maxLen ∧ (atK k b.ens).lns.length ≤ maxLen ∧ Shortish (atK k b.ens).lns := by
  subst hi
  have e : atK k b.ens = b.ens[kyI k b.ens] := atK_eq hk
  rw [e]
  obtain ⟨h1, h2, h3⟩ := hM.she _ (List.getElem_mem hk)
  exact ⟨get_yes q b k w hM gd _ rfl hk, (gd.each _ (List.getElem_mem hk)).1, h1, h2, h3⟩
set_option maxRecDepth 100000 in
set_option maxHeartbeats 4000000 in
theorem undo_head (q : BkA) (b : Bk) (k y : ByteArray) (d : Int) (w : World) (hM : BkM w q b) (hy : y.size ≤ maxLen) (ok : gtE b k = 0) (er : hdE y d ≠ 0) :
    Calls Tryz.prog 5 #[bkV q b, .string k, .string y, .int .i64 d] w (BkNo w (hdE y d)) := by
  have hB := (BBx.new w q b).later ((Kept.refl (w.alloc (bkO q b))).alloc noBk)
  have hR := VBk.noneAt w q b
  have hK2 := ((Kept.refl w).alloc (bkO q b)).alloc noBk
  obtain ⟨gd, hk⟩ := gtE_ok ok
  obtain ⟨gt, e0, es, el, eh⟩ := undo_pre q b k _ (hM.later hK2) gd _ rfl hk
  have GT := Lib.hid gt
  generalize hW : (w.alloc (bkO q b)).alloc noBk = W at *
  generalize atK k b.ens = x at *
  have TN := Lib.hid (fun V p (h : PArg V (some ⟨p, 0, none⟩) x.lns) => turned_head x.key x.day (some ⟨p, 0, none⟩) x.lns x.lns.length y d V es hy el h eh (Nat.le_refl _) el e0 er)
  have HW := Lib.hid hW
  have HK := Lib.hid hK2
  have HR := Lib.hid hR
  have h2 : (hdE y d != 0) = true := by simpa using er
  clear hM hW hK2 er hR e0 eh gd ok hk gt es el
  generalize hdE y d = ek at *
  obtain ⟨b0, b1, b2, b3⟩ := hB
  go_enter Tryz.func5, Tryz.ntmps5
  go_wp2_with fail
  rw [HW.out]
  refine GT.out.mono ?_
  rintro e w1 ⟨p, hp, rfl, hO, hK1⟩
  have ka := (Kept.refl w1).alloc (enO x (some ⟨p, 0, none⟩) x.lns.length)
  have TC := Lib.hid (TN.out _ p (hO.later ka).parg)
  go_wp2_with fail
  refine TC.out.mono ?_
  rintro e w2 ⟨rfl, hK3⟩
  have kk := ((hK1.trans ka).trans hK3).alloc noEn
  clear hO ka hK1 hK3
  obtain ⟨⟨r0, r1, r2, r3⟩, f0, f1, f2⟩ := HR.out.later kk
  have FK := Lib.hid ((HK.out.trans kk).set3 (p := w.heap.size + 1) (by omega) (.slice none 0 0) (.slice none 0 0) (.int .i64 0))
  go_wp2
  exact bodyPost_ret (v := .tuple #[.agg #[.slice none 0 0, .slice none 0 0, .int .i64 0], .int .i64 ek]) (by simp [results, Tryz.results5, go_sem, r1, r2, r3]) rfl ⟨rfl, FK.out⟩
set_option maxRecDepth 100000 in
set_option maxHeartbeats 4000000 in
theorem undo_post (q : BkA) (b : Bk) (k y : ByteArray) (d : Int) (w : World) (hM : BkM w q b) (hy : y.size ≤ maxLen) (ok : gtE b k = 0) (oh : hdE y d = 0) :
    Calls Tryz.prog 5 #[bkV q b, .string k, .string y, .int .i64 d] w (fun e w' => if poE b (unX b k y d) = 0 then BkYes w (poV b (unX b k y d)) e w' else BkNo w (poE b (unX b k y d)) e w') := by
  have hB := (BBx.new w q b).later ((Kept.refl (w.alloc (bkO q b))).alloc noBk)
  have hR := VBk.noneAt w q b
  have hK2 := ((Kept.refl w).alloc (bkO q b)).alloc noBk
  obtain ⟨gd, hk⟩ := gtE_ok ok
  obtain ⟨gt, e0, es, el, eh⟩ := undo_pre q b k _ (hM.later hK2) gd _ rfl hk
  have GT := Lib.hid gt
  have hX : unX b k y d = ⟨y, d, negL (atK k b.ens).lns⟩ := rfl
  generalize hW : (w.alloc (bkO q b)).alloc noBk = W at *
  generalize atK k b.ens = x at *
  have TN := Lib.hid (fun V p (h : PArg V (some ⟨p, 0, none⟩) x.lns) => turned_yes x.key x.day (some ⟨p, 0, none⟩) x.lns x.lns.length y d V es hy el h eh (Nat.le_refl _) el e0 oh)
  have nl := negL_len x.lns
  have EM := Lib.hid (fun V p (h : POwn V p (negL x.lns)) => show EtM V (unX b k y d) (some ⟨p, 0, none⟩) (negL x.lns).length from by
    rw [hX]; exact ⟨hy, by rw [nl]; exact el, h.parg, negL_short eh, Nat.le_refl _, by rw [nl]; exact el⟩)
  have LN := Lib.hid hX
  have HW := Lib.hid hW
  have HK := Lib.hid hK2
  have HR := Lib.hid hR
  have HB := Lib.hid hB
  have HM := Lib.hid (hM.later hK2)
  have PY := Lib.hid (fun V a cap (h : BkM V q b) (hx : EtM V (unX b k y d) a cap) (ok : poE b (unX b k y d) = 0) => post_yes q b (unX b k y d) a cap V h hx ok)
  have PN := Lib.hid (fun V a cap (h : BkM V q b) (hx : EtM V (unX b k y d) a cap) (ok : poE b (unX b k y d) ≠ 0) => post_no q b (unX b k y d) a cap V h hx ok)
  have e1 : (unX b k y d).key = y := rfl
  have e2 : (unX b k y d).day = d := rfl
  have e3 : (unX b k y d).lns = negL x.lns := by rw [hX]
  clear hM hW hK2 hR e0 eh gd ok hk gt es el hX
  generalize unX b k y d = z at *
  subst e1 e2
  rw [← e3] at TN EM nl
  have NL := Lib.hid nl
  clear e3 LN nl oh hy
  by_cases po : poE b z = 0
  · have PYC := Lib.hid (fun V a cap (h : BkM V q b) (hx : EtM V z a cap) => PY.out V a cap h hx po)
    simp only [po, if_true]
    generalize poV b z = bz at *
    clear PY PN po
    obtain ⟨b0, b1, b2, b3⟩ := hB
    go_enter Tryz.func5, Tryz.ntmps5
    go_wp2_with fail
    rw [HW.out]
    refine GT.out.mono ?_
    rintro e w1 ⟨p, hp, rfl, hO, hK1⟩
    have ka := (Kept.refl w1).alloc (enO x (some ⟨p, 0, none⟩) x.lns.length)
    have TC := Lib.hid (TN.out _ p (hO.later ka).parg)
    go_wp2_with fail
    refine TC.out.mono ?_
    rintro e w2 ⟨p2, hp2, rfl, hO2, hK3⟩
    have kz := (Kept.refl w2).alloc (enO z (some ⟨p2, 0, none⟩) z.lns.length)
    have kk := ((hK1.trans ka).trans hK3).trans kz
    have PC := Lib.hid (PYC.out _ _ _ (HM.out.later kk) (EM.out _ p2 (hO2.later kz)))
    have HS := Lib.hid (HR.out.later kk).box.lt
    clear hO ka hO2
    obtain ⟨d0, d1, d2, d3⟩ := HB.out.later ((hK1.trans ((Kept.refl w1).alloc (enO x (some ⟨p, 0, none⟩) x.lns.length))).trans hK3)
    clear b0 b1 b2 b3
    go_wp2_with fail
    refine PC.out.mono ?_
    rintro e w5 ⟨q5, rfl, hF, hK5⟩
    have kf := kk.trans hK5
    obtain ⟨⟨r0, r1, r2, r3⟩, f0, f1, f2⟩ := HR.out.later kf
    have FK := Lib.hid ((HK.out.trans kf).set3 (p := w.heap.size + 1) (by omega) (.slice q5.aa bz.acs.length q5.ca) (.slice q5.ae bz.ens.length q5.ce) (.int .i64 bz.shut))
    have FF := Lib.hid ((hF.set3 (r := w.heap.size + 1) HS.out (.slice q5.aa bz.acs.length q5.ca) (.slice q5.ae bz.ens.length q5.ce) (.int .i64 bz.shut)).mono (A := w.heap.size) (by have := HS.out; omega))
    clear d0 d1 d2 d3 hF hK5 kk kz hK1 hK3 kf
    go_wp2
    exact bodyPost_ret (v := .tuple #[bkV q5 bz, .int .i64 0]) (by simp [results, Tryz.results5, go_sem, r1, r2, r3]) rfl ⟨q5, rfl, FF.out, FK.out⟩
  · have PNC := Lib.hid (fun V a cap (h : BkM V q b) (hx : EtM V z a cap) => PN.out V a cap h hx po)
    simp only [po, if_false]
    have pn : (poE b z != 0) = true := by simpa using po
    generalize poE b z = ek at *
    clear PY PN po
    obtain ⟨b0, b1, b2, b3⟩ := hB
    go_enter Tryz.func5, Tryz.ntmps5
    go_wp2_with fail
    rw [HW.out]
    refine GT.out.mono ?_
    rintro e w1 ⟨p, hp, rfl, hO, hK1⟩
    have ka := (Kept.refl w1).alloc (enO x (some ⟨p, 0, none⟩) x.lns.length)
    have TC := Lib.hid (TN.out _ p (hO.later ka).parg)
    go_wp2_with fail
    refine TC.out.mono ?_
    rintro e w2 ⟨p2, hp2, rfl, hO2, hK3⟩
    have kz := (Kept.refl w2).alloc (enO z (some ⟨p2, 0, none⟩) z.lns.length)
    have kk := ((hK1.trans ka).trans hK3).trans kz
    have PC := Lib.hid (PNC.out _ _ _ (HM.out.later kk) (EM.out _ p2 (hO2.later kz)))
    clear hO ka hO2
    obtain ⟨d0, d1, d2, d3⟩ := HB.out.later ((hK1.trans ((Kept.refl w1).alloc (enO x (some ⟨p, 0, none⟩) x.lns.length))).trans hK3)
    clear b0 b1 b2 b3
    go_wp2_with fail
    refine PC.out.mono ?_
    rintro e w5 ⟨rfl, hK5⟩
    have kf := kk.trans hK5
    obtain ⟨⟨r0, r1, r2, r3⟩, f0, f1, f2⟩ := HR.out.later kf
    have FK := Lib.hid ((HK.out.trans kf).set3 (p := w.heap.size + 1) (by omega) (.slice none 0 0) (.slice none 0 0) (.int .i64 0))
    clear d0 d1 d2 d3 hK5 kk kz hK1 hK3 kf
    go_wp2
    exact bodyPost_ret (v := .tuple #[.agg #[.slice none 0 0, .slice none 0 0, .int .i64 0], .int .i64 ek]) (by simp [results, Tryz.results5, go_sem, r1, r2, r3]) rfl ⟨rfl, FK.out⟩
/-- What Undo returns. -/
theorem undo_no (q : BkA) (b : Bk) (k y : ByteArray) (d : Int) (w : World) (hM : BkM w q b) (hy : y.size ≤ maxLen) (er : unE b k y d ≠ 0) :
    Calls Tryz.prog 5 #[bkV q b, .string k, .string y, .int .i64 d] w (BkNo w (unE b k y d)) := by
  unfold unE at er ⊢
  by_cases h1 : gtE b k = 0
  · rw [if_pos h1] at er ⊢
    by_cases h2 : hdE y d = 0
    · rw [if_pos h2] at er ⊢
      refine (undo_post q b k y d w hM hy h1 h2).mono fun e w' h => ?_
      rwa [if_neg er] at h
    · rw [if_neg h2]; exact undo_head q b k y d w hM hy h1 h2
  · rw [if_neg h1]; exact undo_get q b k y d w hM h1
theorem undo_yes (q : BkA) (b : Bk) (k y : ByteArray) (d : Int) (w : World) (hM : BkM w q b) (hy : y.size ≤ maxLen) (ok : unE b k y d = 0) :
    Calls Tryz.prog 5 #[bkV q b, .string k, .string y, .int .i64 d] w (BkYes w (poV b (unX b k y d))) := by
  obtain ⟨h1, h2, h3⟩ := unE_ok ok
  refine (undo_post q b k y d w hM hy h1 h2).mono fun e w' h => ?_
  rwa [if_pos h3] at h
end Go.Proofs.YtbaahnafmfjpaaaGreatDoor

/-
  What package closing's Close returns. No condition but those that each theorem names.
-/
namespace Go.Proofs.YtbaahnafmfjpaaaGreatDoor
open Go.RowKit
set_option linter.unusedVariables false

theorem clX_m {b : Bk} {k c : ByteArray} {d : Int} {V : World} {a : Option Addr} {cap : Nat} (hk : k.size ≤ maxLen) (hc : c.size ≤ maxLen) (hs : Shortish b.acs) (ha : b.acs.length ≤ 24) (h : PArg V a (clA (baF b d) c b.acs)) (h1 : (clA (baF b d) c b.acs).length ≤ cap) (h2 : cap ≤ maxLen) : EtM V (clX b k d c) a cap :=
  ⟨hk, (by have := clA_len (baF b d) c b.acs; show (clA (baF b d) c b.acs).length ≤ maxLen; unfold maxLen; omega), h, clA_short hs hc, h1, h2⟩
set_option maxRecDepth 100000 in
set_option maxHeartbeats 4000000 in
theorem close_pre (q : BkA) (b : Bk) (k : ByteArray) (d : Int) (c : ByteArray) (w : World) (hM : BkM w q b) (er : ccE b d c ≠ 0) :
    Calls Tryz.prog 4 #[bkV q b, .string k, .int .i64 d, .string c] w (BkNo w (ccE b d c)) := by
  have hB := (BBx.new w q b).later ((Kept.refl (w.alloc (bkO q b))).alloc noBk)
  have hR := VBk.noneAt w q b
  have hK2 := ((Kept.refl w).alloc (bkO q b)).alloc noBk
  have CK := Lib.hid (ccheck_any q b d c _ (hM.later hK2))
  generalize hW : (w.alloc (bkO q b)).alloc noBk = W at *
  have HW := Lib.hid hW
  have HK := Lib.hid hK2
  have HR := Lib.hid hR
  have h2 : (ccE b d c != 0) = true := by simpa using er
  clear hM hW hK2 er hR
  generalize ccE b d c = ek at *
  obtain ⟨b0, b1, b2, b3⟩ := hB
  go_enter Tryz.func4, Tryz.ntmps4
  go_wp2_with fail
  rw [HW.out]
  refine CK.out.mono ?_
  rintro e w1 ⟨rfl, ka⟩
  obtain ⟨⟨r0, r1, r2, r3⟩, f0, f1, f2⟩ := HR.out.later ka
  have FK := Lib.hid ((HK.out.trans ka).set3 (p := w.heap.size + 1) (by omega) (.slice none 0 0) (.slice none 0 0) (.int .i64 0))
  go_wp2
  exact bodyPost_ret (v := .tuple #[.agg #[.slice none 0 0, .slice none 0 0, .int .i64 0], .int .i64 ek]) (by simp [results, Tryz.results4, go_sem, r1, r2, r3]) rfl ⟨rfl, FK.out⟩
set_option maxRecDepth 100000 in
set_option maxHeartbeats 4000000 in
theorem close_none (q : BkA) (b : Bk) (k : ByteArray) (d : Int) (c : ByteArray) (w : World) (hM : BkM w q b) (ok : ccE b d c = 0) (nl : clL (baF b d) b.acs = []) :
    Calls Tryz.prog 4 #[bkV q b, .string k, .int .i64 d, .string c] w (BkNo w 4) := by
  have hB := (BBx.new w q b).later ((Kept.refl (w.alloc (bkO q b))).alloc noBk)
  have hR := VBk.noneAt w q b
  have hK2 := ((Kept.refl w).alloc (bkO q b)).alloc noBk
  have CK := Lib.hid (ccheck_any q b d c _ (hM.later hK2))
  obtain ⟨gd, dy, _, _⟩ := ccE_ok ok
  rw [ok] at CK
  have CL := Lib.hid (fun V (h : BkM V q b) => clines_any q b d c V h gd dy)
  rw [clA_nil nl] at CL
  generalize hW : (w.alloc (bkO q b)).alloc noBk = W at *
  have HW := Lib.hid hW
  have HK := Lib.hid hK2
  have HR := Lib.hid hR
  have HB := Lib.hid hB
  have HM := Lib.hid (hM.later hK2)
  clear hM hW hK2 ok hR gd dy nl
  obtain ⟨b0, b1, b2, b3⟩ := hB
  go_enter Tryz.func4, Tryz.ntmps4
  go_wp2_with fail
  rw [HW.out]
  refine CK.out.mono ?_
  rintro e w1 ⟨rfl, ka⟩
  clear b0 b1 b2 b3
  obtain ⟨b0, b1, b2, b3⟩ := HB.out.later ka
  go_wp2_with fail
  refine (CL.out w1 (HM.out.later ka)).mono ?_
  rintro e w2 ⟨a2, c2, rfl, hG, hK3⟩
  have kk := ka.trans hK3
  clear b0 b1 b2 b3
  obtain ⟨⟨r0, r1, r2, r3⟩, f0, f1, f2⟩ := HR.out.later kk
  have FK := Lib.hid ((HK.out.trans kk).set3 (p := w.heap.size + 1) (by omega) (.slice none 0 0) (.slice none 0 0) (.int .i64 0))
  clear hG ka hK3 kk
  go_wp2
  exact bodyPost_ret (v := .tuple #[.agg #[.slice none 0 0, .slice none 0 0, .int .i64 0], .int .i64 4]) (by simp [results, Tryz.results4, go_sem, r1, r2, r3]) rfl ⟨rfl, FK.out⟩
set_option maxRecDepth 100000 in
set_option maxHeartbeats 4000000 in
theorem close_bad (q : BkA) (b : Bk) (k : ByteArray) (d : Int) (c : ByteArray) (w : World) (hM : BkM w q b) (hk : k.size ≤ maxLen) (hc : c.size ≤ maxLen) (ok : ccE b d c = 0) (nl : clL (baF b d) b.acs ≠ []) (er : poE b (clX b k d c) ≠ 0) :
    Calls Tryz.prog 4 #[bkV q b, .string k, .int .i64 d, .string c] w (BkNo w (poE b (clX b k d c))) := by
  have hB := (BBx.new w q b).later ((Kept.refl (w.alloc (bkO q b))).alloc noBk)
  have hR := VBk.noneAt w q b
  have hK2 := ((Kept.refl w).alloc (bkO q b)).alloc noBk
  have CK := Lib.hid (ccheck_any q b d c _ (hM.later hK2))
  obtain ⟨gd, dy, _, _⟩ := ccE_ok ok
  rw [ok] at CK
  have CL := Lib.hid (fun V (h : BkM V q b) => clines_any q b d c V h gd dy)
  have EM := Lib.hid (fun V a (cap : Nat) (h : PArg V a (clA (baF b d) c b.acs)) (h1 : (clA (baF b d) c b.acs).length ≤ cap) (h2 : cap ≤ maxLen) => clX_m (b := b) (d := d) hk hc hM.sha gd.a24 h h1 h2)
  have n0 : (clA (baF b d) c b.acs).length ≠ 0 := fun h => clA_not nl (List.eq_nil_of_length_eq_zero h)
  have e1 : (clX b k d c).key = k := rfl
  have e2 : (clX b k d c).day = d := rfl
  have e3 : (clX b k d c).lns = clA (baF b d) c b.acs := rfl
  have PP := Lib.hid (fun V a cap (h : BkM V q b) (hx : EtM V (clX b k d c) a cap) => post_no q b (clX b k d c) a cap V h hx er)
  have pn : (poE b (clX b k d c) != 0) = true := by simpa using er
  clear er
  rw [← e3] at CL EM n0
  generalize hW : (w.alloc (bkO q b)).alloc noBk = W at *
  have HW := Lib.hid hW
  have HK := Lib.hid hK2
  have HR := Lib.hid hR
  have HB := Lib.hid hB
  have HM := Lib.hid (hM.later hK2)
  clear hM hW hK2 ok hR gd dy nl e3 hk hc
  generalize clX b k d c = z at *
  subst e1 e2
  have n1 : ((z.lns.length : Int) == 0) = false := by rw [beq_eq_false_iff_ne]; omega
  obtain ⟨b0, b1, b2, b3⟩ := hB
  go_enter Tryz.func4, Tryz.ntmps4
  go_wp2_with fail
  rw [HW.out]
  refine CK.out.mono ?_
  rintro e w1 ⟨rfl, ka⟩
  clear b0 b1 b2 b3
  obtain ⟨b0, b1, b2, b3⟩ := HB.out.later ka
  go_wp2_with fail
  refine (CL.out w1 (HM.out.later ka)).mono ?_
  rintro e w2 ⟨a2, c2, rfl, hG, hK3⟩
  have kk := ka.trans hK3
  clear b0 b1 b2 b3
  obtain ⟨b0, b1, b2, b3⟩ := HB.out.later kk
  have kz := (Kept.refl w2).alloc (enO z a2 c2)
  obtain ⟨a3, c3, hf, h1, h2⟩ := hG.form
  obtain ⟨rfl, rfl⟩ : a2 = a3 ∧ c2 = c3 := by simpa using hf
  have PC := Lib.hid (PP.out _ _ _ (HM.out.later kk) (EM.out _ a2 c2 hG.arg h1 h2))
  have HS := Lib.hid (HR.out.later kk).box.lt
  clear hG ka hK3 hf h1 h2
  go_wp2_with fail
  refine PC.out.mono ?_
  rintro e w5 ⟨rfl, hK5⟩
  have kf := (kk.trans hK5).alloc noBk
  clear b0 b1 b2 b3
  generalize poE b z = ek at *
  obtain ⟨⟨r0, r1, r2, r3⟩, f0, f1, f2⟩ := HR.out.later kf
  have FK := Lib.hid ((HK.out.trans kf).set3 (p := w.heap.size + 1) (by omega) (.slice none 0 0) (.slice none 0 0) (.int .i64 0))
  clear hK5 kk kz kf
  go_wp2
  exact bodyPost_ret (v := .tuple #[.agg #[.slice none 0 0, .slice none 0 0, .int .i64 0], .int .i64 ek]) (by simp [results, Tryz.results4, go_sem, r1, r2, r3]) rfl ⟨rfl, FK.out⟩
set_option maxRecDepth 100000 in
set_option maxHeartbeats 4000000 in
theorem close_shut (q : BkA) (b : Bk) (k : ByteArray) (d : Int) (c : ByteArray) (w : World) (hM : BkM w q b) (hk : k.size ≤ maxLen) (hc : c.size ≤ maxLen) (ok : ccE b d c = 0) (nl : clL (baF b d) b.acs ≠ []) (po : poE b (clX b k d c) = 0) (er : shE (poV b (clX b k d c)) d ≠ 0) :
    Calls Tryz.prog 4 #[bkV q b, .string k, .int .i64 d, .string c] w (BkNo w (shE (poV b (clX b k d c)) d)) := by
  have hB := (BBx.new w q b).later ((Kept.refl (w.alloc (bkO q b))).alloc noBk)
  have hR := VBk.noneAt w q b
  have hK2 := ((Kept.refl w).alloc (bkO q b)).alloc noBk
  have CK := Lib.hid (ccheck_any q b d c _ (hM.later hK2))
  obtain ⟨gd, dy, _, _⟩ := ccE_ok ok
  rw [ok] at CK
  have CL := Lib.hid (fun V (h : BkM V q b) => clines_any q b d c V h gd dy)
  have EM := Lib.hid (fun V a (cap : Nat) (h : PArg V a (clA (baF b d) c b.acs)) (h1 : (clA (baF b d) c b.acs).length ≤ cap) (h2 : cap ≤ maxLen) => clX_m (b := b) (d := d) hk hc hM.sha gd.a24 h h1 h2)
  have n0 : (clA (baF b d) c b.acs).length ≠ 0 := fun h => clA_not nl (List.eq_nil_of_length_eq_zero h)
  have e1 : (clX b k d c).key = k := rfl
  have e2 : (clX b k d c).day = d := rfl
  have e3 : (clX b k d c).lns = clA (baF b d) c b.acs := rfl
  have PP := Lib.hid (fun V a cap (h : BkM V q b) (hx : EtM V (clX b k d c) a cap) => post_yes q b (clX b k d c) a cap V h hx po)
  have SH := Lib.hid (fun q' V (h : BkM V q' (poV b (clX b k d c))) => shut_no q' (poV b (clX b k d c)) d V h er)
  clear po er
  rw [← e3] at CL EM n0
  generalize hW : (w.alloc (bkO q b)).alloc noBk = W at *
  have HW := Lib.hid hW
  have HK := Lib.hid hK2
  have HR := Lib.hid hR
  have HB := Lib.hid hB
  have HM := Lib.hid (hM.later hK2)
  clear hM hW hK2 ok hR gd dy nl e3 hk hc
  generalize clX b k d c = z at *
  subst e1 e2
  have n1 : ((z.lns.length : Int) == 0) = false := by rw [beq_eq_false_iff_ne]; omega
  obtain ⟨b0, b1, b2, b3⟩ := hB
  go_enter Tryz.func4, Tryz.ntmps4
  go_wp2_with fail
  rw [HW.out]
  refine CK.out.mono ?_
  rintro e w1 ⟨rfl, ka⟩
  clear b0 b1 b2 b3
  obtain ⟨b0, b1, b2, b3⟩ := HB.out.later ka
  go_wp2_with fail
  refine (CL.out w1 (HM.out.later ka)).mono ?_
  rintro e w2 ⟨a2, c2, rfl, hG, hK3⟩
  have kk := ka.trans hK3
  clear b0 b1 b2 b3
  obtain ⟨b0, b1, b2, b3⟩ := HB.out.later kk
  have kz := (Kept.refl w2).alloc (enO z a2 c2)
  obtain ⟨a3, c3, hf, h1, h2⟩ := hG.form
  obtain ⟨rfl, rfl⟩ : a2 = a3 ∧ c2 = c3 := by simpa using hf
  have PC := Lib.hid (PP.out _ _ _ (HM.out.later kk) (EM.out _ a2 c2 hG.arg h1 h2))
  have HS := Lib.hid (HR.out.later kk).box.lt
  clear hG ka hK3 hf h1 h2
  go_wp2_with fail
  refine PC.out.mono ?_
  rintro e w5 ⟨q5, rfl, hF, hK5⟩
  have kf := kk.trans hK5
  have kp := (Kept.refl w5).alloc (bkO q5 (poV b z))
  have SC := Lib.hid (SH.out q5 _ (hF.m.later kp))
  have hP := BBx.new w5 q5 (poV b z)
  clear b0 b1 b2 b3 kk kz hK5 hF
  generalize poV b z = y at *
  go_wp2_with fail
  refine SC.out.mono ?_
  rintro e w6 ⟨rfl, hK6⟩
  have kg := kf.trans (kp.trans hK6)
  generalize shE y z.day = ek at *
  obtain ⟨⟨r0, r1, r2, r3⟩, f0, f1, f2⟩ := HR.out.later kg
  have FK := Lib.hid ((HK.out.trans kg).set3 (p := w.heap.size + 1) (by omega) (.slice none 0 0) (.slice none 0 0) (.int .i64 0))
  clear hP kf kp hK6 kg
  go_wp2
  exact bodyPost_ret (v := .tuple #[.agg #[.slice none 0 0, .slice none 0 0, .int .i64 0], .int .i64 ek]) (by simp [results, Tryz.results4, go_sem, r1, r2, r3]) rfl ⟨rfl, FK.out⟩
set_option maxRecDepth 100000 in
set_option maxHeartbeats 4000000 in
theorem close_done (q : BkA) (b : Bk) (k : ByteArray) (d : Int) (c : ByteArray) (w : World) (hM : BkM w q b) (hk : k.size ≤ maxLen) (hc : c.size ≤ maxLen) (ok : ccE b d c = 0) (nl : clL (baF b d) b.acs ≠ []) (po : poE b (clX b k d c) = 0) (os : shE (poV b (clX b k d c)) d = 0) :
    Calls Tryz.prog 4 #[bkV q b, .string k, .int .i64 d, .string c] w (BkYes w (clV b k d c)) := by
  have hB := (BBx.new w q b).later ((Kept.refl (w.alloc (bkO q b))).alloc noBk)
  have hR := VBk.noneAt w q b
  have hK2 := ((Kept.refl w).alloc (bkO q b)).alloc noBk
  have CK := Lib.hid (ccheck_any q b d c _ (hM.later hK2))
  obtain ⟨gd, dy, _, _⟩ := ccE_ok ok
  rw [ok] at CK
  have CL := Lib.hid (fun V (h : BkM V q b) => clines_any q b d c V h gd dy)
  have EM := Lib.hid (fun V a (cap : Nat) (h : PArg V a (clA (baF b d) c b.acs)) (h1 : (clA (baF b d) c b.acs).length ≤ cap) (h2 : cap ≤ maxLen) => clX_m (b := b) (d := d) hk hc hM.sha gd.a24 h h1 h2)
  have n0 : (clA (baF b d) c b.acs).length ≠ 0 := fun h => clA_not nl (List.eq_nil_of_length_eq_zero h)
  have e1 : (clX b k d c).key = k := rfl
  have e2 : (clX b k d c).day = d := rfl
  have e3 : (clX b k d c).lns = clA (baF b d) c b.acs := rfl
  have PP := Lib.hid (fun V a cap (h : BkM V q b) (hx : EtM V (clX b k d c) a cap) => post_yes q b (clX b k d c) a cap V h hx po)
  have SH := Lib.hid (fun q' V (h : BkM V q' (poV b (clX b k d c))) => shut_yes q' (poV b (clX b k d c)) d V h os)
  have CV : clV b k d c = ⟨(poV b (clX b k d c)).acs, (poV b (clX b k d c)).ens, d⟩ := rfl
  rw [CV]
  clear po os CV
  rw [← e3] at CL EM n0
  generalize hW : (w.alloc (bkO q b)).alloc noBk = W at *
  have HW := Lib.hid hW
  have HK := Lib.hid hK2
  have HR := Lib.hid hR
  have HB := Lib.hid hB
  have HM := Lib.hid (hM.later hK2)
  clear hM hW hK2 ok hR gd dy nl e3 hk hc
  generalize clX b k d c = z at *
  subst e1 e2
  have n1 : ((z.lns.length : Int) == 0) = false := by rw [beq_eq_false_iff_ne]; omega
  obtain ⟨b0, b1, b2, b3⟩ := hB
  go_enter Tryz.func4, Tryz.ntmps4
  go_wp2_with fail
  rw [HW.out]
  refine CK.out.mono ?_
  rintro e w1 ⟨rfl, ka⟩
  clear b0 b1 b2 b3
  obtain ⟨b0, b1, b2, b3⟩ := HB.out.later ka
  go_wp2_with fail
  refine (CL.out w1 (HM.out.later ka)).mono ?_
  rintro e w2 ⟨a2, c2, rfl, hG, hK3⟩
  have kk := ka.trans hK3
  clear b0 b1 b2 b3
  obtain ⟨b0, b1, b2, b3⟩ := HB.out.later kk
  have kz := (Kept.refl w2).alloc (enO z a2 c2)
  obtain ⟨a3, c3, hf, h1, h2⟩ := hG.form
  obtain ⟨rfl, rfl⟩ : a2 = a3 ∧ c2 = c3 := by simpa using hf
  have PC := Lib.hid (PP.out _ _ _ (HM.out.later kk) (EM.out _ a2 c2 hG.arg h1 h2))
  have HS := Lib.hid (HR.out.later kk).box.lt
  clear hG ka hK3 hf h1 h2
  go_wp2_with fail
  refine PC.out.mono ?_
  rintro e w5 ⟨q5, rfl, hF, hK5⟩
  have kf := kk.trans hK5
  have kp := (Kept.refl w5).alloc (bkO q5 (poV b z))
  have SC := Lib.hid (SH.out q5 _ (hF.m.later kp))
  have hP := BBx.new w5 q5 (poV b z)
  clear b0 b1 b2 b3 kk kz hK5 hF
  generalize poV b z = y at *
  go_wp2_with fail
  refine SC.out.mono ?_
  rintro e w6 ⟨q6, rfl, hF, hK6⟩
  have kg := kf.trans (kp.trans hK6)
  obtain ⟨⟨r0, r1, r2, r3⟩, f0, f1, f2⟩ := HR.out.later kg
  have FK := Lib.hid ((HK.out.trans kg).set3 (p := w.heap.size + 1) (by omega) (.slice q6.aa y.acs.length q6.ca) (.slice q6.ae y.ens.length q6.ce) (.int .i64 z.day))
  have FF := Lib.hid ((hF.set3 (r := w.heap.size + 1) (by have := (HR.out.later (kf.trans kp)).box.lt; exact this) (.slice q6.aa y.acs.length q6.ca) (.slice q6.ae y.ens.length q6.ce) (.int .i64 z.day)).mono (A := w.heap.size) (by have := (HK.out.trans (kf.trans kp)).le; exact this))
  clear hP kf kp hK6 kg hF
  go_wp2
  exact bodyPost_ret (v := .tuple #[bkV q6 ⟨y.acs, y.ens, z.day⟩, .int .i64 0]) (by simp [results, Tryz.results4, go_sem, r1, r2, r3]) rfl ⟨q6, rfl, FF.out, FK.out⟩
/-- What Close returns. -/
theorem close_no (q : BkA) (b : Bk) (k : ByteArray) (d : Int) (c : ByteArray) (w : World) (hM : BkM w q b) (hk : k.size ≤ maxLen) (hc : c.size ≤ maxLen) (er : clE b k d c ≠ 0) :
    Calls Tryz.prog 4 #[bkV q b, .string k, .int .i64 d, .string c] w (BkNo w (clE b k d c)) := by
  unfold clE at er ⊢
  by_cases h1 : ccE b d c = 0
  · rw [if_pos h1] at er ⊢
    by_cases h2 : clL (baF b d) b.acs = []
    · rw [if_pos h2]; exact close_none q b k d c w hM h1 h2
    · rw [if_neg h2] at er ⊢
      by_cases h3 : poE b (clX b k d c) = 0
      · rw [if_pos h3] at er ⊢; exact close_shut q b k d c w hM hk hc h1 h2 h3 er
      · rw [if_neg h3]; exact close_bad q b k d c w hM hk hc h1 h2 h3
  · rw [if_neg h1]; exact close_pre q b k d c w hM h1
theorem close_yes (q : BkA) (b : Bk) (k : ByteArray) (d : Int) (c : ByteArray) (w : World) (hM : BkM w q b) (hk : k.size ≤ maxLen) (hc : c.size ≤ maxLen) (ok : clE b k d c = 0) :
    Calls Tryz.prog 4 #[bkV q b, .string k, .int .i64 d, .string c] w (BkYes w (clV b k d c)) := by
  obtain ⟨h1, h2, h3, h4⟩ := clE_ok ok
  exact close_done q b k d c w hM hk hc h1 h2 h3 h4
end Go.Proofs.YtbaahnafmfjpaaaGreatDoor
