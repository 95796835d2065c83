/-
  What package closing's Close returns. No condition but those that each theorem names.
-/
import Derived.Test.YtdabangdjgkphaaXWalkB
import Derived.Test.YtdabangdjgkphaaXWalkC
namespace Go.Proofs.Ytdabangdjgkphaa
open Go.RowKit
set_option linter.unusedVariables false

theorem clX_m {b : Bk} {k c : ByteArray} {d : Int} {V : World} {a : Option Addr} {cap : Nat} (hk : k.size ≤ maxLen) (hc : c.size ≤ maxLen) (hs : Shortish b.acs) (ha : b.acs.length ≤ 24) (h : PArg V a (clA (baF b d) c b.acs)) (h1 : (clA (baF b d) c b.acs).length ≤ cap) (h2 : cap ≤ maxLen) : EtM V (clX b k d c) a cap :=
  ⟨hk, (by have := clA_len (baF b d) c b.acs; show (clA (baF b d) c b.acs).length ≤ maxLen; unfold maxLen; omega), h, clA_short hs hc, h1, h2⟩
set_option maxRecDepth 100000 in
set_option maxHeartbeats 4000000 in
theorem close_pre (q : BkA) (b : Bk) (k : ByteArray) (d : Int) (c : ByteArray) (w : World) (hM : BkM w q b) (er : ccE b d c ≠ 0) :
    Calls Try.prog 10 #[bkV q b, .string k, .int .i64 d, .string c] w (BkNo w (ccE b d c)) := by
  have hB := (BBx.new w q b).later ((Kept.refl (w.alloc (bkO q b))).alloc noBk)
  have hR := VBk.noneAt w q b
  have hK2 := ((Kept.refl w).alloc (bkO q b)).alloc noBk
  have CK := Lib.hid (ccheck_any q b d c _ (hM.later hK2))
  generalize hW : (w.alloc (bkO q b)).alloc noBk = W at *
  have HW := Lib.hid hW
  have HK := Lib.hid hK2
  have HR := Lib.hid hR
  have h2 : (ccE b d c != 0) = true := by simpa using er
  clear hM hW hK2 er hR
  generalize ccE b d c = ek at *
  obtain ⟨b0, b1, b2, b3⟩ := hB
  go_enter Try.func10, Try.ntmps10
  go_wp2_with fail
  rw [HW.out]
  refine CK.out.mono ?_
  rintro e w1 ⟨rfl, ka⟩
  obtain ⟨⟨r0, r1, r2, r3⟩, f0, f1, f2⟩ := HR.out.later ka
  have FK := Lib.hid ((HK.out.trans ka).set3 (p := w.heap.size + 1) (by omega) (.slice none 0 0) (.slice none 0 0) (.int .i64 0))
  go_wp2
  exact bodyPost_ret (v := .tuple #[.agg #[.slice none 0 0, .slice none 0 0, .int .i64 0], .int .i64 ek]) (by simp [results, Try.results10, go_sem, r1, r2, r3]) rfl ⟨rfl, FK.out⟩
set_option maxRecDepth 100000 in
set_option maxHeartbeats 4000000 in
theorem close_none (q : BkA) (b : Bk) (k : ByteArray) (d : Int) (c : ByteArray) (w : World) (hM : BkM w q b) (ok : ccE b d c = 0) (nl : clL (baF b d) b.acs = []) :
    Calls Try.prog 10 #[bkV q b, .string k, .int .i64 d, .string c] w (BkNo w 4) := by
  have hB := (BBx.new w q b).later ((Kept.refl (w.alloc (bkO q b))).alloc noBk)
  have hR := VBk.noneAt w q b
  have hK2 := ((Kept.refl w).alloc (bkO q b)).alloc noBk
  have CK := Lib.hid (ccheck_any q b d c _ (hM.later hK2))
  obtain ⟨gd, dy, _, _⟩ := ccE_ok ok
  rw [ok] at CK
  have CL := Lib.hid (fun V (h : BkM V q b) => clines_any q b d c V h gd dy)
  rw [clA_nil nl] at CL
  generalize hW : (w.alloc (bkO q b)).alloc noBk = W at *
  have HW := Lib.hid hW
  have HK := Lib.hid hK2
  have HR := Lib.hid hR
  have HB := Lib.hid hB
  have HM := Lib.hid (hM.later hK2)
  clear hM hW hK2 ok hR gd dy nl
  obtain ⟨b0, b1, b2, b3⟩ := hB
  go_enter Try.func10, Try.ntmps10
  go_wp2_with fail
  rw [HW.out]
  refine CK.out.mono ?_
  rintro e w1 ⟨rfl, ka⟩
  clear b0 b1 b2 b3
  obtain ⟨b0, b1, b2, b3⟩ := HB.out.later ka
  go_wp2_with fail
  refine (CL.out w1 (HM.out.later ka)).mono ?_
  rintro e w2 ⟨a2, c2, rfl, hG, hK3⟩
  have kk := ka.trans hK3
  clear b0 b1 b2 b3
  obtain ⟨⟨r0, r1, r2, r3⟩, f0, f1, f2⟩ := HR.out.later kk
  have FK := Lib.hid ((HK.out.trans kk).set3 (p := w.heap.size + 1) (by omega) (.slice none 0 0) (.slice none 0 0) (.int .i64 0))
  clear hG ka hK3 kk
  go_wp2
  exact bodyPost_ret (v := .tuple #[.agg #[.slice none 0 0, .slice none 0 0, .int .i64 0], .int .i64 4]) (by simp [results, Try.results10, go_sem, r1, r2, r3]) rfl ⟨rfl, FK.out⟩
set_option maxRecDepth 100000 in
set_option maxHeartbeats 4000000 in
theorem close_bad (q : BkA) (b : Bk) (k : ByteArray) (d : Int) (c : ByteArray) (w : World) (hM : BkM w q b) (hk : k.size ≤ maxLen) (hc : c.size ≤ maxLen) (ok : ccE b d c = 0) (nl : clL (baF b d) b.acs ≠ []) (er : poE b (clX b k d c) ≠ 0) :
    Calls Try.prog 10 #[bkV q b, .string k, .int .i64 d, .string c] w (BkNo w (poE b (clX b k d c))) := by
  have hB := (BBx.new w q b).later ((Kept.refl (w.alloc (bkO q b))).alloc noBk)
  have hR := VBk.noneAt w q b
  have hK2 := ((Kept.refl w).alloc (bkO q b)).alloc noBk
  have CK := Lib.hid (ccheck_any q b d c _ (hM.later hK2))
  obtain ⟨gd, dy, _, _⟩ := ccE_ok ok
  rw [ok] at CK
  have CL := Lib.hid (fun V (h : BkM V q b) => clines_any q b d c V h gd dy)
  have EM := Lib.hid (fun V a (cap : Nat) (h : PArg V a (clA (baF b d) c b.acs)) (h1 : (clA (baF b d) c b.acs).length ≤ cap) (h2 : cap ≤ maxLen) => clX_m (b := b) (d := d) hk hc hM.sha gd.a24 h h1 h2)
  have n0 : (clA (baF b d) c b.acs).length ≠ 0 := fun h => clA_not nl (List.eq_nil_of_length_eq_zero h)
  have e1 : (clX b k d c).key = k := rfl
  have e2 : (clX b k d c).day = d := rfl
  have e3 : (clX b k d c).lns = clA (baF b d) c b.acs := rfl
  have PP := Lib.hid (fun V a cap (h : BkM V q b) (hx : EtM V (clX b k d c) a cap) => post_no q b (clX b k d c) a cap V h hx er)
  have pn : (poE b (clX b k d c) != 0) = true := by simpa using er
  clear er
  rw [← e3] at CL EM n0
  generalize hW : (w.alloc (bkO q b)).alloc noBk = W at *
  have HW := Lib.hid hW
  have HK := Lib.hid hK2
  have HR := Lib.hid hR
  have HB := Lib.hid hB
  have HM := Lib.hid (hM.later hK2)
  clear hM hW hK2 ok hR gd dy nl e3 hk hc
  generalize clX b k d c = z at *
  subst e1 e2
  have n1 : ((z.lns.length : Int) == 0) = false := by rw [beq_eq_false_iff_ne]; omega
  obtain ⟨b0, b1, b2, b3⟩ := hB
  go_enter Try.func10, Try.ntmps10
  go_wp2_with fail
  rw [HW.out]
  refine CK.out.mono ?_
  rintro e w1 ⟨rfl, ka⟩
  clear b0 b1 b2 b3
  obtain ⟨b0, b1, b2, b3⟩ := HB.out.later ka
  go_wp2_with fail
  refine (CL.out w1 (HM.out.later ka)).mono ?_
  rintro e w2 ⟨a2, c2, rfl, hG, hK3⟩
  have kk := ka.trans hK3
  clear b0 b1 b2 b3
  obtain ⟨b0, b1, b2, b3⟩ := HB.out.later kk
  have kz := (Kept.refl w2).alloc (enO z a2 c2)
  obtain ⟨a3, c3, hf, h1, h2⟩ := hG.form
  obtain ⟨rfl, rfl⟩ : a2 = a3 ∧ c2 = c3 := by simpa using hf
  have PC := Lib.hid (PP.out _ _ _ (HM.out.later kk) (EM.out _ a2 c2 hG.arg h1 h2))
  have HS := Lib.hid (HR.out.later kk).box.lt
  clear hG ka hK3 hf h1 h2
  go_wp2_with fail
  refine PC.out.mono ?_
  rintro e w5 ⟨rfl, hK5⟩
  have kf := (kk.trans hK5).alloc noBk
  clear b0 b1 b2 b3
  generalize poE b z = ek at *
  obtain ⟨⟨r0, r1, r2, r3⟩, f0, f1, f2⟩ := HR.out.later kf
  have FK := Lib.hid ((HK.out.trans kf).set3 (p := w.heap.size + 1) (by omega) (.slice none 0 0) (.slice none 0 0) (.int .i64 0))
  clear hK5 kk kz kf
  go_wp2
  exact bodyPost_ret (v := .tuple #[.agg #[.slice none 0 0, .slice none 0 0, .int .i64 0], .int .i64 ek]) (by simp [results, Try.results10, go_sem, r1, r2, r3]) rfl ⟨rfl, FK.out⟩
set_option maxRecDepth 100000 in
set_option maxHeartbeats 4000000 in
theorem close_shut (q : BkA) (b : Bk) (k : ByteArray) (d : Int) (c : ByteArray) (w : World) (hM : BkM w q b) (hk : k.size ≤ maxLen) (hc : c.size ≤ maxLen) (ok : ccE b d c = 0) (nl : clL (baF b d) b.acs ≠ []) (po : poE b (clX b k d c) = 0) (er : shE (poV b (clX b k d c)) d ≠ 0) :
    Calls Try.prog 10 #[bkV q b, .string k, .int .i64 d, .string c] w (BkNo w (shE (poV b (clX b k d c)) d)) := by
  have hB := (BBx.new w q b).later ((Kept.refl (w.alloc (bkO q b))).alloc noBk)
  have hR := VBk.noneAt w q b
  have hK2 := ((Kept.refl w).alloc (bkO q b)).alloc noBk
  have CK := Lib.hid (ccheck_any q b d c _ (hM.later hK2))
  obtain ⟨gd, dy, _, _⟩ := ccE_ok ok
  rw [ok] at CK
  have CL := Lib.hid (fun V (h : BkM V q b) => clines_any q b d c V h gd dy)
  have EM := Lib.hid (fun V a (cap : Nat) (h : PArg V a (clA (baF b d) c b.acs)) (h1 : (clA (baF b d) c b.acs).length ≤ cap) (h2 : cap ≤ maxLen) => clX_m (b := b) (d := d) hk hc hM.sha gd.a24 h h1 h2)
  have n0 : (clA (baF b d) c b.acs).length ≠ 0 := fun h => clA_not nl (List.eq_nil_of_length_eq_zero h)
  have e1 : (clX b k d c).key = k := rfl
  have e2 : (clX b k d c).day = d := rfl
  have e3 : (clX b k d c).lns = clA (baF b d) c b.acs := rfl
  have PP := Lib.hid (fun V a cap (h : BkM V q b) (hx : EtM V (clX b k d c) a cap) => post_yes q b (clX b k d c) a cap V h hx po)
  have SH := Lib.hid (fun q' V (h : BkM V q' (poV b (clX b k d c))) => shut_no q' (poV b (clX b k d c)) d V h er)
  clear po er
  rw [← e3] at CL EM n0
  generalize hW : (w.alloc (bkO q b)).alloc noBk = W at *
  have HW := Lib.hid hW
  have HK := Lib.hid hK2
  have HR := Lib.hid hR
  have HB := Lib.hid hB
  have HM := Lib.hid (hM.later hK2)
  clear hM hW hK2 ok hR gd dy nl e3 hk hc
  generalize clX b k d c = z at *
  subst e1 e2
  have n1 : ((z.lns.length : Int) == 0) = false := by rw [beq_eq_false_iff_ne]; omega
  obtain ⟨b0, b1, b2, b3⟩ := hB
  go_enter Try.func10, Try.ntmps10
  go_wp2_with fail
  rw [HW.out]
  refine CK.out.mono ?_
  rintro e w1 ⟨rfl, ka⟩
  clear b0 b1 b2 b3
  obtain ⟨b0, b1, b2, b3⟩ := HB.out.later ka
  go_wp2_with fail
  refine (CL.out w1 (HM.out.later ka)).mono ?_
  rintro e w2 ⟨a2, c2, rfl, hG, hK3⟩
  have kk := ka.trans hK3
  clear b0 b1 b2 b3
  obtain ⟨b0, b1, b2, b3⟩ := HB.out.later kk
  have kz := (Kept.refl w2).alloc (enO z a2 c2)
  obtain ⟨a3, c3, hf, h1, h2⟩ := hG.form
  obtain ⟨rfl, rfl⟩ : a2 = a3 ∧ c2 = c3 := by simpa using hf
  have PC := Lib.hid (PP.out _ _ _ (HM.out.later kk) (EM.out _ a2 c2 hG.arg h1 h2))
  have HS := Lib.hid (HR.out.later kk).box.lt
  clear hG ka hK3 hf h1 h2
  go_wp2_with fail
  refine PC.out.mono ?_
  rintro e w5 ⟨q5, rfl, hF, hK5⟩
  have kf := kk.trans hK5
  have kp := (Kept.refl w5).alloc (bkO q5 (poV b z))
  have SC := Lib.hid (SH.out q5 _ (hF.m.later kp))
  have hP := BBx.new w5 q5 (poV b z)
  clear b0 b1 b2 b3 kk kz hK5 hF
  generalize poV b z = y at *
  go_wp2_with fail
  refine SC.out.mono ?_
  rintro e w6 ⟨rfl, hK6⟩
  have kg := kf.trans (kp.trans hK6)
  generalize shE y z.day = ek at *
  obtain ⟨⟨r0, r1, r2, r3⟩, f0, f1, f2⟩ := HR.out.later kg
  have FK := Lib.hid ((HK.out.trans kg).set3 (p := w.heap.size + 1) (by omega) (.slice none 0 0) (.slice none 0 0) (.int .i64 0))
  clear hP kf kp hK6 kg
  go_wp2
  exact bodyPost_ret (v := .tuple #[.agg #[.slice none 0 0, .slice none 0 0, .int .i64 0], .int .i64 ek]) (by simp [results, Try.results10, go_sem, r1, r2, r3]) rfl ⟨rfl, FK.out⟩
set_option maxRecDepth 100000 in
set_option maxHeartbeats 4000000 in
theorem close_done (q : BkA) (b : Bk) (k : ByteArray) (d : Int) (c : ByteArray) (w : World) (hM : BkM w q b) (hk : k.size ≤ maxLen) (hc : c.size ≤ maxLen) (ok : ccE b d c = 0) (nl : clL (baF b d) b.acs ≠ []) (po : poE b (clX b k d c) = 0) (os : shE (poV b (clX b k d c)) d = 0) :
    Calls Try.prog 10 #[bkV q b, .string k, .int .i64 d, .string c] w (BkYes w (clV b k d c)) := by
  have hB := (BBx.new w q b).later ((Kept.refl (w.alloc (bkO q b))).alloc noBk)
  have hR := VBk.noneAt w q b
  have hK2 := ((Kept.refl w).alloc (bkO q b)).alloc noBk
  have CK := Lib.hid (ccheck_any q b d c _ (hM.later hK2))
  obtain ⟨gd, dy, _, _⟩ := ccE_ok ok
  rw [ok] at CK
  have CL := Lib.hid (fun V (h : BkM V q b) => clines_any q b d c V h gd dy)
  have EM := Lib.hid (fun V a (cap : Nat) (h : PArg V a (clA (baF b d) c b.acs)) (h1 : (clA (baF b d) c b.acs).length ≤ cap) (h2 : cap ≤ maxLen) => clX_m (b := b) (d := d) hk hc hM.sha gd.a24 h h1 h2)
  have n0 : (clA (baF b d) c b.acs).length ≠ 0 := fun h => clA_not nl (List.eq_nil_of_length_eq_zero h)
  have e1 : (clX b k d c).key = k := rfl
  have e2 : (clX b k d c).day = d := rfl
  have e3 : (clX b k d c).lns = clA (baF b d) c b.acs := rfl
  have PP := Lib.hid (fun V a cap (h : BkM V q b) (hx : EtM V (clX b k d c) a cap) => post_yes q b (clX b k d c) a cap V h hx po)
  have SH := Lib.hid (fun q' V (h : BkM V q' (poV b (clX b k d c))) => shut_yes q' (poV b (clX b k d c)) d V h os)
  have CV : clV b k d c = ⟨(poV b (clX b k d c)).acs, (poV b (clX b k d c)).ens, d⟩ := rfl
  rw [CV]
  clear po os CV
  rw [← e3] at CL EM n0
  generalize hW : (w.alloc (bkO q b)).alloc noBk = W at *
  have HW := Lib.hid hW
  have HK := Lib.hid hK2
  have HR := Lib.hid hR
  have HB := Lib.hid hB
  have HM := Lib.hid (hM.later hK2)
  clear hM hW hK2 ok hR gd dy nl e3 hk hc
  generalize clX b k d c = z at *
  subst e1 e2
  have n1 : ((z.lns.length : Int) == 0) = false := by rw [beq_eq_false_iff_ne]; omega
  obtain ⟨b0, b1, b2, b3⟩ := hB
  go_enter Try.func10, Try.ntmps10
  go_wp2_with fail
  rw [HW.out]
  refine CK.out.mono ?_
  rintro e w1 ⟨rfl, ka⟩
  clear b0 b1 b2 b3
  obtain ⟨b0, b1, b2, b3⟩ := HB.out.later ka
  go_wp2_with fail
  refine (CL.out w1 (HM.out.later ka)).mono ?_
  rintro e w2 ⟨a2, c2, rfl, hG, hK3⟩
  have kk := ka.trans hK3
  clear b0 b1 b2 b3
  obtain ⟨b0, b1, b2, b3⟩ := HB.out.later kk
  have kz := (Kept.refl w2).alloc (enO z a2 c2)
  obtain ⟨a3, c3, hf, h1, h2⟩ := hG.form
  obtain ⟨rfl, rfl⟩ : a2 = a3 ∧ c2 = c3 := by simpa using hf
  have PC := Lib.hid (PP.out _ _ _ (HM.out.later kk) (EM.out _ a2 c2 hG.arg h1 h2))
  have HS := Lib.hid (HR.out.later kk).box.lt
  clear hG ka hK3 hf h1 h2
  go_wp2_with fail
  refine PC.out.mono ?_
  rintro e w5 ⟨q5, rfl, hF, hK5⟩
  have kf := kk.trans hK5
  have kp := (Kept.refl w5).alloc (bkO q5 (poV b z))
  have SC := Lib.hid (SH.out q5 _ (hF.m.later kp))
  have hP := BBx.new w5 q5 (poV b z)
  clear b0 b1 b2 b3 kk kz hK5 hF
  generalize poV b z = y at *
  go_wp2_with fail
  refine SC.out.mono ?_
  rintro e w6 ⟨q6, rfl, hF, hK6⟩
  have kg := kf.trans (kp.trans hK6)
  obtain ⟨⟨r0, r1, r2, r3⟩, f0, f1, f2⟩ := HR.out.later kg
  have FK := Lib.hid ((HK.out.trans kg).set3 (p := w.heap.size + 1) (by omega) (.slice q6.aa y.acs.length q6.ca) (.slice q6.ae y.ens.length q6.ce) (.int .i64 z.day))
  have FF := Lib.hid ((hF.set3 (r := w.heap.size + 1) (by have := (HR.out.later (kf.trans kp)).box.lt; exact this) (.slice q6.aa y.acs.length q6.ca) (.slice q6.ae y.ens.length q6.ce) (.int .i64 z.day)).mono (A := w.heap.size) (by have := (HK.out.trans (kf.trans kp)).le; exact this))
  clear hP kf kp hK6 kg hF
  go_wp2
  exact bodyPost_ret (v := .tuple #[bkV q6 ⟨y.acs, y.ens, z.day⟩, .int .i64 0]) (by simp [results, Try.results10, go_sem, r1, r2, r3]) rfl ⟨q6, rfl, FF.out, FK.out⟩
/-- What Close returns. -/
theorem close_no (q : BkA) (b : Bk) (k : ByteArray) (d : Int) (c : ByteArray) (w : World) (hM : BkM w q b) (hk : k.size ≤ maxLen) (hc : c.size ≤ maxLen) (er : clE b k d c ≠ 0) :
    Calls Try.prog 10 #[bkV q b, .string k, .int .i64 d, .string c] w (BkNo w (clE b k d c)) := by
  unfold clE at er ⊢
  by_cases h1 : ccE b d c = 0
  · rw [if_pos h1] at er ⊢
    by_cases h2 : clL (baF b d) b.acs = []
    · rw [if_pos h2]; exact close_none q b k d c w hM h1 h2
    · rw [if_neg h2] at er ⊢
      by_cases h3 : poE b (clX b k d c) = 0
      · rw [if_pos h3] at er ⊢; exact close_shut q b k d c w hM hk hc h1 h2 h3 er
      · rw [if_neg h3]; exact close_bad q b k d c w hM hk hc h1 h2 h3
  · rw [if_neg h1]; exact close_pre q b k d c w hM h1
theorem close_yes (q : BkA) (b : Bk) (k : ByteArray) (d : Int) (c : ByteArray) (w : World) (hM : BkM w q b) (hk : k.size ≤ maxLen) (hc : c.size ≤ maxLen) (ok : clE b k d c = 0) :
    Calls Try.prog 10 #[bkV q b, .string k, .int .i64 d, .string c] w (BkYes w (clV b k d c)) := by
  obtain ⟨h1, h2, h3, h4⟩ := clE_ok ok
  exact close_done q b k d c w hM hk hc h1 h2 h3 h4
end Go.Proofs.Ytdabangdjgkphaa
