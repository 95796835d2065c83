/-
  The law BookSays: for every book, entry and key it answers true; nothing that was there is turned. No condition but those that each theorem names.
-/
import Derived.Test.YtdabangdjgkphaaGreatDoorMgYWalkO
import Derived.Test.YtdabangdjgkphaaGreatDoorHWalkH
namespace Go.Proofs.YtdabangdjgkphaaGreatDoor
open Go.RowKit
set_option linter.unusedVariables false

theorem no_m (w : World) : BkM w noA noB := ⟨.inl rfl, (fun x hx => by cases hx), Nat.le_refl _, Nat.zero_le _, .inl rfl, (fun x hx => by cases hx), Nat.le_refl _, Nat.zero_le _⟩
set_option maxHeartbeats 2000000 in
theorem told_yes (q q' : BkA) (b : Bk) (er : Int) (w : World) (h1 : BkM w q b) (h2 : BkM w q' b) (na : b.acs.length ≤ 24) (ne : b.ens.length ≤ 60) (nl : ∀ x ∈ b.ens, x.lns.length ≤ 12) :
    Calls Tryz.prog 9 #[bkV q b, .int .i64 er, bkV q' b, .int .i64 er] w fun e w' => e = .returned (.bool true) ∧ Kept w w' := by
  have kE := ((Kept.refl w).alloc (bkO q b)).alloc (bkO q' b)
  have HX := Lib.hid (sbook_yes q q' b _ (h1.later kE) (h2.later kE) na ne nl)
  clear h1 h2 nl
  go_enter Tryz.func9, Tryz.ntmps9
  go_wp2_with fail
  refine HX.out.mono ?_
  rintro e w1 ⟨rfl, hK1⟩
  go_wp2
  go_ret
  exact ⟨rfl, kE.trans hK1⟩
theorem told_no (er : Int) (w : World) :
    Calls Tryz.prog 9 #[.agg #[.slice none 0 0, .slice none 0 0, .int .i64 0], .int .i64 er, .agg #[.slice none 0 0, .slice none 0 0, .int .i64 0], .int .i64 er] w fun e w' => e = .returned (.bool true) ∧ Kept w w' :=
  told_yes noA noA noB er w (no_m w) (no_m w) (Nat.zero_le _) (Nat.zero_le _) (fun x hx => by cases hx)
def twoB : Bk := ⟨[], [], -2⟩
theorem two_m (w : World) : BkM w noA twoB := ⟨.inl rfl, (fun x hx => by cases hx), Nat.le_refl _, Nat.zero_le _, .inl rfl, (fun x hx => by cases hx), Nat.le_refl _, Nat.zero_le _⟩
theorem two_e : bkE twoB = 1 := by decide +kernel
set_option maxRecDepth 100000 in
set_option maxHeartbeats 4000000 in
theorem says_bad (q : BkA) (b : Bk) (x : Et) (a : Option Addr) (cap : Nat) (k : ByteArray) (w : World) (hM : BkM w q b) (hx : EtM w x a cap) (gd : ¬ bkE b = 0) :
    Calls Tryz.prog 3 #[bkV q b, enV x.key x.day a x.lns.length cap, .string k] w fun e w' => e = .returned (.bool true) ∧ Below w.heap.size w w' := by
  have HB := Lib.hid ((BBx.new w q b).later ((Kept.refl (w.alloc (bkO q b))).alloc (enO x a cap)))
  have HX := Lib.hid (EBx.newAt (w := w.alloc (bkO q b)) (p := w.heap.size + 1) (by simp) x.key x.day (.slice a x.lns.length cap) 28)
  have hK2 := ((Kept.refl w).alloc (bkO q b)).alloc (enO x a cap)
  have HM := Lib.hid (hM.later hK2)
  have HE := Lib.hid (hx.later hK2)
  have PE : poE b x = bkE b := by unfold poE; rw [if_neg gd]
  have GE : gtE b k = bkE b := by unfold gtE; rw [if_neg gd]
  have PN := Lib.hid (fun V (h : BkM V q b) (h2 : EtM V x a cap) => show Calls Tryz.prog 5 #[bkV q b, enV x.key x.day a x.lns.length cap] V (BkNo V (bkE b)) from by
    have := post_no q b x a cap V h h2 (by rw [PE]; exact gd)
    rwa [PE] at this)
  have GN := Lib.hid (fun V (h : BkM V q b) => show Calls Tryz.prog 6 #[bkV q b, .string k] V (EnNo V (bkE b)) from by
    have := get_no q b k V h (by rw [GE]; exact gd)
    rwa [GE] at this)
  have RB := Lib.hid (fun V (h : BkM V q b) => rbook_any q b V h)
  have CB := Lib.hid (fun V (h : BkM V q b) => check_any q b V h)
  have C2 := Lib.hid (fun V => show Calls Tryz.prog 8 #[bkV noA twoB] V fun e w' => e = .returned (.int .i64 1) ∧ Kept V w' from by
    have := check_any noA twoB V (two_m V)
    rwa [two_e] at this)
  have ne1 : (bkE b != 0) = true := by simpa using gd
  generalize hW : (w.alloc (bkO q b)).alloc (enO x a cap) = W at *
  have HW := Lib.hid hW
  have HK := Lib.hid hK2
  clear hM hx hW hK2 PE GE gd
  generalize bkE b = ek at *
  go_enter Tryz.func3, Tryz.ntmps3
  obtain ⟨b0, b1, b2, b3⟩ := HB.out
  obtain ⟨x0, x1, x2, x3⟩ := HX.out
  go_wp2_with fail
  rw [HW.out]
  refine (PN.out W HM.out HE.out).mono ?_
  rintro e w1 ⟨rfl, hK1⟩
  have HY := Lib.hid (vb_none w1)
  have K2 := Lib.hid (hK1.alloc noBk)
  clear b0 b1 b2 b3 x0 x1 x2 x3
  obtain ⟨b0, b1, b2, b3⟩ := HB.out.later hK1
  have GC := Lib.hid (GN.out (w1.alloc noBk) (HM.out.later K2.out))
  clear hK1
  go_wp2_with fail
  refine GC.out.mono ?_
  rintro e w2 ⟨rfl, hK2⟩
  have HY2 := Lib.hid (HY.out.later (hK2.alloc noEn))
  have HZ := Lib.hid (EBx.new w2 ⟨#[]⟩ 0 (.slice none 0 0) 28)
  have K3 := Lib.hid (K2.out.trans (hK2.alloc noEn))
  clear b0 b1 b2 b3
  obtain ⟨b0, b1, b2, b3⟩ := HB.out.later (K2.out.trans hK2)
  have RC := Lib.hid (RB.out (w2.alloc noEn) (HM.out.later K3.out))
  clear hK2
  go_wp2_with fail
  refine RC.out.mono ?_
  rintro e w3 ⟨rfl, hK3⟩
  have HY3 := Lib.hid (HY2.out.later hK3)
  have HZ3 := Lib.hid (HZ.out.later hK3)
  have K4 := Lib.hid (K3.out.trans hK3)
  clear b0 b1 b2 b3 hK3
  obtain ⟨b0, b1, b2, b3⟩ := HB.out.later K4.out
  go_wp2_with fail
  refine (CB.out w3 (HM.out.later K4.out)).mono ?_
  rintro e w4 ⟨rfl, hK4⟩
  have K5 := Lib.hid (K4.out.trans hK4)
  have HY4 := Lib.hid (HY3.out.later hK4)
  have HZ4 := Lib.hid (HZ3.out.later hK4)
  clear b0 b1 b2 b3 hK4
  go_wp2_with fail
  refine (C2.out w4).mono ?_
  rintro e w5 ⟨rfl, hK5⟩
  have K6 := Lib.hid (K5.out.trans hK5)
  have HY5 := Lib.hid (HY4.out.later hK5)
  have HZ5 := Lib.hid (HZ4.out.later hK5)
  clear hK5
  obtain ⟨⟨y0, y1, y2, y3⟩, _, _, _⟩ := HY5.out
  simp only [noA, noB, List.length_nil] at y1 y2 y3
  obtain ⟨z0, z1, z2, z3⟩ := HZ5.out
  go_wp2_with fail
  refine (told_no ek w5).mono ?_
  rintro e w6 ⟨rfl, hK6⟩
  have K7 := Lib.hid (K6.out.trans hK6)
  clear y0 y1 y2 y3 z0 z1 z2 z3
  obtain ⟨z0, z1, z2, z3⟩ := HZ5.out.later hK6
  clear hK6
  go_wp2_with fail
  refine (same_yes ⟨#[]⟩ 0 [] none none 0 0 0 w6 (by simp) rfl (.inl rfl) (.inl rfl)).mono ?_
  rintro e w7 ⟨rfl, hK7⟩
  have K8 := Lib.hid (K7.out.trans hK7)
  clear z0 z1 z2 z3 hK7
  go_wp2
  go_ret
  exact ⟨by simp, HK.out.trans K8.out⟩
set_option maxRecDepth 100000 in
set_option maxHeartbeats 4000000 in
theorem says_good (q : BkA) (b : Bk) (x : Et) (a : Option Addr) (cap : Nat) (k : ByteArray) (w : World) (hM : BkM w q b) (hx : EtM w x a cap) (gd : Good b) :
    Calls Tryz.prog 3 #[bkV q b, enV x.key x.day a x.lns.length cap, .string k] w fun e w' => e = .returned (.bool true) ∧ Below w.heap.size w w' := by
  have HB := Lib.hid ((BBx.new w q b).later ((Kept.refl (w.alloc (bkO q b))).alloc (enO x a cap)))
  have HX := Lib.hid (EBx.newAt (w := w.alloc (bkO q b)) (p := w.heap.size + 1) (by simp) x.key x.day (.slice a x.lns.length cap) 28)
  have hK2 := ((Kept.refl w).alloc (bkO q b)).alloc (enO x a cap)
  have HM := Lib.hid (hM.later hK2)
  have HE := Lib.hid (hx.later hK2)
  obtain ⟨s1, s2, s3⟩ := poY_small (b := b) (x := x)
  have SM := Lib.hid s3
  have PA := Lib.hid (fun V (h : BkM V q b) (h2 : EtM V x a cap) => post_any q b x a cap V h h2)
  have RP := Lib.hid (fun V (h : BkM V q b) (h2 : EtM V x a cap) => rpost_any q b x a cap V h h2 gd)
  have GA := Lib.hid (fun V (h : BkM V q b) => get_all q b k V h gd)
  have RG := Lib.hid (fun V (h : BkM V q b) => rget_all q b k V h)
  have X12 := gtX_12 gd k
  obtain ⟨gz, fb, e1, e2, GR⟩ : ∃ (gz : Int) (fb : Bool), (if kyI k b.ens < b.ens.length then (0 : Int) else 4) = gz ∧ decide (kyI k b.ens < b.ens.length) = fb ∧ ((fb = true ∧ gz = 0) ∨ (fb = false ∧ gz = 4 ∧ gtX k b.ens = noEy)) := by
    refine ⟨_, _, rfl, rfl, ?_⟩
    by_cases h : kyI k b.ens < b.ens.length
    · exact .inl ⟨decide_eq_true h, if_pos h⟩
    · exact .inr ⟨decide_eq_false h, if_neg h, by unfold gtX; rw [dif_neg h]⟩
  simp only [e1] at GA
  simp only [e2] at RG
  have GR := Lib.hid GR
  clear e1 e2
  have RB := Lib.hid (fun V (h : BkM V q b) => show Calls Tryz.prog 7 #[bkV q b] V fun e w' => e = .returned (.int .i64 0) ∧ Kept V w' from by
    have := rbook_any q b V h
    rwa [bkE_iff.2 gd] at this)
  have CB := Lib.hid (fun V (h : BkM V q b) => show Calls Tryz.prog 8 #[bkV q b] V fun e w' => e = .returned (.int .i64 0) ∧ Kept V w' from by
    have := check_any q b V h
    rwa [bkE_iff.2 gd] at this)
  have C2 := Lib.hid (fun V => show Calls Tryz.prog 8 #[bkV noA twoB] V fun e w' => e = .returned (.int .i64 1) ∧ Kept V w' from by
    have := check_any noA twoB V (two_m V)
    rwa [two_e] at this)
  generalize hW : (w.alloc (bkO q b)).alloc (enO x a cap) = W at *
  have HW := Lib.hid hW
  have HK := Lib.hid hK2
  clear hM hx hW hK2 gd s3
  generalize poY b x = y at *
  generalize poE b x = ep at *
  generalize gtX k b.ens = z at *
  obtain ⟨b0, b1, b2, b3⟩ := HB.out
  obtain ⟨x0, x1, x2, x3⟩ := HX.out
  go_enter Tryz.func3, Tryz.ntmps3
  go_wp2_with fail
  rw [HW.out]
  refine (PA.out W HM.out HE.out).mono ?_
  rintro e w1 ⟨qy, rfl, hMy, hK1⟩
  have HY := Lib.hid (BBx.new w1 qy y)
  have HMY := Lib.hid (hMy.later ((Kept.refl w1).alloc (bkO qy y)))
  have K2 := Lib.hid (hK1.alloc (bkO qy y))
  clear b0 b1 b2 b3 x0 x1 x2 x3
  obtain ⟨b0, b1, b2, b3⟩ := HB.out.later hK1
  have GC := Lib.hid (GA.out (w1.alloc (bkO qy y)) (HM.out.later K2.out))
  clear hK1 hMy
  go_wp2_with fail
  refine GC.out.mono ?_
  rintro e w2 ⟨az, cz, rfl, hPz, hK2⟩
  have hkz := hK2.alloc (enO z az cz)
  have HY2 := Lib.hid (HY.out.later hkz)
  have HMY2 := Lib.hid (HMY.out.later hkz)
  have HZ := Lib.hid (EBx.new w2 z.key z.day (.slice az z.lns.length cz) 28)
  have HPZ := Lib.hid (hPz.later ((Kept.refl w2).alloc (enO z az cz)))
  have K3 := Lib.hid (K2.out.trans hkz)
  clear b0 b1 b2 b3
  obtain ⟨b0, b1, b2, b3⟩ := HB.out.later (K2.out.trans hK2)
  have RC := Lib.hid (RB.out (w2.alloc (enO z az cz)) (HM.out.later K3.out))
  clear hK2 hkz hPz
  go_wp2_with fail
  refine RC.out.mono ?_
  rintro e w3 ⟨rfl, hK3⟩
  have K4 := Lib.hid (K3.out.trans hK3)
  have KZ3 := Lib.hid hK3
  clear b0 b1 b2 b3 hK3
  obtain ⟨b0, b1, b2, b3⟩ := HB.out.later K4.out
  go_wp2_with fail
  refine (CB.out w3 (HM.out.later K4.out)).mono ?_
  rintro e w4 ⟨rfl, hK4⟩
  have K5 := Lib.hid (K4.out.trans hK4)
  have KZ4 := Lib.hid (KZ3.out.trans hK4)
  clear b0 b1 b2 b3 hK4
  go_wp2_with fail
  refine (C2.out w4).mono ?_
  rintro e w5 ⟨rfl, hK5⟩
  have K6 := Lib.hid (K5.out.trans hK5)
  have KZ5 := Lib.hid (KZ4.out.trans hK5)
  clear hK5
  obtain ⟨b0, b1, b2, b3⟩ := HB.out.later K6.out
  obtain ⟨x0, x1, x2, x3⟩ := HX.out.later K6.out
  go_wp2_with fail
  refine (RP.out w5 (HM.out.later K6.out) (HE.out.later K6.out)).mono ?_
  rintro e w6 ⟨qt, rfl, hMt, hK6⟩
  have kt := (Kept.refl w6).alloc (bkO qt y)
  have HT := Lib.hid (BBx.new w6 qt y)
  have KZ7 := Lib.hid ((KZ5.out.trans hK6).trans kt)
  have K7 := Lib.hid ((K6.out.trans hK6).trans kt)
  have TD := Lib.hid (told_yes qy qt y ep (w6.alloc (bkO qt y)) (HMY2.out.later KZ7.out) (hMt.later kt) s1 s2 SM.out)
  clear b0 b1 b2 b3 x0 x1 x2 x3 hMt
  obtain ⟨y0, y1, y2, y3⟩ := HY2.out.later (KZ5.out.trans hK6)
  clear hK6 kt
  go_wp2_with fail
  refine TD.out.mono ?_
  rintro e w8 ⟨rfl, hK8⟩
  have K8 := Lib.hid (K7.out.trans hK8)
  have KZ8 := Lib.hid (KZ7.out.trans hK8)
  clear y0 y1 y2 y3 hK8
  obtain ⟨b0, b1, b2, b3⟩ := HB.out.later K8.out
  go_wp2_with fail
  refine (RG.out w8 (HM.out.later K8.out)).mono ?_
  rintro e w9 ⟨ar, cr, rfl, hPr, hK9⟩
  have K9 := Lib.hid (K8.out.trans hK9)
  have KZ9 := Lib.hid (KZ8.out.trans hK9)
  clear b0 b1 b2 b3
  have kr := (Kept.refl w9).alloc (enO z ar cr)
  have SZ := Lib.hid (fun V (k : Kept w9 V) => same_yes z.key z.day z.lns az ar z.lns.length cz cr V (by omega) rfl (HPZ.out.later (KZ9.out.trans k)) (hPr.later k))
  have SN := Lib.hid (fun V (h : z = noEy) => show Calls Tryz.prog 10 #[enV z.key z.day az z.lns.length cz, enV ⟨#[]⟩ 0 none 0 0] V fun e w' => e = .returned (.bool true) ∧ Kept V w' from by
    subst h; exact same_yes ⟨#[]⟩ 0 [] az none 0 cz 0 V (by simp) rfl (.inl rfl) (.inl rfl))
  obtain ⟨z0, z1, z2, z3⟩ := HZ.out.later KZ9.out
  clear hPr hK9
  rcases GR.out with ⟨rfl, rfl⟩ | ⟨rfl, rfl, hz⟩
  · go_wp2_with fail
    refine (SZ.out _ kr).mono ?_
    rintro e w10 ⟨rfl, hK10⟩
    have KF := Lib.hid (K9.out.trans (kr.trans hK10))
    clear z0 z1 z2 z3 hK10 kr
    go_wp2
    go_ret
    exact ⟨rfl, HK.out.trans KF.out⟩
  · have SNZ := Lib.hid (fun V => SN.out V hz)
    clear hz
    go_wp2_with fail
    refine (SNZ.out _).mono ?_
    rintro e w10 ⟨rfl, hK10⟩
    have KF := Lib.hid (K9.out.trans (kr.trans hK10))
    clear z0 z1 z2 z3 hK10 kr
    go_wp2
    go_ret
    exact ⟨rfl, HK.out.trans KF.out⟩
/-- BookSays, whatever is handed in. -/
theorem bookSays_walk (q : BkA) (b : Bk) (k : ByteArray) (d : Int) (a : Option Addr) (l : List Pr) (cap : Nat) (k2 : ByteArray) (w : World) (hM : BkM w q b) (hk : k.size ≤ maxLen) (hA : PArg w a l) (hs : Shortish l) (hn : l.length ≤ maxLen) (hc : l.length ≤ cap) (hcm : cap ≤ maxLen) (hk2 : k2.size ≤ maxLen) :
    Calls Tryz.prog 3 #[bkV q b, enV k d a l.length cap, .string k2] w fun e w' => e = .returned (.bool true) ∧ Below w.heap.size w w' := by
  have hE : EtM w ⟨k, d, l⟩ a cap := ⟨hk, hn, hA, hs, hc, hcm⟩
  by_cases gd : bkE b = 0
  · exact says_good q b ⟨k, d, l⟩ a cap k2 w hM hE (bkE_iff.1 gd)
  · exact says_bad q b ⟨k, d, l⟩ a cap k2 w hM hE gd
end Go.Proofs.YtdabangdjgkphaaGreatDoor
