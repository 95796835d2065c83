import Derived.Test.YtbaahnafmfjpaaaGreatDoorMgYWalkN
import Derived.Test.YtbaahnafmfjpaaaGreatDoorHWalkG
/-
  The reference's Post: what it returns where no new entry goes in. No condition but those that each theorem names.
-/
namespace Go.Proofs.YtbaahnafmfjpaaaGreatDoor
open Go.RowKit
set_option linter.unusedVariables false

set_option maxHeartbeats 2000000 in
theorem rsame_any (x y : Et) (a b : Option Addr) (n n' cap cap' : Nat) (w : World) (hn : x.lns.length ≤ 1000) (hn' : y.lns.length ≤ 1000) (e : x.lns.length = n) (e' : y.lns.length = n') (hR : PArg w a x.lns) (hQ : PArg w b y.lns) :
    Calls Tryz.prog 46 #[enV x.key x.day a n cap, enV y.key y.day b n' cap'] w fun e w' => e = .returned (.bool (smB x y)) ∧ Kept w w' := by
  have hK := ((Kept.refl w).alloc (.cells #[.string x.key, .int .i64 x.day, .slice a n cap] 38)).alloc (.cells #[.string y.key, .int .i64 y.day, .slice b n' cap'] 38)
  have HX := Lib.hid (lequal_any x.lns y.lns a b n n' cap cap' _ hn hn' e e' (hR.later hK) (hQ.later hK))
  have E := Lib.hid (show smB x y = ((x.key.toList == y.key.toList) && (x.day == y.day) && decide (x.lns = y.lns)) from rfl)
  clear hR hQ e e'
  generalize smB x y = r at *
  cases h1 : (x.key.toList == y.key.toList)
  · rw [h1] at E
    go_enter Tryz.func46, Tryz.ntmps46
    go_wp2
    go_ret
    exact ⟨ret_bool E.out.symm, hK⟩
  · cases h2 : (x.day == y.day)
    · rw [h1, h2] at E
      go_enter Tryz.func46, Tryz.ntmps46
      go_wp2
      go_ret
      exact ⟨ret_bool E.out.symm, hK⟩
    · rw [h1, h2] at E
      generalize decide (x.lns = y.lns) = t at *
      go_enter Tryz.func46, Tryz.ntmps46
      go_wp2_with fail
      refine HX.out.mono ?_
      rintro e w1 ⟨rfl, hD⟩
      go_wp2
      go_ret
      exact ⟨ret_bool (by rw [E.out]; simp), hK.trans hD.kept⟩
set_option maxRecDepth 100000 in
set_option maxHeartbeats 4000000 in
theorem rpost_en (q : BkA) (b : Bk) (x : Et) (a : Option Addr) (cap : Nat) (w : World) (hM : BkM w q b) (hx : EtM w x a cap) (er : enE x.key x.day x.lns ≠ 0) :
    Calls Tryz.prog 22 #[bkV q b, enV x.key x.day a x.lns.length cap] w (BkNo w (enE x.key x.day x.lns)) := by
  obtain ⟨x1, x2, x3, x4, x5, x6⟩ := id hx
  have kE := (((Kept.refl w).alloc (bkO q b)).alloc (enO x a cap)).alloc noBk
  have HB := Lib.hid ((BBx.new w q b).later (((Kept.refl (w.alloc (bkO q b))).alloc (enO x a cap)).alloc noBk))
  have HX := Lib.hid ((EBx.newAt (w := w.alloc (bkO q b)) (p := w.heap.size + 1) (by simp) x.key x.day (.slice a x.lns.length cap) 38).later ((Kept.refl ((w.alloc (bkO q b)).alloc (enO x a cap))).alloc noBk))
  have HR := Lib.hid (VBk.none ((w.alloc (bkO q b)).alloc (enO x a cap)) (w.heap.size + 1 + 1) (by simp))
  have EN := Lib.hid (fun V (k : Kept w V) => rentry_any x.key x.day a x.lns cap V x1 x2 (x3.later k) x4)
  have en : (enE x.key x.day x.lns != 0) = true := by simpa using er
  clear er
  have HM := Lib.hid hM
  have XA := Lib.hid x3
  have hle : w.heap.size ≤ w.heap.size + 1 + 1 := by omega
  generalize hW : ((w.alloc (bkO q b)).alloc (enO x a cap)).alloc noBk = W at HB HX HR kE
  have HW := Lib.hid hW
  have HK := Lib.hid kE
  clear hM hx hW kE x3
  obtain ⟨b0, b1, b2, b3⟩ := HB.out
  obtain ⟨e0, e1, e2, e3⟩ := HX.out
  go_enter Tryz.func22, Tryz.ntmps22
  go_wp2_with fail
  rw [HW.out]
  refine (EN.out W HK.out).mono ?_
  rintro e w1 ⟨rfl, hK1⟩
  have K1 := Lib.hid hK1
  clear b0 b1 b2 b3 e0 e1 e2 e3 hK1
  generalize enE x.key x.day x.lns = ek at *
  obtain ⟨⟨r0, r1, r2, r3⟩, f0, f1, f2⟩ := HR.out.later K1.out
  have FK := Lib.hid ((HK.out.trans (K1.out)).set3 (p := w.heap.size + 1 + 1) hle (.slice none 0 0) (.slice none 0 0) (.int .i64 0))
  go_wp2
  exact bodyPost_ret (v := .tuple #[.agg #[.slice none 0 0, .slice none 0 0, .int .i64 0], .int .i64 ek]) (by simp [results, Tryz.results22, go_sem, r1, r2, r3]) rfl ⟨rfl, FK.out⟩
set_option maxRecDepth 100000 in
set_option maxHeartbeats 4000000 in
theorem rpost_there (q : BkA) (b : Bk) (x : Et) (a : Option Addr) (cap : Nat) (w : World) (hM : BkM w q b) (hx : EtM w x a cap) (gd : Good b) (en : enE x.key x.day x.lns = 0) (hk : kyI x.key b.ens < b.ens.length) (sm : smB x b.ens[kyI x.key b.ens] = false) :
    Calls Tryz.prog 22 #[bkV q b, enV x.key x.day a x.lns.length cap] w (BkNo w 5) := by
  obtain ⟨x1, x2, x3, x4, x5, x6⟩ := id hx
  have kE := (((Kept.refl w).alloc (bkO q b)).alloc (enO x a cap)).alloc noBk
  have HB := Lib.hid ((BBx.new w q b).later (((Kept.refl (w.alloc (bkO q b))).alloc (enO x a cap)).alloc noBk))
  have HX := Lib.hid ((EBx.newAt (w := w.alloc (bkO q b)) (p := w.heap.size + 1) (by simp) x.key x.day (.slice a x.lns.length cap) 38).later ((Kept.refl ((w.alloc (bkO q b)).alloc (enO x a cap))).alloc noBk))
  have HR := Lib.hid (VBk.none ((w.alloc (bkO q b)).alloc (enO x a cap)) (w.heap.size + 1 + 1) (by simp))
  have EN := Lib.hid (fun V (k : Kept w V) => rentry_any x.key x.day a x.lns cap V x1 x2 (x3.later k) x4)
  have GT := Lib.hid (fun V (k : Kept w V) => (rget_any q b x.key V (hM.later k)).mono fun e w' h => show RgEt V b.ens[kyI x.key b.ens] e w' from by
    rcases h with ⟨_, h⟩ | ⟨h, _⟩
    · exact h
    · exact absurd hk h)
  have yl : (b.ens[kyI x.key b.ens]).lns.length ≤ 12 := gd.lines _ (List.getElem_mem hk)
  have xl := (enE_ok en).2.2.1
  rw [en] at EN
  generalize b.ens[kyI x.key b.ens] = y at *
  clear gd en
  have HM := Lib.hid hM
  have XA := Lib.hid x3
  have hle : w.heap.size ≤ w.heap.size + 1 + 1 := by omega
  generalize hW : ((w.alloc (bkO q b)).alloc (enO x a cap)).alloc noBk = W at HB HX HR kE
  have HW := Lib.hid hW
  have HK := Lib.hid kE
  clear hM hx hW kE x3
  obtain ⟨b0, b1, b2, b3⟩ := HB.out
  obtain ⟨e0, e1, e2, e3⟩ := HX.out
  go_enter Tryz.func22, Tryz.ntmps22
  go_wp2_with fail
  rw [HW.out]
  refine (EN.out W HK.out).mono ?_
  rintro e w1 ⟨rfl, hK1⟩
  have K1 := Lib.hid hK1
  clear b0 b1 b2 b3 e0 e1 e2 e3 hK1
  obtain ⟨b0, b1, b2, b3⟩ := HB.out.later K1.out
  obtain ⟨e0, e1, e2, e3⟩ := HX.out.later K1.out
  go_wp2_with fail
  refine (GT.out w1 (HK.out.trans K1.out)).mono ?_
  rintro e w2 ⟨ya, yc, rfl, hY, yle, ycm, hK2⟩
  have SA := Lib.hid (fun V (k : Kept w2 V) => rsame_any x y a ya x.lns.length y.lns.length cap yc V (by omega) (by omega) rfl rfl (XA.out.later (HK.out.trans (K1.out.trans (hK2.trans k)))) (hY.later k))
  rw [sm] at SA
  have K2 := Lib.hid (K1.out.trans (hK2.alloc (enO y ya yc)))
  have kY := (Kept.refl w2).alloc (enO y ya yc)
  clear b0 b1 b2 b3 e0 e1 e2 e3
  obtain ⟨e0, e1, e2, e3⟩ := HX.out.later (K1.out.trans hK2)
  have EY := Lib.hid (EBx.new w2 y.key y.day (.slice ya y.lns.length yc) 38)
  clear hY hK2 sm
  go_wp2_with fail
  refine (SA.out _ kY).mono ?_
  rintro e w3 ⟨rfl, hK3⟩
  have K3 := Lib.hid (K2.out.trans hK3)
  clear e0 e1 e2 e3 hK3
  obtain ⟨⟨r0, r1, r2, r3⟩, f0, f1, f2⟩ := HR.out.later K3.out
  have FK := Lib.hid ((HK.out.trans (K3.out)).set3 (p := w.heap.size + 1 + 1) hle (.slice none 0 0) (.slice none 0 0) (.int .i64 0))
  go_wp2
  exact bodyPost_ret (v := .tuple #[.agg #[.slice none 0 0, .slice none 0 0, .int .i64 0], .int .i64 5]) (by simp [results, Tryz.results22, go_sem, r1, r2, r3]) rfl ⟨rfl, FK.out⟩
set_option maxRecDepth 100000 in
set_option maxHeartbeats 4000000 in
theorem rpost_old (q : BkA) (b : Bk) (x : Et) (a : Option Addr) (cap : Nat) (w : World) (hM : BkM w q b) (hx : EtM w x a cap) (gd : Good b) (en : enE x.key x.day x.lns = 0) (hk : kyI x.key b.ens < b.ens.length) (sm : smB x b.ens[kyI x.key b.ens] = true) :
    Calls Tryz.prog 22 #[bkV q b, enV x.key x.day a x.lns.length cap] w (fun e w' => e = .returned (.tuple #[bkV q b, .int .i64 0]) ∧ Kept w w') := by
  obtain ⟨x1, x2, x3, x4, x5, x6⟩ := id hx
  have kE := (((Kept.refl w).alloc (bkO q b)).alloc (enO x a cap)).alloc noBk
  have HB := Lib.hid ((BBx.new w q b).later (((Kept.refl (w.alloc (bkO q b))).alloc (enO x a cap)).alloc noBk))
  have HX := Lib.hid ((EBx.newAt (w := w.alloc (bkO q b)) (p := w.heap.size + 1) (by simp) x.key x.day (.slice a x.lns.length cap) 38).later ((Kept.refl ((w.alloc (bkO q b)).alloc (enO x a cap))).alloc noBk))
  have HR := Lib.hid (VBk.none ((w.alloc (bkO q b)).alloc (enO x a cap)) (w.heap.size + 1 + 1) (by simp))
  have EN := Lib.hid (fun V (k : Kept w V) => rentry_any x.key x.day a x.lns cap V x1 x2 (x3.later k) x4)
  have GT := Lib.hid (fun V (k : Kept w V) => (rget_any q b x.key V (hM.later k)).mono fun e w' h => show RgEt V b.ens[kyI x.key b.ens] e w' from by
    rcases h with ⟨_, h⟩ | ⟨h, _⟩
    · exact h
    · exact absurd hk h)
  have yl : (b.ens[kyI x.key b.ens]).lns.length ≤ 12 := gd.lines _ (List.getElem_mem hk)
  have xl := (enE_ok en).2.2.1
  rw [en] at EN
  generalize b.ens[kyI x.key b.ens] = y at *
  clear gd en
  have HM := Lib.hid hM
  have XA := Lib.hid x3
  have hle : w.heap.size ≤ w.heap.size + 1 + 1 := by omega
  generalize hW : ((w.alloc (bkO q b)).alloc (enO x a cap)).alloc noBk = W at HB HX HR kE
  have HW := Lib.hid hW
  have HK := Lib.hid kE
  clear hM hx hW kE x3
  obtain ⟨b0, b1, b2, b3⟩ := HB.out
  obtain ⟨e0, e1, e2, e3⟩ := HX.out
  go_enter Tryz.func22, Tryz.ntmps22
  go_wp2_with fail
  rw [HW.out]
  refine (EN.out W HK.out).mono ?_
  rintro e w1 ⟨rfl, hK1⟩
  have K1 := Lib.hid hK1
  clear b0 b1 b2 b3 e0 e1 e2 e3 hK1
  obtain ⟨b0, b1, b2, b3⟩ := HB.out.later K1.out
  obtain ⟨e0, e1, e2, e3⟩ := HX.out.later K1.out
  go_wp2_with fail
  refine (GT.out w1 (HK.out.trans K1.out)).mono ?_
  rintro e w2 ⟨ya, yc, rfl, hY, yle, ycm, hK2⟩
  have SA := Lib.hid (fun V (k : Kept w2 V) => rsame_any x y a ya x.lns.length y.lns.length cap yc V (by omega) (by omega) rfl rfl (XA.out.later (HK.out.trans (K1.out.trans (hK2.trans k)))) (hY.later k))
  rw [sm] at SA
  have K2 := Lib.hid (K1.out.trans (hK2.alloc (enO y ya yc)))
  have kY := (Kept.refl w2).alloc (enO y ya yc)
  clear b0 b1 b2 b3 e0 e1 e2 e3
  obtain ⟨e0, e1, e2, e3⟩ := HX.out.later (K1.out.trans hK2)
  have EY := Lib.hid (EBx.new w2 y.key y.day (.slice ya y.lns.length yc) 38)
  clear hY hK2 sm
  go_wp2_with fail
  refine (SA.out _ kY).mono ?_
  rintro e w3 ⟨rfl, hK3⟩
  have K3 := Lib.hid (K2.out.trans hK3)
  clear e0 e1 e2 e3 hK3
  obtain ⟨b0, b1, b2, b3⟩ := HB.out.later K3.out
  obtain ⟨⟨r0, r1, r2, r3⟩, f0, f1, f2⟩ := HR.out.later K3.out
  have FK := Lib.hid ((HK.out.trans K3.out).set3 (p := w.heap.size + 1 + 1) hle (.slice q.aa b.acs.length q.ca) (.slice q.ae b.ens.length q.ce) (.int .i64 b.shut))
  go_wp2
  exact bodyPost_ret (v := .tuple #[bkV q b, .int .i64 0]) (by simp [results, Tryz.results22, go_sem, r1, r2, r3]) rfl ⟨rfl, FK.out⟩
set_option maxRecDepth 100000 in
set_option maxHeartbeats 4000000 in
theorem rpost_none (q : BkA) (b : Bk) (x : Et) (a : Option Addr) (cap : Nat) (w : World) (hM : BkM w q b) (hx : EtM w x a cap) (en : enE x.key x.day x.lns = 0) (hk : ¬ kyI x.key b.ens < b.ens.length) (na : allA b.acs x.lns = false) :
    Calls Tryz.prog 22 #[bkV q b, enV x.key x.day a x.lns.length cap] w (BkNo w 4) := by
  obtain ⟨x1, x2, x3, x4, x5, x6⟩ := id hx
  have kE := (((Kept.refl w).alloc (bkO q b)).alloc (enO x a cap)).alloc noBk
  have HB := Lib.hid ((BBx.new w q b).later (((Kept.refl (w.alloc (bkO q b))).alloc (enO x a cap)).alloc noBk))
  have HX := Lib.hid ((EBx.newAt (w := w.alloc (bkO q b)) (p := w.heap.size + 1) (by simp) x.key x.day (.slice a x.lns.length cap) 38).later ((Kept.refl ((w.alloc (bkO q b)).alloc (enO x a cap))).alloc noBk))
  have HR := Lib.hid (VBk.none ((w.alloc (bkO q b)).alloc (enO x a cap)) (w.heap.size + 1 + 1) (by simp))
  have EN := Lib.hid (fun V (k : Kept w V) => rentry_any x.key x.day a x.lns cap V x1 x2 (x3.later k) x4)
  have GT := Lib.hid (fun V (k : Kept w V) => (rget_any q b x.key V (hM.later k)).mono fun e w' h => show RgNo V e w' from by
    rcases h with ⟨h, _⟩ | ⟨_, h⟩
    · exact absurd h hk
    · exact h)
  rw [en] at EN
  have NA := Lib.hid na
  clear na
  clear en hk
  have HM := Lib.hid hM
  have XA := Lib.hid x3
  have hle : w.heap.size ≤ w.heap.size + 1 + 1 := by omega
  generalize hW : ((w.alloc (bkO q b)).alloc (enO x a cap)).alloc noBk = W at HB HX HR kE
  have HW := Lib.hid hW
  have HK := Lib.hid kE
  clear hM hx hW kE x3
  obtain ⟨b0, b1, b2, b3⟩ := HB.out
  obtain ⟨e0, e1, e2, e3⟩ := HX.out
  go_enter Tryz.func22, Tryz.ntmps22
  go_wp2_with fail
  rw [HW.out]
  refine (EN.out W HK.out).mono ?_
  rintro e w1 ⟨rfl, hK1⟩
  have K1 := Lib.hid hK1
  clear b0 b1 b2 b3 e0 e1 e2 e3 hK1
  obtain ⟨b0, b1, b2, b3⟩ := HB.out.later K1.out
  obtain ⟨e0, e1, e2, e3⟩ := HX.out.later K1.out
  go_wp2_with fail
  refine (GT.out w1 (HK.out.trans K1.out)).mono ?_
  rintro e w2 ⟨rfl, hK2⟩
  have K2 := Lib.hid (K1.out.trans (hK2.alloc noEn))
  have K2' := K1.out.trans hK2
  clear b0 b1 b2 b3 e0 e1 e2 e3 hK2 EN GT K1
  obtain ⟨e0, e1, e2, e3⟩ := HX.out.later K2'
  go_wp2
  clear e0 e1 e2 e3 K2'
  generalize w2.alloc noEn = w3 at *
  go_loopw [34] (fun s wr => ∃ j : Nat, j ≤ x.lns.length ∧ s = .int .i64 j ∧ Hid (∀ y ∈ x.lns.take j, hasB y.1 b.acs = true) ∧ Kept w3 wr) (fun s _ => (x.lns.length - intOf s).toNat)
  case atStart => exact ⟨0, Nat.zero_le _, rfl, Lib.hid (by simp), Kept.refl _⟩
  case round =>
    obtain ⟨j, hj, rfl, hall, hK⟩ := hrel
    have KW := Lib.hid (K2.out.trans hK)
    have K0 := Lib.hid (HK.out.trans KW.out)
    by_cases hlt : j < x.lns.length
    · obtain ⟨p2, off2, hp2, hR2⟩ := (XA.out.later K0.out).at hlt
      have c0 := hR2.c0 j hlt
      have c1 := hR2.c1 j hlt
      have plt := hR2.lt
      have NX := Lib.hid (show hasB (x.lns[j]).1 b.acs = true → ∀ y ∈ x.lns.take (j + 1), hasB y.1 b.acs = true from fun h y hy => by
        rw [List.take_succ_eq_append_getElem hlt, List.mem_append, List.mem_singleton] at hy
        rcases hy with hy | rfl
        · exact hall.out y hy
        · exact h)
      clear hR2
      subst hp2
      generalize x.lns[j] = y at *
      have kL := (Kept.refl wr).alloc (.cells #[.string y.1, .int .i64 y.2] 48)
      have HS := Lib.hid (rhas_any y.1 b.acs q.aa q.ca _ (by have := HM.out.la; have := HM.out.lca; omega) ((HM.out.later (K0.out.trans kL)).acs))
      obtain ⟨b0, b1, b2, b3⟩ := HB.out.later KW.out
      have KL := Lib.hid (hK.trans kL)
      have HLT := Lib.hid hlt
      have u1 : IntKind.i64.wrap ((j : Int) + 1) = (j : Int) + 1 := IntWalk.i64_in _ (by have := x2; unfold maxLen at this; omega)
      clear kL
      cases hz : hasB y.1 b.acs
      · rw [hz] at HS
        go_wp2_with fail
        refine HS.out.mono ?_
        rintro e w5 ⟨rfl, hK5⟩
        have KF := Lib.hid (K2.out.trans (KL.out.trans hK5))
        clear b0 b1 b2 b3 c0 c1 plt hK5
        obtain ⟨⟨r0, r1, r2, r3⟩, f0, f1, f2⟩ := HR.out.later KF.out
        have FK := Lib.hid ((HK.out.trans (KF.out)).set3 (p := w.heap.size + 1 + 1) hle (.slice none 0 0) (.slice none 0 0) (.int .i64 0))
        go_wp2
        exact bodyPost_ret (v := .tuple #[.agg #[.slice none 0 0, .slice none 0 0, .int .i64 0], .int .i64 4]) (by simp [results, Tryz.results22, go_sem, r1, r2, r3]) rfl ⟨rfl, FK.out⟩
      · rw [hz] at HS
        have NX2 := Lib.hid (NX.out hz)
        clear hz NX
        go_wp2_with fail
        refine HS.out.mono ?_
        rintro e w5 ⟨rfl, hK5⟩
        have KF := Lib.hid (KL.out.trans hK5)
        clear b0 b1 b2 b3 c0 c1 plt hK5
        go_wp2
        go_roundw
        case rel => exact ⟨j + 1, HLT.out, by go_num, NX2, KF.out⟩
        case measure => have := HLT.out; simp [intOf]; omega
    · obtain rfl : j = x.lns.length := by omega
      have := hall.out
      rw [List.take_length, ← allA_iff, NA.out] at this
      cases this
set_option maxRecDepth 100000 in
set_option maxHeartbeats 4000000 in
theorem rpost_shut (q : BkA) (b : Bk) (x : Et) (a : Option Addr) (cap : Nat) (w : World) (hM : BkM w q b) (hx : EtM w x a cap) (en : enE x.key x.day x.lns = 0) (hk : ¬ kyI x.key b.ens < b.ens.length) (hacc : ∀ y ∈ x.lns, hasB y.1 b.acs = true) (hsh : x.day ≤ b.shut) :
    Calls Tryz.prog 22 #[bkV q b, enV x.key x.day a x.lns.length cap] w (BkNo w 9) := by
  obtain ⟨x1, x2, x3, x4, x5, x6⟩ := id hx
  have kE := (((Kept.refl w).alloc (bkO q b)).alloc (enO x a cap)).alloc noBk
  have HB := Lib.hid ((BBx.new w q b).later (((Kept.refl (w.alloc (bkO q b))).alloc (enO x a cap)).alloc noBk))
  have HX := Lib.hid ((EBx.newAt (w := w.alloc (bkO q b)) (p := w.heap.size + 1) (by simp) x.key x.day (.slice a x.lns.length cap) 38).later ((Kept.refl ((w.alloc (bkO q b)).alloc (enO x a cap))).alloc noBk))
  have HR := Lib.hid (VBk.none ((w.alloc (bkO q b)).alloc (enO x a cap)) (w.heap.size + 1 + 1) (by simp))
  have EN := Lib.hid (fun V (k : Kept w V) => rentry_any x.key x.day a x.lns cap V x1 x2 (x3.later k) x4)
  have GT := Lib.hid (fun V (k : Kept w V) => (rget_any q b x.key V (hM.later k)).mono fun e w' h => show RgNo V e w' from by
    rcases h with ⟨h, _⟩ | ⟨_, h⟩
    · exact absurd h hk
    · exact h)
  rw [en] at EN
  have AC := Lib.hid hacc
  have sh : decide (x.day ≤ b.shut) = true := by simpa using hsh
  clear hacc
  clear en hk
  have HM := Lib.hid hM
  have XA := Lib.hid x3
  have hle : w.heap.size ≤ w.heap.size + 1 + 1 := by omega
  generalize hW : ((w.alloc (bkO q b)).alloc (enO x a cap)).alloc noBk = W at HB HX HR kE
  have HW := Lib.hid hW
  have HK := Lib.hid kE
  clear hM hx hW kE x3
  obtain ⟨b0, b1, b2, b3⟩ := HB.out
  obtain ⟨e0, e1, e2, e3⟩ := HX.out
  go_enter Tryz.func22, Tryz.ntmps22
  go_wp2_with fail
  rw [HW.out]
  refine (EN.out W HK.out).mono ?_
  rintro e w1 ⟨rfl, hK1⟩
  have K1 := Lib.hid hK1
  clear b0 b1 b2 b3 e0 e1 e2 e3 hK1
  obtain ⟨b0, b1, b2, b3⟩ := HB.out.later K1.out
  obtain ⟨e0, e1, e2, e3⟩ := HX.out.later K1.out
  go_wp2_with fail
  refine (GT.out w1 (HK.out.trans K1.out)).mono ?_
  rintro e w2 ⟨rfl, hK2⟩
  have K2 := Lib.hid (K1.out.trans (hK2.alloc noEn))
  have K2' := K1.out.trans hK2
  clear b0 b1 b2 b3 e0 e1 e2 e3 hK2 EN GT K1
  obtain ⟨e0, e1, e2, e3⟩ := HX.out.later K2'
  go_wp2
  clear e0 e1 e2 e3 K2'
  generalize w2.alloc noEn = w3 at *
  go_loopw [34] (fun s wr => ∃ j : Nat, j ≤ x.lns.length ∧ s = .int .i64 j ∧ Hid (∀ y ∈ x.lns.take j, hasB y.1 b.acs = true) ∧ Kept w3 wr) (fun s _ => (x.lns.length - intOf s).toNat)
  case atStart => exact ⟨0, Nat.zero_le _, rfl, Lib.hid (by simp), Kept.refl _⟩
  case round =>
    obtain ⟨j, hj, rfl, hall, hK⟩ := hrel
    have KW := Lib.hid (K2.out.trans hK)
    have K0 := Lib.hid (HK.out.trans KW.out)
    by_cases hlt : j < x.lns.length
    · obtain ⟨p2, off2, hp2, hR2⟩ := (XA.out.later K0.out).at hlt
      have c0 := hR2.c0 j hlt
      have c1 := hR2.c1 j hlt
      have plt := hR2.lt
      have NX := Lib.hid (show hasB (x.lns[j]).1 b.acs = true → ∀ y ∈ x.lns.take (j + 1), hasB y.1 b.acs = true from fun h y hy => by
        rw [List.take_succ_eq_append_getElem hlt, List.mem_append, List.mem_singleton] at hy
        rcases hy with hy | rfl
        · exact hall.out y hy
        · exact h)
      have MY := Lib.hid (List.getElem_mem hlt)
      clear hR2
      subst hp2
      generalize x.lns[j] = y at *
      have kL := (Kept.refl wr).alloc (.cells #[.string y.1, .int .i64 y.2] 48)
      have HS := Lib.hid (rhas_any y.1 b.acs q.aa q.ca _ (by have := HM.out.la; have := HM.out.lca; omega) ((HM.out.later (K0.out.trans kL)).acs))
      obtain ⟨b0, b1, b2, b3⟩ := HB.out.later KW.out
      have KL := Lib.hid (hK.trans kL)
      have HLT := Lib.hid hlt
      have u1 : IntKind.i64.wrap ((j : Int) + 1) = (j : Int) + 1 := IntWalk.i64_in _ (by have := x2; unfold maxLen at this; omega)
      clear kL
      cases hz : hasB y.1 b.acs
      · rw [hz] at HS
        exact (absurd hz (by rw [AC.out _ MY.out]; simp))
      · rw [hz] at HS
        have NX2 := Lib.hid (NX.out hz)
        clear hz NX
        go_wp2_with fail
        refine HS.out.mono ?_
        rintro e w5 ⟨rfl, hK5⟩
        have KF := Lib.hid (KL.out.trans hK5)
        clear b0 b1 b2 b3 c0 c1 plt hK5
        go_wp2
        go_roundw
        case rel => exact ⟨j + 1, HLT.out, by go_num, NX2, KF.out⟩
        case measure => have := HLT.out; simp [intOf]; omega
    · obtain rfl : j = x.lns.length := by omega
      clear hlt
      obtain ⟨b0, b1, b2, b3⟩ := HB.out.later KW.out
      obtain ⟨e0, e1, e2, e3⟩ := HX.out.later KW.out
      obtain ⟨⟨r0, r1, r2, r3⟩, f0, f1, f2⟩ := HR.out.later KW.out
      have FK := Lib.hid ((HK.out.trans (KW.out)).set3 (p := w.heap.size + 1 + 1) hle (.slice none 0 0) (.slice none 0 0) (.int .i64 0))
      go_wp2
      exact bodyPost_ret (v := .tuple #[.agg #[.slice none 0 0, .slice none 0 0, .int .i64 0], .int .i64 9]) (by simp [results, Tryz.results22, go_sem, r1, r2, r3]) rfl ⟨rfl, FK.out⟩
set_option maxRecDepth 100000 in
set_option maxHeartbeats 4000000 in
theorem rpost_large (q : BkA) (b : Bk) (x : Et) (a : Option Addr) (cap : Nat) (w : World) (hM : BkM w q b) (hx : EtM w x a cap) (en : enE x.key x.day x.lns = 0) (hk : ¬ kyI x.key b.ens < b.ens.length) (hacc : ∀ y ∈ x.lns, hasB y.1 b.acs = true) (hsh : ¬ x.day ≤ b.shut) (h60 : 60 ≤ b.ens.length) :
    Calls Tryz.prog 22 #[bkV q b, enV x.key x.day a x.lns.length cap] w (BkNo w 2) := by
  obtain ⟨x1, x2, x3, x4, x5, x6⟩ := id hx
  have kE := (((Kept.refl w).alloc (bkO q b)).alloc (enO x a cap)).alloc noBk
  have HB := Lib.hid ((BBx.new w q b).later (((Kept.refl (w.alloc (bkO q b))).alloc (enO x a cap)).alloc noBk))
  have HX := Lib.hid ((EBx.newAt (w := w.alloc (bkO q b)) (p := w.heap.size + 1) (by simp) x.key x.day (.slice a x.lns.length cap) 38).later ((Kept.refl ((w.alloc (bkO q b)).alloc (enO x a cap))).alloc noBk))
  have HR := Lib.hid (VBk.none ((w.alloc (bkO q b)).alloc (enO x a cap)) (w.heap.size + 1 + 1) (by simp))
  have EN := Lib.hid (fun V (k : Kept w V) => rentry_any x.key x.day a x.lns cap V x1 x2 (x3.later k) x4)
  have GT := Lib.hid (fun V (k : Kept w V) => (rget_any q b x.key V (hM.later k)).mono fun e w' h => show RgNo V e w' from by
    rcases h with ⟨h, _⟩ | ⟨_, h⟩
    · exact absurd h hk
    · exact h)
  rw [en] at EN
  have AC := Lib.hid hacc
  have sh : decide (x.day ≤ b.shut) = false := by simpa using hsh
  have g60 : decide ((60 : Int) ≤ (b.ens.length : Int)) = true := by simp; omega
  have g61 : decide (60 ≤ b.ens.length) = true := by simp; omega
  clear hacc
  clear en hk
  have HM := Lib.hid hM
  have XA := Lib.hid x3
  have hle : w.heap.size ≤ w.heap.size + 1 + 1 := by omega
  generalize hW : ((w.alloc (bkO q b)).alloc (enO x a cap)).alloc noBk = W at HB HX HR kE
  have HW := Lib.hid hW
  have HK := Lib.hid kE
  clear hM hx hW kE x3
  obtain ⟨b0, b1, b2, b3⟩ := HB.out
  obtain ⟨e0, e1, e2, e3⟩ := HX.out
  go_enter Tryz.func22, Tryz.ntmps22
  go_wp2_with fail
  rw [HW.out]
  refine (EN.out W HK.out).mono ?_
  rintro e w1 ⟨rfl, hK1⟩
  have K1 := Lib.hid hK1
  clear b0 b1 b2 b3 e0 e1 e2 e3 hK1
  obtain ⟨b0, b1, b2, b3⟩ := HB.out.later K1.out
  obtain ⟨e0, e1, e2, e3⟩ := HX.out.later K1.out
  go_wp2_with fail
  refine (GT.out w1 (HK.out.trans K1.out)).mono ?_
  rintro e w2 ⟨rfl, hK2⟩
  have K2 := Lib.hid (K1.out.trans (hK2.alloc noEn))
  have K2' := K1.out.trans hK2
  clear b0 b1 b2 b3 e0 e1 e2 e3 hK2 EN GT K1
  obtain ⟨e0, e1, e2, e3⟩ := HX.out.later K2'
  go_wp2
  clear e0 e1 e2 e3 K2'
  generalize w2.alloc noEn = w3 at *
  go_loopw [34] (fun s wr => ∃ j : Nat, j ≤ x.lns.length ∧ s = .int .i64 j ∧ Hid (∀ y ∈ x.lns.take j, hasB y.1 b.acs = true) ∧ Kept w3 wr) (fun s _ => (x.lns.length - intOf s).toNat)
  case atStart => exact ⟨0, Nat.zero_le _, rfl, Lib.hid (by simp), Kept.refl _⟩
  case round =>
    obtain ⟨j, hj, rfl, hall, hK⟩ := hrel
    have KW := Lib.hid (K2.out.trans hK)
    have K0 := Lib.hid (HK.out.trans KW.out)
    by_cases hlt : j < x.lns.length
    · obtain ⟨p2, off2, hp2, hR2⟩ := (XA.out.later K0.out).at hlt
      have c0 := hR2.c0 j hlt
      have c1 := hR2.c1 j hlt
      have plt := hR2.lt
      have NX := Lib.hid (show hasB (x.lns[j]).1 b.acs = true → ∀ y ∈ x.lns.take (j + 1), hasB y.1 b.acs = true from fun h y hy => by
        rw [List.take_succ_eq_append_getElem hlt, List.mem_append, List.mem_singleton] at hy
        rcases hy with hy | rfl
        · exact hall.out y hy
        · exact h)
      have MY := Lib.hid (List.getElem_mem hlt)
      clear hR2
      subst hp2
      generalize x.lns[j] = y at *
      have kL := (Kept.refl wr).alloc (.cells #[.string y.1, .int .i64 y.2] 48)
      have HS := Lib.hid (rhas_any y.1 b.acs q.aa q.ca _ (by have := HM.out.la; have := HM.out.lca; omega) ((HM.out.later (K0.out.trans kL)).acs))
      obtain ⟨b0, b1, b2, b3⟩ := HB.out.later KW.out
      have KL := Lib.hid (hK.trans kL)
      have HLT := Lib.hid hlt
      have u1 : IntKind.i64.wrap ((j : Int) + 1) = (j : Int) + 1 := IntWalk.i64_in _ (by have := x2; unfold maxLen at this; omega)
      clear kL
      cases hz : hasB y.1 b.acs
      · rw [hz] at HS
        exact (absurd hz (by rw [AC.out _ MY.out]; simp))
      · rw [hz] at HS
        have NX2 := Lib.hid (NX.out hz)
        clear hz NX
        go_wp2_with fail
        refine HS.out.mono ?_
        rintro e w5 ⟨rfl, hK5⟩
        have KF := Lib.hid (KL.out.trans hK5)
        clear b0 b1 b2 b3 c0 c1 plt hK5
        go_wp2
        go_roundw
        case rel => exact ⟨j + 1, HLT.out, by go_num, NX2, KF.out⟩
        case measure => have := HLT.out; simp [intOf]; omega
    · obtain rfl : j = x.lns.length := by omega
      clear hlt
      obtain ⟨b0, b1, b2, b3⟩ := HB.out.later KW.out
      obtain ⟨e0, e1, e2, e3⟩ := HX.out.later KW.out
      obtain ⟨⟨r0, r1, r2, r3⟩, f0, f1, f2⟩ := HR.out.later KW.out
      have FK := Lib.hid ((HK.out.trans (KW.out)).set3 (p := w.heap.size + 1 + 1) hle (.slice none 0 0) (.slice none 0 0) (.int .i64 0))
      go_wp2
      exact bodyPost_ret (v := .tuple #[.agg #[.slice none 0 0, .slice none 0 0, .int .i64 0], .int .i64 2]) (by simp [results, Tryz.results22, go_sem, r1, r2, r3]) rfl ⟨rfl, FK.out⟩
end Go.Proofs.YtbaahnafmfjpaaaGreatDoor

/-
  The reference's Post and Get and the code's, at every input, to a good book. No condition but those that each theorem names.
-/
namespace Go.Proofs.YtbaahnafmfjpaaaGreatDoor
open Go.RowKit
set_option linter.unusedVariables false

/-- The book that a posting returns. -/
def poY (b : Bk) (x : Et) : Bk := if poE b x = 0 then poV b x else noB
theorem noB_mz (w : World) : BkM w noA noB :=
  ⟨.inl rfl, (fun x hx => by cases hx), Nat.le_refl _, (show (0 : Nat) ≤ maxLen by unfold maxLen; decide), .inl rfl, (fun x hx => by cases hx), Nat.le_refl _, (show (0 : Nat) ≤ maxLen by unfold maxLen; decide)⟩
/-- A book and an error. -/
def RpAny (w : World) (y : Bk) (er : Int) (e : Ending) (w' : World) : Prop := ∃ q, e = .returned (.tuple #[bkV q y, .int .i64 er]) ∧ BkM w' q y ∧ Kept w w'
theorem RpAny.no {w w' : World} {er : Int} {e : Ending} (h : BkNo w er e w') : RpAny w noB er e w' := ⟨noA, h.1, noB_mz _, h.2⟩
theorem rpost_any (q : BkA) (b : Bk) (x : Et) (a : Option Addr) (cap : Nat) (w : World) (hM : BkM w q b) (hx : EtM w x a cap) (gd : Good b) :
    Calls Tryz.prog 22 #[bkV q b, enV x.key x.day a x.lns.length cap] w (RpAny w (poY b x) (poE b x)) := by
  have P : ∀ r, poE b x = r → r ≠ 0 → poY b x = noB ∧ poE b x = r := fun r h h0 => ⟨by unfold poY; rw [if_neg (by rw [h]; exact h0)], h⟩
  have go : ∀ r, poE b x = r → r ≠ 0 → Calls Tryz.prog 22 #[bkV q b, enV x.key x.day a x.lns.length cap] w (BkNo w r) → Calls Tryz.prog 22 #[bkV q b, enV x.key x.day a x.lns.length cap] w (RpAny w (poY b x) (poE b x)) := fun r h h0 hc => by
    rw [(P r h h0).1, (P r h h0).2]
    exact hc.mono fun e w' h => RpAny.no h
  have b0 := bkE_iff.2 gd
  by_cases en : enE x.key x.day x.lns = 0
  · by_cases hk : kyI x.key b.ens < b.ens.length
    · have E : poE b x = if smB b.ens[kyI x.key b.ens] x = true then 0 else 5 := by unfold poE; rw [if_pos b0, if_pos en, dif_pos hk]
      have S : smB x b.ens[kyI x.key b.ens] = smB b.ens[kyI x.key b.ens] x := by
        rw [Bool.eq_iff_iff, smB_iff, smB_iff]; exact ⟨fun h => h.symm, fun h => h.symm⟩
      cases sm : smB b.ens[kyI x.key b.ens] x
      · rw [sm] at E S
        exact go 5 (by rw [E]; rfl) (by decide) (rpost_there q b x a cap w hM hx gd en hk S)
      · rw [sm] at E S
        have E0 : poE b x = 0 := by rw [E]; rfl
        have Y : poY b x = b := by unfold poY; rw [if_pos E0]; unfold poV; rw [if_pos hk]
        rw [Y, E0]
        refine (rpost_old q b x a cap w hM hx gd en hk S).mono fun e w' h => ?_
        exact ⟨q, h.1, hM.later h.2, h.2⟩
    · have E : poE b x = nwE b x := by unfold poE; rw [if_pos b0, if_pos en, dif_neg hk]
      cases na : allA b.acs x.lns
      · exact go 4 (by rw [E]; unfold nwE; rw [if_neg (by rw [na]; simp)]) (by decide) (rpost_none q b x a cap w hM hx en hk na)
      · have hacc := allA_iff.1 na
        by_cases hsh : x.day ≤ b.shut
        · exact go 9 (by rw [E]; unfold nwE; rw [if_pos na, if_pos hsh]) (by decide) (rpost_shut q b x a cap w hM hx en hk hacc hsh)
        · by_cases h60 : 60 ≤ b.ens.length
          · exact go 2 (by rw [E]; unfold nwE; rw [if_pos na, if_neg hsh, if_pos h60]) (by decide) (rpost_large q b x a cap w hM hx en hk hacc hsh h60)
          · have E0 : poE b x = 0 := by rw [E]; unfold nwE; rw [if_pos na, if_neg hsh, if_neg h60]
            have Y : poY b x = ⟨b.acs, insE x b.ens, b.shut⟩ := by unfold poY; rw [if_pos E0]; unfold poV; rw [if_neg hk]
            rw [Y, E0]
            refine (rpost_new q b x a cap w hM hx gd en hk hacc hsh (by omega)).mono fun e w' h => ?_
            obtain ⟨p, c, rfl, hR, h1, h2, hK⟩ := h
            refine ⟨⟨q.aa, q.ca, some ⟨p, 0, none⟩, c⟩, by show _ = Ending.returned (.tuple #[.agg #[_, .slice _ (insE x b.ens).length _, _], _]); rw [insE_len], ⟨(hM.later hK).acs, hM.sha, hM.la, hM.lca, .inr ⟨p, 0, rfl, hR⟩, fun y hy => ?_, (by rw [insE_len]; exact h1), h2⟩, hK⟩
            rcases insE_mem.1 hy with rfl | hy
            · exact ⟨hx.key, hx.len, hx.sh⟩
            · exact hM.she y hy
  · exact go _ (by unfold poE; rw [if_pos b0, if_neg en]) en (rpost_en q b x a cap w hM hx en)
theorem post_any (q : BkA) (b : Bk) (x : Et) (a : Option Addr) (cap : Nat) (w : World) (hM : BkM w q b) (hx : EtM w x a cap) :
    Calls Tryz.prog 12 #[bkV q b, enV x.key x.day a x.lns.length cap] w (RpAny w (poY b x) (poE b x)) := by
  by_cases h : poE b x = 0
  · have Y : poY b x = poV b x := by unfold poY; rw [if_pos h]
    rw [Y, h]
    refine (post_yes q b x a cap w hM hx h).mono fun e w' hh => ?_
    obtain ⟨q', e1, hF, hk⟩ := hh
    exact ⟨q', e1, hF.m, hk⟩
  · have Y : poY b x = noB := by unfold poY; rw [if_neg h]
    rw [Y]
    exact (post_no q b x a cap w hM hx h).mono fun e w' hh => RpAny.no hh
/-- The books that are returned are small. -/
theorem poY_small {b : Bk} {x : Et} : (poY b x).acs.length ≤ 24 ∧ (poY b x).ens.length ≤ 60 ∧ ∀ y ∈ (poY b x).ens, y.lns.length ≤ 12 := by
  unfold poY
  by_cases h : poE b x = 0
  · rw [if_pos h]
    have g := (Good.post h).1
    exact ⟨g.a24, g.many, g.lines⟩
  · rw [if_neg h]
    exact ⟨Nat.zero_le _, Nat.zero_le _, fun y hy => by cases hy⟩
/-! One entry that is asked for. -/
def noEy : Et := ⟨⟨#[]⟩, 0, []⟩
/-- The entry with a key, or none. -/
def gtX (k : ByteArray) (l : List Et) : Et := if h : kyI k l < l.length then l[kyI k l] else noEy
def GtAny (w : World) (x : Et) (er : Int) (e : Ending) (w' : World) : Prop := ∃ a cap, e = .returned (.tuple #[enV x.key x.day a x.lns.length cap, .int .i64 er]) ∧ PArg w' a x.lns ∧ Kept w w'
def RgAny (w : World) (x : Et) (f : Bool) (e : Ending) (w' : World) : Prop := ∃ a cap, e = .returned (.tuple #[enV x.key x.day a x.lns.length cap, .bool f]) ∧ PArg w' a x.lns ∧ Kept w w'
theorem get_all (q : BkA) (b : Bk) (k : ByteArray) (w : World) (hM : BkM w q b) (gd : Good b) :
    Calls Tryz.prog 14 #[bkV q b, .string k] w (GtAny w (gtX k b.ens) (if kyI k b.ens < b.ens.length then 0 else 4)) := by
  by_cases h : kyI k b.ens < b.ens.length
  · rw [if_pos h]
    have X : gtX k b.ens = b.ens[kyI k b.ens] := by unfold gtX; rw [dif_pos h]
    rw [X]
    refine (get_yes q b k w hM gd _ rfl h).mono fun e w' hh => ?_
    obtain ⟨p, _, e1, hO, hk⟩ := hh
    exact ⟨some ⟨p, 0, none⟩, _, e1, hO.parg, hk⟩
  · rw [if_neg h]
    have X : gtX k b.ens = noEy := by unfold gtX; rw [dif_neg h]
    have E : gtE b k = 4 := by unfold gtE; rw [if_pos (bkE_iff.2 gd), if_neg h]
    have G := get_no q b k w hM (by rw [E]; decide)
    rw [E] at G
    rw [X]
    exact G.mono fun e w' hh => ⟨none, 0, hh.1, .inl rfl, hh.2⟩
theorem rget_all (q : BkA) (b : Bk) (k : ByteArray) (w : World) (hM : BkM w q b) :
    Calls Tryz.prog 23 #[bkV q b, .string k] w (RgAny w (gtX k b.ens) (decide (kyI k b.ens < b.ens.length))) := by
  refine (rget_any q b k w hM).mono fun e w' hh => ?_
  rcases hh with ⟨h, hh⟩ | ⟨h, hh⟩
  · have X : gtX k b.ens = b.ens[kyI k b.ens] := by unfold gtX; rw [dif_pos h]
    rw [X, decide_eq_true h]
    obtain ⟨a, c, e1, hp, _, _, hk⟩ := hh
    exact ⟨a, c, e1, hp, hk⟩
  · have X : gtX k b.ens = noEy := by unfold gtX; rw [dif_neg h]
    rw [X, decide_eq_false h]
    exact ⟨none, 0, hh.1, .inl rfl, hh.2⟩
theorem gtX_12 {b : Bk} (gd : Good b) (k : ByteArray) : (gtX k b.ens).lns.length ≤ 12 := by
  unfold gtX
  split
  · exact gd.lines _ (List.getElem_mem _)
  · exact Nat.zero_le _
end Go.Proofs.YtbaahnafmfjpaaaGreatDoor
