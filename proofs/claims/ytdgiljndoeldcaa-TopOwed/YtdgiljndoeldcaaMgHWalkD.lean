import Derived.Test.YtdgiljndoeldcaaHWalkC
import Derived.StillTailTactics
/-
  What package book's Shut and Get return. No condition but those that each theorem names.
-/
namespace Go.Proofs.Ytdgiljndoeldcaa
open Go.RowKit
set_option linter.unusedVariables false

/-- No book, and an error. -/
def BkNo (w : World) (er : Int) (e : Ending) (w' : World) : Prop := e = .returned (.tuple #[.agg #[.slice none 0 0, .slice none 0 0, .int .i64 0], .int .i64 er]) ∧ Kept w w'
/-- A book of the call's own, and no error. -/
def BkYes (w : World) (b : Bk) (e : Ending) (w' : World) : Prop := ∃ q, e = .returned (.tuple #[bkV q b, .int .i64 0]) ∧ BkF w' w.heap.size q b ∧ Kept w w'
theorem Kept.set3 {a w : World} {p : Nat} (h : Kept a w) (hp : a.heap.size ≤ p) (u v x : Value) : Kept a (((w.setCell ⟨p, 0, none⟩ u).setCell ⟨p, 1, none⟩ v).setCell ⟨p, 2, none⟩ x) := ((h.setAt hp u).setAt hp v).setAt hp x
theorem BkF.set3 {w : World} {B r : Nat} {q : BkA} {b : Bk} (h : BkF w B q b) (hr : r < B) (u v x : Value) : BkF (((w.setCell ⟨r, 0, none⟩ u).setCell ⟨r, 1, none⟩ v).setCell ⟨r, 2, none⟩ x) B q b := ((h.set hr).set hr).set hr
theorem VBk.noneAt (w : World) (q : BkA) (b : Bk) : VBk ((w.alloc (bkO q b)).alloc noBk) (w.heap.size + 1) noA noB := VBk.none _ _ (by simp)
theorem Good.lines {b : Bk} (g : Good b) : ∀ x ∈ b.ens, x.lns.length ≤ 12 := fun x hx => (enE_ok (g.each x hx).1).2.2.1
theorem Good.a24 {b : Bk} (g : Good b) : b.acs.length ≤ 24 := acE_24 g.acs
/-- P38: the error. -/
def shE (b : Bk) (d : Int) : Int := if bkE b = 0 then (if dyB d = true then (if d < b.shut then 9 else 0) else 1) else bkE b
theorem shE_ok {b : Bk} {d : Int} (h : shE b d = 0) : Good b ∧ dyB d = true ∧ ¬ d < b.shut := by
  unfold shE at h
  by_cases h1 : bkE b = 0
  · rw [if_pos h1] at h
    by_cases h2 : dyB d = true
    · rw [if_pos h2] at h
      by_cases h3 : d < b.shut
      · rw [if_pos h3] at h; omega
      · exact ⟨bkE_iff.1 h1, h2, h3⟩
    · rw [if_neg h2] at h; omega
  · rw [if_neg h1] at h; exact absurd h h1
/-- P36: the error. -/
def gtE (b : Bk) (k : ByteArray) : Int := if bkE b = 0 then (if kyI k b.ens < b.ens.length then 0 else 4) else bkE b
abbrev noEn : Obj := .cells #[.string ⟨#[]⟩, .int .i64 0, .slice none 0 0] 64
/-- An entry of the call's own, and no error. -/
def EtYes (w : World) (x : Et) (e : Ending) (w' : World) : Prop := ∃ p, w.heap.size ≤ p ∧ e = .returned (.tuple #[enV x.key x.day (some ⟨p, 0, none⟩) x.lns.length x.lns.length, .int .i64 0]) ∧ POwn w' p x.lns ∧ Kept w w'
end Go.Proofs.Ytdgiljndoeldcaa

/-
  What package book's Post returns. No condition but those that each theorem names.
-/
namespace Go.Proofs.Ytdgiljndoeldcaa
open Go.RowKit
set_option linter.unusedVariables false

abbrev enO (x : Et) (a : Option Addr) (cap : Nat) : Obj := .cells #[.string x.key, .int .i64 x.day, .slice a x.lns.length cap] 64
/-- An entry in memory. -/
structure EtM (w : World) (x : Et) (a : Option Addr) (cap : Nat) : Prop where
  key : x.key.size ≤ maxLen
  len : x.lns.length ≤ maxLen
  lns : PArg w a x.lns
  sh : Shortish x.lns
  le : x.lns.length ≤ cap
  cap : cap ≤ maxLen
theorem EtM.later {w w' : World} {x : Et} {a : Option Addr} {cap : Nat} (h : EtM w x a cap) (k : Kept w w') : EtM w' x a cap := ⟨h.key, h.len, h.lns.later k, h.sh, h.le, h.cap⟩
set_option maxRecDepth 100000 in
set_option maxHeartbeats 4000000 in
theorem post_no (q : BkA) (b : Bk) (x : Et) (a : Option Addr) (cap : Nat) (w : World) (hM : BkM w q b) (hx : EtM w x a cap) (er : poE b x ≠ 0) :
    Calls Try.prog 34 #[bkV q b, enV x.key x.day a x.lns.length cap] w (BkNo w (poE b x)) := by
  have hB := ((BBx.new w q b).later ((Kept.refl (w.alloc (bkO q b))).alloc (enO x a cap))).later ((Kept.refl ((w.alloc (bkO q b)).alloc (enO x a cap))).alloc noBk)
  have hE := (EBx.newAt (w := w.alloc (bkO q b)) (p := w.heap.size + 1) (by simp) x.key x.day (.slice a x.lns.length cap) 64).later ((Kept.refl ((w.alloc (bkO q b)).alloc (enO x a cap))).alloc noBk)
  have hR := VBk.none ((w.alloc (bkO q b)).alloc (enO x a cap)) (w.heap.size + 1 + 1) (by simp)
  have hK2 := (((Kept.refl w).alloc (bkO q b)).alloc (enO x a cap)).alloc noBk
  have hS : (((w.alloc (bkO q b)).alloc (enO x a cap)).alloc noBk).heap.size = w.heap.size + 1 + 1 + 1 := by simp
  have CK := Lib.hid (check_any q b _ (hM.later hK2))
  have hem : b.ens.length ≤ 9223372036854775807 := by have := hM.en; unfold maxLen at this; omega
  generalize hW : ((w.alloc (bkO q b)).alloc (enO x a cap)).alloc noBk = W at hB hE hR hK2 CK hS
  have HW := Lib.hid hW
  have HB := Lib.hid hB
  have HE := Lib.hid hE
  have HR := Lib.hid hR
  have HK := Lib.hid hK2
  have HM := Lib.hid (hM.later hK2)
  have HA := Lib.hid (hx.lns.later hK2)
  have HX := Lib.hid hx
  clear hM hW hB hE hR hK2
  by_cases h1 : bkE b = 0
  · rw [h1] at CK
    have GD := Lib.hid (bkE_iff.1 h1)
    by_cases h2 : enE x.key x.day x.lns = 0
    · have EZ := Lib.hid h2
      have L12 := Lib.hid (enE_ok h2).2.2.1
      have WK := Lib.hid (fun w1 h => withKey_any q b x.key w1 h)
      obtain ⟨i, hi⟩ : ∃ i, kyI x.key b.ens = i := ⟨_, rfl⟩
      rw [hi] at WK
      by_cases hk : i < b.ens.length
      · have h4 : smB b.ens[i] x = false := by
          cases h : smB b.ens[i] x
          · rfl
          · subst hi
            exact absurd (show poE b x = 0 by unfold poE; rw [if_pos h1, if_pos h2, dif_pos hk, if_pos h]) er
        have FIN := Lib.hid (show poE b x = 5 by subst hi; unfold poE; rw [if_pos h1, if_pos h2, dif_pos hk, if_neg (by simp [h4])])
        have SM := Lib.hid h4
        clear h1 h2 er h4 hi
        go_enter Try.func34, Try.ntmps34
        go_wp2_with fail
        rw [HW.out]
        refine CK.out.mono ?_
        rintro e w1 ⟨rfl, hK1⟩
        obtain ⟨e0, e1, e2, e3⟩ := HE.out.later hK1
        go_wp2_with fail
        refine (echeck_any x.key x.day a x.lns cap w1 HX.out.key HX.out.len (HA.out.later hK1) HX.out.sh HX.out.le HX.out.cap).mono ?_
        rintro e w2 ⟨rfl, hK3⟩
        rw [EZ.out]
        have hK4 := hK1.trans hK3
        clear e0 e1 e2 e3 hK1 hK3
        obtain ⟨e0, e1, e2, e3⟩ := HE.out.later hK4
        obtain ⟨d0, d1, d2, d3⟩ := HB.out.later hK4
        go_wp2_with fail
        refine (WK.out w2 (HM.out.later hK4)).mono ?_
        rintro e w3 ⟨rfl, hK5⟩
        have hK6 := hK4.trans hK5
        clear e0 e1 e2 e3 d0 d1 d2 d3 hK4 hK5
        obtain ⟨e0, e1, e2, e3⟩ := HE.out.later hK6
        obtain ⟨d0, d1, d2, d3⟩ := HB.out.later hK6
        have gk : (i : Int) < (b.ens.length : Int) := by omega
        obtain ⟨p, off, hp, hRow⟩ := (HM.out.ens.later hK6).at hk
        obtain ⟨a', cap', c0, c1, c2, _, _, hL⟩ := hRow.at i hk
        have plt := hRow.1
        rw [hp] at d2
        have LL := Lib.hid hL
        have NL := Lib.hid (GD.out.lines _ (List.getElem_mem hk))
        clear hRow hp hL
        generalize b.ens[i] = y at *
        have g1 : (0 : Int) ≤ (i : Int) := by omega
        have g2 : (i : Int) < (b.ens.length : Int) := by omega
        have HK6 := Lib.hid hK6
        clear hK6
        go_wp2_with fail
        go_still_tail 6, (by kernel_rfl)
        change wpList _ _ _ _ _ w3.drew
        have kd := (Kept.refl w3).drew
        go_wp2_with fail
        refine (same_any y x _ _ _ _ _ _ _ (by have := NL.out; omega) (by have := L12.out; omega) rfl rfl (LL.out.later kd) ((HA.out.later HK6.out).later kd)).mono ?_
        rintro e w4 ⟨rfl, hK7⟩
        rw [SM.out]
        have hK8 := HK6.out.trans (kd.trans hK7)
        clear e0 e1 e2 e3 d0 d1 d2 d3 c0 c1 c2 plt hK7 kd
        obtain ⟨⟨r0, r1, r2, r3⟩, f0, f1, f2⟩ := HR.out.later hK8
        have FK := Lib.hid ((HK.out.trans hK8).set3 (p := w.heap.size + 1 + 1) (by omega) (.slice none 0 0) (.slice none 0 0) (.int .i64 0))
        go_wp2
        exact bodyPost_ret (v := .tuple #[.agg #[.slice none 0 0, .slice none 0 0, .int .i64 0], .int .i64 5]) (by simp [results, Try.results34, go_sem, r1, r2, r3]) rfl ⟨by rw [FIN.out], FK.out⟩
      · have FIN := Lib.hid (show poE b x = nwE b x by subst hi; unfold poE; rw [if_pos h1, if_pos h2, dif_neg hk])
        have h4 : (nwE b x != 0) = true := by rw [← FIN.out]; simpa using er
        have gk : ¬ (i : Int) < (b.ens.length : Int) := by omega
        clear h1 h2 er hi hk
        go_enter Try.func34, Try.ntmps34
        go_wp2_with fail
        rw [HW.out]
        refine CK.out.mono ?_
        rintro e w1 ⟨rfl, hK1⟩
        obtain ⟨e0, e1, e2, e3⟩ := HE.out.later hK1
        go_wp2_with fail
        refine (echeck_any x.key x.day a x.lns cap w1 HX.out.key HX.out.len (HA.out.later hK1) HX.out.sh HX.out.le HX.out.cap).mono ?_
        rintro e w2 ⟨rfl, hK3⟩
        rw [EZ.out]
        have hK4 := hK1.trans hK3
        clear e0 e1 e2 e3 hK1 hK3
        obtain ⟨e0, e1, e2, e3⟩ := HE.out.later hK4
        obtain ⟨d0, d1, d2, d3⟩ := HB.out.later hK4
        go_wp2_with fail
        refine (WK.out w2 (HM.out.later hK4)).mono ?_
        rintro e w3 ⟨rfl, hK5⟩
        have hK6 := hK4.trans hK5
        clear e0 e1 e2 e3 d0 d1 d2 d3 hK4 hK5
        obtain ⟨e0, e1, e2, e3⟩ := HE.out.later hK6
        obtain ⟨d0, d1, d2, d3⟩ := HB.out.later hK6
        go_wp2_with fail
        refine (cnew_any q b x a cap w3 (HM.out.later hK6) GD.out.acs (HA.out.later hK6) (by have := L12.out; omega)).mono ?_
        rintro e w4 ⟨rfl, hK7⟩
        have hK8 := hK6.trans hK7
        clear e0 e1 e2 e3 d0 d1 d2 d3 hK6 hK7
        generalize nwE b x = ek at *
        obtain ⟨⟨r0, r1, r2, r3⟩, f0, f1, f2⟩ := HR.out.later hK8
        have FK := Lib.hid ((HK.out.trans hK8).set3 (p := w.heap.size + 1 + 1) (by omega) (.slice none 0 0) (.slice none 0 0) (.int .i64 0))
        go_wp2
        exact bodyPost_ret (v := .tuple #[.agg #[.slice none 0 0, .slice none 0 0, .int .i64 0], .int .i64 ek]) (by simp [results, Try.results34, go_sem, r1, r2, r3]) rfl ⟨by rw [FIN.out], FK.out⟩
    · have FIN := Lib.hid (show poE b x = enE x.key x.day x.lns by unfold poE; rw [if_pos h1, if_neg h2])
      have h4 : (enE x.key x.day x.lns != 0) = true := by simpa using h2
      clear h1 h2 er
      go_enter Try.func34, Try.ntmps34
      go_wp2_with fail
      rw [HW.out]
      refine CK.out.mono ?_
      rintro e w1 ⟨rfl, hK1⟩
      obtain ⟨e0, e1, e2, e3⟩ := HE.out.later hK1
      go_wp2_with fail
      refine (echeck_any x.key x.day a x.lns cap w1 HX.out.key HX.out.len (HA.out.later hK1) HX.out.sh HX.out.le HX.out.cap).mono ?_
      rintro e w2 ⟨rfl, hK3⟩
      have hK4 := hK1.trans hK3
      clear e0 e1 e2 e3 hK1 hK3
      generalize enE x.key x.day x.lns = ek at *
      obtain ⟨⟨r0, r1, r2, r3⟩, f0, f1, f2⟩ := HR.out.later hK4
      have FK := Lib.hid ((HK.out.trans hK4).set3 (p := w.heap.size + 1 + 1) (by omega) (.slice none 0 0) (.slice none 0 0) (.int .i64 0))
      go_wp2
      exact bodyPost_ret (v := .tuple #[.agg #[.slice none 0 0, .slice none 0 0, .int .i64 0], .int .i64 ek]) (by simp [results, Try.results34, go_sem, r1, r2, r3]) rfl ⟨by rw [FIN.out], FK.out⟩
  · have FIN := Lib.hid (show poE b x = bkE b by unfold poE; rw [if_neg h1])
    have h2 : (bkE b != 0) = true := by simpa using h1
    clear h1 er
    generalize bkE b = ek at *
    go_enter Try.func34, Try.ntmps34
    go_wp2_with fail
    rw [HW.out]
    refine CK.out.mono ?_
    rintro e w1 ⟨rfl, hK1⟩
    obtain ⟨⟨r0, r1, r2, r3⟩, f0, f1, f2⟩ := HR.out.later hK1
    have FK := Lib.hid ((HK.out.trans hK1).set3 (p := w.heap.size + 1 + 1) (by omega) (.slice none 0 0) (.slice none 0 0) (.int .i64 0))
    go_wp2
    exact bodyPost_ret (v := .tuple #[.agg #[.slice none 0 0, .slice none 0 0, .int .i64 0], .int .i64 ek]) (by simp [results, Try.results34, go_sem, r1, r2, r3]) rfl ⟨by rw [FIN.out], FK.out⟩
set_option maxRecDepth 100000 in
set_option maxHeartbeats 4000000 in
theorem post_old (q : BkA) (b : Bk) (x : Et) (a : Option Addr) (cap : Nat) (w : World) (hM : BkM w q b) (hx : EtM w x a cap) (gd : Good b) (hm : x ∈ b.ens) :
    Calls Try.prog 34 #[bkV q b, enV x.key x.day a x.lns.length cap] w (BkYes w b) := by
  have hB := ((BBx.new w q b).later ((Kept.refl (w.alloc (bkO q b))).alloc (enO x a cap))).later ((Kept.refl ((w.alloc (bkO q b)).alloc (enO x a cap))).alloc noBk)
  have hE := (EBx.newAt (w := w.alloc (bkO q b)) (p := w.heap.size + 1) (by simp) x.key x.day (.slice a x.lns.length cap) 64).later ((Kept.refl ((w.alloc (bkO q b)).alloc (enO x a cap))).alloc noBk)
  have hR := VBk.none ((w.alloc (bkO q b)).alloc (enO x a cap)) (w.heap.size + 1 + 1) (by simp)
  have hK2 := (((Kept.refl w).alloc (bkO q b)).alloc (enO x a cap)).alloc noBk
  have hS : (((w.alloc (bkO q b)).alloc (enO x a cap)).alloc noBk).heap.size = w.heap.size + 1 + 1 + 1 := by simp
  have CK := Lib.hid (check_any q b _ (hM.later hK2))
  have hem : b.ens.length ≤ 9223372036854775807 := by have := hM.en; unfold maxLen at this; omega
  generalize hW : ((w.alloc (bkO q b)).alloc (enO x a cap)).alloc noBk = W at hB hE hR hK2 CK hS
  have HW := Lib.hid hW
  have HB := Lib.hid hB
  have HE := Lib.hid hE
  have HR := Lib.hid hR
  have HK := Lib.hid hK2
  have HM := Lib.hid (hM.later hK2)
  have HA := Lib.hid (hx.lns.later hK2)
  have HX := Lib.hid hx
  clear hM hW hB hE hR hK2
  rw [bkE_iff.2 gd] at CK
  have GD := Lib.hid gd
  have h2 := (gd.each x hm).1
  have EZ := Lib.hid h2
  have L12 := Lib.hid (enE_ok h2).2.2.1
  have WK := Lib.hid (fun w1 h => withKey_any q b x.key w1 h)
  have hk0 : kyI x.key b.ens < b.ens.length := kyI_lt.2 ⟨x, hm, rfl⟩
  have hs0 : b.ens[kyI x.key b.ens] = x := gd.key_inj (List.getElem_mem _) hm (kyI_at hk0)
  obtain ⟨i, hi, hk, h4⟩ : ∃ i, kyI x.key b.ens = i ∧ ∃ hk : i < b.ens.length, smB b.ens[i] x = true := ⟨_, rfl, hk0, (smB_iff _ _).2 hs0⟩
  rw [hi] at WK
  have SM := Lib.hid h4
  clear h2 h4 hi hs0 hk0 gd hm
  go_enter Try.func34, Try.ntmps34
  go_wp2_with fail
  rw [HW.out]
  refine CK.out.mono ?_
  rintro e w1 ⟨rfl, hK1⟩
  obtain ⟨e0, e1, e2, e3⟩ := HE.out.later hK1
  go_wp2_with fail
  refine (echeck_any x.key x.day a x.lns cap w1 HX.out.key HX.out.len (HA.out.later hK1) HX.out.sh HX.out.le HX.out.cap).mono ?_
  rintro e w2 ⟨rfl, hK3⟩
  rw [EZ.out]
  have hK4 := hK1.trans hK3
  clear e0 e1 e2 e3 hK1 hK3
  obtain ⟨e0, e1, e2, e3⟩ := HE.out.later hK4
  obtain ⟨d0, d1, d2, d3⟩ := HB.out.later hK4
  go_wp2_with fail
  refine (WK.out w2 (HM.out.later hK4)).mono ?_
  rintro e w3 ⟨rfl, hK5⟩
  have hK6 := hK4.trans hK5
  clear e0 e1 e2 e3 d0 d1 d2 d3 hK4 hK5
  obtain ⟨e0, e1, e2, e3⟩ := HE.out.later hK6
  obtain ⟨d0, d1, d2, d3⟩ := HB.out.later hK6
  have gk : (i : Int) < (b.ens.length : Int) := by omega
  obtain ⟨p, off, hp, hRow⟩ := (HM.out.ens.later hK6).at hk
  obtain ⟨a', cap', c0, c1, c2, _, _, hL⟩ := hRow.at i hk
  have plt := hRow.1
  rw [hp] at d2
  have LL := Lib.hid hL
  have NL := Lib.hid (GD.out.lines _ (List.getElem_mem hk))
  clear hRow hp hL
  generalize b.ens[i] = y at *
  have g1 : (0 : Int) ≤ (i : Int) := by omega
  have g2 : (i : Int) < (b.ens.length : Int) := by omega
  have HK6 := Lib.hid hK6
  clear hK6
  go_wp2_with fail
  go_still_tail 6, (by kernel_rfl)
  change wpList _ _ _ _ _ w3.drew
  have kd := (Kept.refl w3).drew
  go_wp2_with fail
  refine (same_any y x _ _ _ _ _ _ _ (by have := NL.out; omega) (by have := L12.out; omega) rfl rfl (LL.out.later kd) ((HA.out.later HK6.out).later kd)).mono ?_
  rintro e w4 ⟨rfl, hK7⟩
  rw [SM.out]
  have hK8 := HK6.out.trans (kd.trans hK7)
  clear e0 e1 e2 e3 d0 d1 d2 d3 c0 c1 c2 plt hK7 kd
  obtain ⟨d0, d1, d2, d3⟩ := HB.out.later hK8
  go_wp2_with fail
  refine (copied_any q b w4 (HM.out.later hK8) GD.out.a24 GD.out.many GD.out.lines).mono ?_
  rintro e w5 ⟨pa, g, rfl, hF, hK9⟩
  have hle : w.heap.size + 1 + 1 < w4.heap.size := by have := hK8.le; omega
  obtain ⟨⟨r0, r1, r2, r3⟩, f0, f1, f2⟩ := HR.out.later (hK8.trans hK9)
  have FF := Lib.hid (hF.set3 (r := w.heap.size + 1 + 1) hle (.slice (some ⟨pa, 0, none⟩) b.acs.length b.acs.length) (.slice (some ⟨g, 0, none⟩) b.ens.length b.ens.length) (.int .i64 b.shut))
  have FK := Lib.hid ((HK.out.trans (hK8.trans hK9)).set3 (p := w.heap.size + 1 + 1) (by omega) (.slice (some ⟨pa, 0, none⟩) b.acs.length b.acs.length) (.slice (some ⟨g, 0, none⟩) b.ens.length b.ens.length) (.int .i64 b.shut))
  clear hF hK9
  go_wp2
  exact bodyPost_ret (v := .tuple #[bkV ⟨some ⟨pa, 0, none⟩, b.acs.length, some ⟨g, 0, none⟩, b.ens.length⟩ b, .int .i64 0]) (by simp [results, Try.results34, go_sem, r1, r2, r3]) rfl ⟨_, rfl, FF.out.mono (by omega), FK.out⟩
end Go.Proofs.Ytdgiljndoeldcaa
