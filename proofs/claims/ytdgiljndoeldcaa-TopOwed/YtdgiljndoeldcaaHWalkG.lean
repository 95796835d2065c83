/-
  What package book's Post returns where the entry is new. No condition but those that each theorem names.
-/
import Derived.Test.YtdgiljndoeldcaaMgHWalkD
namespace Go.Proofs.Ytdgiljndoeldcaa
open Go.RowKit
set_option linter.unusedVariables false

/-- One way from a world to a later one. -/
theorem ins_at (p2 n i p8 : Nat) (cs : List Value) (x : Et) (w6 w8 W : World) (ile : i ≤ n) (hn : n ≤ 60) (hl : cs.length = n * 3) (h1 : ∀ v ∈ cs, v.oneCell' = true) (hlt : p2 < w6.heap.size) (hcs : ∀ j v, cs[j]? = some v → w6.cell? ⟨p2, j, none⟩ = some v) (k6 : Kept w6 w8)
    (k : Kept (w8.alloc (.cells #[.string x.key, .int .i64 x.day, .slice (some ⟨p8, 0, none⟩) x.lns.length x.lns.length] 64)) W) :
    Calls Try.prog 63 #[.slice (some ⟨p2, 0, none⟩) n n, .int .i64 i, .slice (some ⟨w8.heap.size, 0, none⟩) 1 1] W (InsPost W (n + 1) (cs.take (i * 3) ++ [.string x.key, .int .i64 x.day, .slice (some ⟨p8, 0, none⟩) x.lns.length x.lns.length] ++ cs.drop (i * 3))) := by
  have hv := (EBx.new w8 x.key x.day (.slice (some ⟨p8, 0, none⟩) x.lns.length x.lns.length) 64).later k
  have kk : Kept w6 W := (k6.alloc _).trans k
  refine insert_any p2 n i w8.heap.size cs _ W ile hn hl rfl (fun j v hj => (kk.rd.1 p2 j hlt).trans (hcs j v hj)) (fun j v hj => ?_) h1 (fun v hv => ?_) (Nat.lt_of_lt_of_le hlt kk.le) hv.lt
  · match j, hj with
    | 0, hj => simp at hj; subst hj; exact hv.c0
    | 1, hj => simp at hj; subst hj; exact hv.c1
    | 2, hj => simp at hj; subst hj; exact hv.c2
    | k + 3, hj => simp at hj
  · simp at hv
    rcases hv with rfl | rfl | rfl <;> rfl
set_option maxRecDepth 100000 in
set_option maxHeartbeats 8000000 in
theorem post_new (q : BkA) (b : Bk) (x : Et) (a : Option Addr) (cap : Nat) (w : World) (hM : BkM w q b) (hx : EtM w x a cap) (gd : Good b) (ho : OkE b.acs x) (hnk : ∀ e ∈ b.ens, e.key ≠ x.key) (hsh : b.shut < x.day) (hl60 : b.ens.length < 60) :
    Calls Try.prog 34 #[bkV q b, enV x.key x.day a x.lns.length cap] w (BkYes w ⟨b.acs, insE x b.ens, b.shut⟩) := by
  have hB := ((BBx.new w q b).later ((Kept.refl (w.alloc (bkO q b))).alloc (enO x a cap))).later ((Kept.refl ((w.alloc (bkO q b)).alloc (enO x a cap))).alloc noBk)
  have hE := (EBx.newAt (w := w.alloc (bkO q b)) (p := w.heap.size + 1) (by simp) x.key x.day (.slice a x.lns.length cap) 64).later ((Kept.refl ((w.alloc (bkO q b)).alloc (enO x a cap))).alloc noBk)
  have hR := VBk.none ((w.alloc (bkO q b)).alloc (enO x a cap)) (w.heap.size + 1 + 1) (by simp)
  have hK2 := (((Kept.refl w).alloc (bkO q b)).alloc (enO x a cap)).alloc noBk
  have hS : (((w.alloc (bkO q b)).alloc (enO x a cap)).alloc noBk).heap.size = w.heap.size + 1 + 1 + 1 := by simp
  have CK := Lib.hid (check_any q b _ (hM.later hK2))
  have hem : b.ens.length ≤ 9223372036854775807 := by have := hM.en; unfold maxLen at this; omega
  generalize hW : ((w.alloc (bkO q b)).alloc (enO x a cap)).alloc noBk = W at hB hE hR hK2 CK hS
  have HW := Lib.hid hW
  have HB := Lib.hid hB
  have HE := Lib.hid hE
  have HR := Lib.hid hR
  have HK := Lib.hid hK2
  have HM := Lib.hid (hM.later hK2)
  have HA := Lib.hid (hx.lns.later hK2)
  have HX := Lib.hid hx
  clear hM hW hB hE hR hK2
  rw [bkE_iff.2 gd] at CK
  have GD := Lib.hid gd
  have EZ := Lib.hid ho.1
  have L12 := Lib.hid (enE_ok ho.1).2.2.1
  have WK := Lib.hid (fun w1 h => withKey_any q b x.key w1 h)
  have hki : kyI x.key b.ens = b.ens.length := by
    have h1 : kyI x.key b.ens ≤ b.ens.length := List.findIdx_le_length
    have h2 : ¬ kyI x.key b.ens < b.ens.length := fun h => by
      obtain ⟨e, he, hk⟩ := kyI_lt.1 h
      exact hnk e he hk
    omega
  have NW := Lib.hid (show nwE b x = 0 by unfold nwE; rw [if_pos (allA_iff.2 ho.2), if_neg (by omega), if_neg (by omega)])
  rw [hki] at WK
  have SHX := Lib.hid (show EShort (insE x b.ens) from fun y hy => by
    rcases insE_mem.1 hy with rfl | hy
    · exact ⟨HX.out.key, HX.out.len, HX.out.sh⟩
    · exact HM.out.she y hy)
  obtain ⟨i, hi⟩ : ∃ i, plI x b.ens = i := ⟨_, rfl⟩
  have INS := Lib.hid (show insE x b.ens = b.ens.take i ++ [x] ++ b.ens.drop i by unfold insE; rw [hi]; simp)
  have ile : i ≤ b.ens.length := by rw [← hi]; exact plI_le _ _
  have HI := Lib.hid hi
  have ILN := Lib.hid (insE_len x b.ens)
  clear ho hnk hsh gd hki hi
  go_enter Try.func34, Try.ntmps34
  go_wp2_with fail
  rw [HW.out]
  refine CK.out.mono ?_
  rintro e w1 ⟨rfl, hK1⟩
  obtain ⟨e0, e1, e2, e3⟩ := HE.out.later hK1
  go_wp2_with fail
  refine (echeck_any x.key x.day a x.lns cap w1 HX.out.key HX.out.len (HA.out.later hK1) HX.out.sh HX.out.le HX.out.cap).mono ?_
  rintro e w2 ⟨rfl, hK3⟩
  rw [EZ.out]
  have hK4 := hK1.trans hK3
  clear e0 e1 e2 e3 hK1 hK3
  obtain ⟨e0, e1, e2, e3⟩ := HE.out.later hK4
  obtain ⟨d0, d1, d2, d3⟩ := HB.out.later hK4
  go_wp2_with fail
  refine (WK.out w2 (HM.out.later hK4)).mono ?_
  rintro e w3 ⟨rfl, hK5⟩
  have hK6 := hK4.trans hK5
  clear e0 e1 e2 e3 d0 d1 d2 d3 hK4 hK5
  obtain ⟨e0, e1, e2, e3⟩ := HE.out.later hK6
  obtain ⟨d0, d1, d2, d3⟩ := HB.out.later hK6
  go_wp2_with fail
  refine (cnew_any q b x a cap w3 (HM.out.later hK6) GD.out.acs (HA.out.later hK6) (by have := L12.out; omega)).mono ?_
  rintro e w4 ⟨rfl, hK7⟩
  rw [NW.out]
  have hK8 := hK6.trans hK7
  clear e0 e1 e2 e3 d0 d1 d2 d3 hK6 hK7
  obtain ⟨d0, d1, d2, d3⟩ := HB.out.later hK8
  have HF := Lib.hid (find_pst q b (w.heap.size + 1) (fun e => befB x e) w4 (HM.out.later hK8) (fun wx y a' n' cap' kk hy => pclos_any _ x y a' a n' cap' x.lns.length cap wx ((HE.out.later hK8).later kk)))
  rw [show b.ens.findIdx (fun e => befB x e) = i from HI.out] at HF
  go_wp2_with fail
  refine HF.out.mono ?_
  rintro e w5 ⟨rfl, hK9⟩
  have hK10 := hK8.trans hK9
  clear d0 d1 d2 d3 hK8 hK9 HF
  obtain ⟨d0, d1, d2, d3⟩ := HB.out.later hK10
  go_wp2_with fail
  refine (copied_any q b w5 (HM.out.later hK10) GD.out.a24 GD.out.many GD.out.lines).mono ?_
  rintro e w6 ⟨pa, g, rfl, hF, hK11⟩
  have hK12 := hK10.trans hK11
  have hle : w.heap.size + 1 + 1 < w5.heap.size := by have := hK10.le; omega
  have hle6 : w5.heap.size ≤ w6.heap.size := hK11.le
  obtain ⟨p1, hp1, hB1, hPR⟩ := hF.acs
  obtain ⟨p2, cs, hp2, hB2, hlt2, hEnc, hcs, hnew⟩ := hF.ens
  obtain rfl : p1 = pa := by simp at hp1; exact hp1.symm
  obtain rfl : p2 = g := by simp at hp2; exact hp2.symm
  have kN := (Kept.refl w6).alloc (.cells #[.slice (some ⟨p1, 0, none⟩) b.acs.length b.acs.length, .slice (some ⟨p2, 0, none⟩) b.ens.length b.ens.length, .int .i64 b.shut] 58)
  have hV := BBx.new w6 ⟨some ⟨p1, 0, none⟩, b.acs.length, some ⟨p2, 0, none⟩, b.ens.length⟩ b
  have hfz : ∀ o, (w6.alloc (.cells #[.slice (some ⟨p1, 0, none⟩) b.acs.length b.acs.length, .slice (some ⟨p2, 0, none⟩) b.ens.length b.ens.length, .int .i64 b.shut] 58)).frozen? ⟨w6.heap.size, o, none⟩ = false := fun o => by simp
  obtain ⟨e0, e1, e2, e3⟩ := HE.out.later hK12
  have hE7 := HE.out.later (hK12.trans kN)
  have HPR := Lib.hid hPR
  have HEN := Lib.hid hEnc
  have HCS := Lib.hid hcs
  have HNW := Lib.hid hnew
  have HV := Lib.hid hV
  have HFZ := Lib.hid hfz
  have HK12 := Lib.hid hK12
  clear d0 d1 d2 d3 hF hPR hEnc hcs hnew hfz hK12 hK10 hK11 hp1 hp2
  go_wp2_with fail
  generalize hw7 : w6.alloc (.cells #[.slice (some ⟨p1, 0, none⟩) b.acs.length b.acs.length, .slice (some ⟨p2, 0, none⟩) b.ens.length b.ens.length, .int .i64 b.shut] 58) = w7 at *
  clear e0 e1 e2 e3
  obtain ⟨e0, e1, e2, e3⟩ := id hE7
  obtain ⟨v0, v1, v2, v3⟩ := HV.out
  have S7 := Lib.hid (show w7.heap.size = w6.heap.size + 1 by rw [← hw7]; simp)
  have KN := Lib.hid kN
  have HA7 := Lib.hid (HA.out.later (HK12.out.trans kN))
  have n8 := L12.out
  have f7 := fun o => HFZ.out o
  have fy0 := f7 0
  have fy1 := f7 1
  have fy2 := f7 2
  clear hw7 kN hV f7 hE7
  go_region_with (first
    | (go_at_call 64; refine (cpe_any x a cap _ (HA7.out.later (by first | exact Kept.refl _ | exact (Kept.refl _).drew | exact (Kept.refl _).drewN _)) (by omega)).mono ?_; rintro e w8 ⟨p8, hp8, rfl, hO8, hK13a⟩; have hK13 : Kept w7 w8 := Kept.trans (by first | exact Kept.refl _ | exact (Kept.refl _).drew | exact (Kept.refl _).drewN _) hK13a; clear hK13a; clear v0 v1 v2 v3 e0 e1 e2 e3 fy0 fy1 fy2; obtain ⟨v0, v1, v2, v3⟩ := HV.out.later hK13)
    | (go_at_call 63; refine (ins_at p2 b.ens.length i p8 cs x w6 w8 _ ile (by omega) HEN.out.len HEN.out.cell1 hlt2 HCS.out (KN.out.trans hK13) (by first | exact Kept.refl _ | exact (Kept.refl _).drew | exact (Kept.refl _).drewN _)).mono ?_; rintro e w10 ⟨p10, c10, hp10a, rfl, hc1, hc2, hl10, hds, hK15⟩; have hK16 : Kept w7 w10 := Kept.trans (by first | exact hK13.alloc _ | exact (hK13.alloc _).drew | exact (hK13.alloc _).drewN _) hK15; have hp10 : w8.heap.size + 1 ≤ p10 := Nat.le_trans (by first | (simp; done) | (simp; omega)) hp10a; have hO10 := (hO8.later ((Kept.refl w8).alloc (.cells #[.string x.key, .int .i64 x.day, .slice (some ⟨p8, 0, none⟩) x.lns.length x.lns.length] 64))).later (Kept.trans (by first | exact Kept.refl _ | exact (Kept.refl _).drew | exact (Kept.refl _).drewN _) hK15); clear hp10a hK15 v0 v1 v2 v3; obtain ⟨v0, v1, v2, v3⟩ := HV.out.later hK16; have fy0 := (hK16.rd.2 w6.heap.size 0 (by rw [S7.out]; omega)).trans (HFZ.out 0); have fy1 := (hK16.rd.2 w6.heap.size 1 (by rw [S7.out]; omega)).trans (HFZ.out 1); have fy2 := (hK16.rd.2 w6.heap.size 2 (by rw [S7.out]; omega)).trans (HFZ.out 2)))
  all_goals
    have hp8' : w6.heap.size + 1 ≤ p8 := by rw [← S7.out]; exact hp8
    have s8 : w6.heap.size + 1 ≤ w8.heap.size := by have := hK13.le; rw [S7.out] at this; exact this
    have kX : Kept w6 (w10.setCell ⟨w6.heap.size, 1, none⟩ (.slice (some ⟨p10, 0, none⟩) (b.ens.length + 1) c10)) := (KN.out.trans hK16).setAt (Nat.le_refl _) _
    have hne8 : w6.heap.size ≠ p8 := by omega
    have hne10' : p10 ≠ w6.heap.size := by omega
    have FB : BkF (w10.setCell ⟨w6.heap.size, 1, none⟩ (.slice (some ⟨p10, 0, none⟩) (b.ens.length + 1) c10)) w5.heap.size ⟨some ⟨p1, 0, none⟩, b.acs.length, some ⟨p10, 0, none⟩, c10⟩ ⟨b.acs, insE x b.ens, b.shut⟩ := by
      refine ⟨⟨p1, rfl, hB1, HPR.out.later kX⟩, HM.out.sha, Nat.le_refl _, by have := GD.out.a24; simp only []; unfold maxLen; omega, ⟨p10, cs.take (i * 3) ++ [.string x.key, .int .i64 x.day, .slice (some ⟨p8, 0, none⟩) x.lns.length x.lns.length] ++ cs.drop (i * 3), rfl, by omega, by simpa using hl10, ?_, fun j v hj => ?_, ?_⟩, SHX.out, by simp only []; rw [ILN.out]; exact hc1, hc2⟩
      · simp only []
        rw [INS.out]
        exact (((HEN.out.later kX).take i).append (Enc.one ((hO10.other hne8).lnA (by omega)))).append ((HEN.out.later kX).drop i)
      · have h1 := hds j v hj
        go_simp
      · intro v hv
        rcases List.mem_append.1 hv with hv | hv
        · rcases List.mem_append.1 hv with hv | hv
          · exact HNW.out v (List.mem_of_mem_take hv)
          · intro p' o' n' c' e'
            simp at hv
            rcases hv with rfl | rfl | rfl
            · cases e'
            · cases e'
            · have : p8 = p' := by simp at e'; exact e'.1.1
              omega
        · exact HNW.out v (List.mem_of_mem_drop hv)
    obtain ⟨⟨r0, r1, r2, r3⟩, f0, f1, f2⟩ := HR.out.later (HK12.out.trans (KN.out.trans hK16))
    have hn1 : w.heap.size + 1 + 1 ≠ w6.heap.size := by omega
    have hn2 : w6.heap.size ≠ w.heap.size + 1 + 1 := by omega
    have FF := Lib.hid (FB.set3 (r := w.heap.size + 1 + 1) hle (.slice (some ⟨p1, 0, none⟩) b.acs.length b.acs.length) (.slice (some ⟨p10, 0, none⟩) (b.ens.length + 1) c10) (.int .i64 b.shut))
    have FK := Lib.hid ((HK.out.trans (HK12.out.trans kX)).set3 (p := w.heap.size + 1 + 1) (by omega) (.slice (some ⟨p1, 0, none⟩) b.acs.length b.acs.length) (.slice (some ⟨p10, 0, none⟩) (b.ens.length + 1) c10) (.int .i64 b.shut))
    clear FB kX hK16 hO10 hds hO8 hK13 hne10' hne8
    go_wp2
    exact bodyPost_ret (v := .tuple #[bkV ⟨some ⟨p1, 0, none⟩, b.acs.length, some ⟨p10, 0, none⟩, c10⟩ ⟨b.acs, insE x b.ens, b.shut⟩, .int .i64 0]) (by simp [results, Try.results34, go_sem, r1, r2, r3, ILN.out]) rfl ⟨_, rfl, FF.out.mono (by omega), FK.out⟩
/-- P35: what Post returns where there is no error. -/
theorem post_yes (q : BkA) (b : Bk) (x : Et) (a : Option Addr) (cap : Nat) (w : World) (hM : BkM w q b) (hx : EtM w x a cap) (ok : poE b x = 0) :
    Calls Try.prog 34 #[bkV q b, enV x.key x.day a x.lns.length cap] w (BkYes w (poV b x)) := by
  obtain ⟨g, _, (⟨hm, e⟩ | ⟨hk, ho, hs, hl, e⟩)⟩ := poE_ok ok
  · rw [e]; exact post_old q b x a cap w hM hx g hm
  · rw [e]; exact post_new q b x a cap w hM hx g ho hk hs hl
end Go.Proofs.Ytdgiljndoeldcaa
