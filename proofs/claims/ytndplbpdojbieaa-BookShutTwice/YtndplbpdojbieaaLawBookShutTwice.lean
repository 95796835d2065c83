/-
  The walk of talkeep.BookShutTwice: it returns true at every input. No condition but those that each theorem names.
-/
import Derived.Test.YtndplbpdojbieaaHWalkH
namespace Go.Proofs.Ytndplbpdojbieaa
open Go.RowKit
set_option linter.unusedVariables false

theorem Good.sh {b : Bk} (g : Good b) {d : Int} (h : dyB d = true) : Good ⟨b.acs, b.ens, d⟩ := ⟨g.acs, .inr h, g.many, g.each, g.keys, g.srt⟩
theorem shE_of {b : Bk} {d : Int} (g : Good b) (h : dyB d = true) (k : ¬ d < b.shut) : shE b d = 0 := by unfold shE; rw [if_pos (bkE_iff.2 g), if_pos h, if_neg k]
theorem shE_lt {b : Bk} {d : Int} (g : Good b) (h : dyB d = true) (k : d < b.shut) : shE b d = 9 := by unfold shE; rw [if_pos (bkE_iff.2 g), if_pos h, if_pos k]
theorem plain9 : shE plainB 9 = 0 := by decide +kernel
theorem plain8 : shE ⟨plainB.acs, plainB.ens, 9⟩ 8 = 9 := by decide +kernel
theorem VBk.newB (w : World) (q : BkA) (b : Bk) : VBk (w.alloc (bkO q b)) w.heap.size q b := ⟨BBx.new w q b, by simp, by simp, by simp⟩
theorem vbk_put {w : World} {p : Nat} {q q' : BkA} {b b' : Bk} (h : VBk w p q b) : VBk (((w.setCell ⟨p, 0, none⟩ (.slice q'.aa b'.acs.length q'.ca)).setCell ⟨p, 1, none⟩ (.slice q'.ae b'.ens.length q'.ce)).setCell ⟨p, 2, none⟩ (.int .i64 b'.shut)) p q' b' := by
  obtain ⟨⟨a, c, d, e⟩, f0, f1, f2⟩ := h
  refine ⟨⟨by simpa using a, ?_, ?_, ?_⟩, ?_, ?_, ?_⟩ <;> go_simp
set_option maxRecDepth 100000 in
set_option maxHeartbeats 8000000 in
theorem bookShutTwice_walk (q : BkA) (b : Bk) (i k : Int) (w : World) (hM : BkM w q b) :
    Calls Try.prog 10 #[bkV q b, .int .i64 i, .int .i64 k] w fun e w' => e = .returned (.bool true) ∧ Below w.heap.size w w' := by
  have hK2 := (Kept.refl w).alloc (bkO q b)
  have HB := Lib.hid (BBx.new w q b)
  have HM := Lib.hid (hM.later hK2)
  have sW : (w.alloc (bkO q b)).heap.size = w.heap.size + 1 := by simp
  obtain ⟨x, hx⟩ : ∃ x, dyV i = x := ⟨_, rfl⟩
  obtain ⟨y, hy⟩ : ∃ y, dyV k = y := ⟨_, rfl⟩
  have DX := Lib.hid (hx ▸ dyV_ok i)
  have DY := Lib.hid (hy ▸ dyV_ok k)
  have EX := Lib.hid hx
  have EY := Lib.hid hy
  generalize hW : w.alloc (bkO q b) = W at *
  have HW := Lib.hid hW
  have HK := Lib.hid hK2
  clear hM hW hK2 hx hy
  go_enter Try.func10, Try.ntmps10
  go_wp2_with fail
  rw [HW.out]
  refine (plain_any W).mono ?_
  rintro e w1 ⟨q1, rfl, hM1, hK1⟩
  have P9 := Lib.hid (shut_yes q1 plainB 9 w1 hM1 plain9)
  generalize hp9 : (⟨plainB.acs, plainB.ens, 9⟩ : Bk) = b9 at P9
  have H9 := Lib.hid (show b9.shut = 9 by rw [← hp9])
  have HP9 := Lib.hid hp9
  clear hp9
  go_wp2_with fail
  refine P9.out.mono ?_
  rintro e w2 ⟨q2, rfl, hF2, hK3⟩
  have S8 := Lib.hid (shut_no q2 b9 8 (w2.alloc (bkO q2 b9)) (hF2.m.later ((Kept.refl w2).alloc _)) (by rw [← HP9.out, plain8]; decide))
  rw [show shE b9 8 = 9 by rw [← HP9.out]; exact plain8] at S8
  have V7 := Lib.hid (VBk.newB w2 q2 b9)
  have k7 := (hK1.trans hK3).alloc (bkO q2 b9)
  have s2 : w.heap.size < w2.heap.size := by have := (hK1.trans hK3).le; omega
  have B7 := s2
  generalize hw3 : w2.alloc (bkO q2 b9) = w3 at *
  have HW3 := Lib.hid hw3
  clear hM1 hF2 hK1 hK3 hw3
  go_wp2_with fail
  rw [HW3.out]
  refine S8.out.mono ?_
  rintro e w4 ⟨rfl, hK4⟩
  have k8 := k7.trans hK4
  have V74 := V7.out.later hK4
  obtain ⟨⟨v0, v1, v2, v3⟩, f0, f1, f2⟩ := id V74
  rw [H9.out] at v3
  have V7b := Lib.hid (V74.later ((Kept.refl w4).alloc noBk))
  have k9 := Lib.hid (k8.alloc noBk)
  obtain ⟨m0, m1, m2, m3⟩ := HB.out.later k8
  generalize w2.heap.size = p7 at *
  go_wp2_with fail
  generalize hw5 : w4.alloc (.cells #[.slice none 0 0, .slice none 0 0, .int .i64 0] 25) = w5 at *
  clear hw5 v0 v1 v2 v3 f0 f1 f2 m0 m1 m2 m3 V74 k8 hK4 k7
  refine (day_any i w5).mono ?_
  rintro e w6 ⟨rfl, rfl⟩
  rw [EX.out]
  go_wp2_with fail
  refine (day_any k w5).mono ?_
  rintro e w6 ⟨rfl, rfl⟩
  rw [EY.out]
  go_wp2_with fail
  refine (day_any i w5).mono ?_
  rintro e w6 ⟨rfl, rfl⟩
  rw [EX.out]
  go_wp2_with fail
  refine (day_any k w5).mono ?_
  rintro e w6 ⟨rfl, rfl⟩
  rw [EY.out]
  obtain ⟨m0, m1, m2, m3⟩ := HB.out.later k9.out
  go_wp2_with fail
  obtain ⟨m, hm⟩ : ∃ m, min x y = m := ⟨_, rfl⟩
  obtain ⟨M, hMx⟩ : ∃ M, max x y = M := ⟨_, rfl⟩
  have DM := Lib.hid (show dyB m = true from (dyB_iff m).2 (by have := (dyB_iff x).1 DX.out; have := (dyB_iff y).1 DY.out; omega))
  have DN := Lib.hid (show dyB M = true from (dyB_iff M).2 (by have := (dyB_iff x).1 DX.out; have := (dyB_iff y).1 DY.out; omega))
  have mM : m ≤ M := by omega
  rw [hm, hMx]
  clear hm hMx
  have sW5 : p7 < w5.heap.size := V7b.out.box.lt
  by_cases ok : shE b m = 0
  · obtain ⟨gd, _, hns⟩ := shE_ok ok
    obtain ⟨bm, hbm⟩ : ∃ bm : Bk, (⟨b.acs, b.ens, m⟩ : Bk) = bm := ⟨_, rfl⟩
    obtain ⟨bM, hbM⟩ : ∃ bM : Bk, (⟨b.acs, b.ens, M⟩ : Bk) = bM := ⟨_, rfl⟩
    have gm : Good bm := hbm ▸ gd.sh DM.out
    have gM : Good bM := hbM ▸ gd.sh DN.out
    have e2 : (⟨bm.acs, bm.ens, M⟩ : Bk) = bM := by rw [← hbm, ← hbM]
    have ok2 : shE bm M = 0 := shE_of gm DN.out (by rw [← hbm]; simp only []; omega)
    have ok3 : shE b M = 0 := shE_of gd DN.out (by omega)
    have e4 := Lib.hid (show shE bM m = if m < M then 9 else 0 by
      by_cases h : m < M
      · rw [if_pos h]; exact shE_lt gM DM.out (by rw [← hbM]; exact h)
      · rw [if_neg h]; exact shE_of gM DM.out (by rw [← hbM]; exact h))
    have G := Lib.hid gM
    have S1 := Lib.hid (shut_yes q b m w5 (HM.out.later k9.out) ok)
    rw [hbm] at S1
    have S2 := Lib.hid (fun q' V (h : BkM V q' bm) => shut_yes q' bm M V h ok2)
    simp only [e2] at S2
    have S3 := Lib.hid (fun V (h : BkM V q b) => shut_yes q b M V h ok3)
    simp only [hbM] at S3
    clear ok gd hns hbm hbM gm gM e2 ok2 ok3
    refine S1.out.mono ?_
    rintro e w6 ⟨q6, rfl, hF6, hK6⟩
    have V6 := V7b.out.later hK6
    obtain ⟨⟨v0, v1, v2, v3⟩, f0, f1, f2⟩ := id V6
    have kX := (k9.out.trans hK6).set3 (p := p7) (by omega) (.slice q6.aa bm.acs.length q6.ca) (.slice q6.ae bm.ens.length q6.ce) (.int .i64 bm.shut)
    have VX := Lib.hid ((vbk_put V6 (q' := q6) (b' := bm)).box)
    have FX := Lib.hid ((hF6.set3 (r := p7) sW5 (.slice q6.aa bm.acs.length q6.ca) (.slice q6.ae bm.ens.length q6.ce) (.int .i64 bm.shut)).m)
    have KX := Lib.hid kX
    have R2 := Lib.hid (S2.out q6 _ FX.out)
    generalize hw7 : ((w6.setCell ⟨p7, 0, none⟩ (.slice q6.aa bm.acs.length q6.ca)).setCell ⟨p7, 1, none⟩ (.slice q6.ae bm.ens.length q6.ce)).setCell ⟨p7, 2, none⟩ (.int .i64 bm.shut) = w7 at *
    have HW7 := Lib.hid hw7
    clear hF6 hK6 V6 kX hw7
    go_wp2_with fail
    rw [HW7.out]
    refine R2.out.mono ?_
    rintro e w8 ⟨q8, rfl, hF8, hK8⟩
    have k10 := KX.out.trans hK8
    obtain ⟨n0, n1, n2, n3⟩ := HB.out.later k10
    have HY := Lib.hid (BBx.new w8 q8 bM)
    have kY := (Kept.refl w8).alloc (bkO q8 bM)
    have HMY := Lib.hid (hF8.m.later kY)
    have R3 := Lib.hid (S3.out _ ((HM.out.later k10).later kY))
    have K11 := Lib.hid (k10.trans kY)
    generalize hw9 : w8.alloc (bkO q8 bM) = w9 at *
    have HW9 := Lib.hid hw9
    clear v0 v1 v2 v3 f0 f1 f2 hF8 hK8 hw9 kY m0 m1 m2 m3
    go_wp2_with fail
    rw [HW9.out]
    refine R3.out.mono ?_
    rintro e w10 ⟨q10, rfl, hF10, hK10⟩
    have HZ := Lib.hid (BBx.new w10 q10 bM)
    have kZ := (Kept.refl w10).alloc (bkO q10 bM)
    have HMZ := Lib.hid (hF10.m.later kZ)
    have HMY2 := Lib.hid (HMY.out.later (hK10.trans kZ))
    obtain ⟨y0, y1, y2, y3⟩ := HY.out.later hK10
    have K12 := Lib.hid (hK10.trans kZ)
    generalize hw11 : w10.alloc (bkO q10 bM) = w11 at *
    have HW11 := Lib.hid hw11
    clear hF10 hK10 hw11 kZ n0 n1 n2 n3 k10
    by_cases hlt : m < M
    · have E4 := Lib.hid (show shE bM m = 9 by rw [e4.out, if_pos hlt])
      have R4 := Lib.hid (shut_no q8 bM m w11 HMY2.out (by rw [E4.out]; decide))
      rw [E4.out] at R4
      go_wp2_with fail
      rw [HW11.out]
      refine R4.out.mono ?_
      rintro e w12 ⟨rfl, hK13⟩
      have k14 := hK13.alloc noBk
      have SB := Lib.hid (sbook_yes q8 q10 bM (w12.alloc noBk) (HMY2.out.later k14) (HMZ.out.later k14) G.out.a24 G.out.many G.out.lines)
      clear y0 y1 y2 y3
      obtain ⟨y0, y1, y2, y3⟩ := HY.out.later (K12.out.trans hK13)
      obtain ⟨z0, z1, z2, z3⟩ := HZ.out.later hK13
      go_wp2_with fail
      refine SB.out.mono ?_
      rintro e w14 ⟨rfl, hK15⟩
      go_wp2
      go_ret
      exact ⟨by simp, HK.out.trans (K11.out.trans (K12.out.trans (k14.trans hK15)))⟩
    · have E4 := Lib.hid (show shE bM m = 0 by rw [e4.out, if_neg hlt])
      have R4 := Lib.hid (shut_yes q8 bM m w11 HMY2.out E4.out)
      obtain ⟨b4, hb4⟩ : ∃ b4 : Bk, (⟨bM.acs, bM.ens, m⟩ : Bk) = b4 := ⟨_, rfl⟩
      rw [hb4] at R4
      clear hb4
      go_wp2_with fail
      rw [HW11.out]
      refine R4.out.mono ?_
      rintro e w12 ⟨q12, rfl, hF12, hK13⟩
      have k14 := hK13.alloc (bkO q12 b4)
      have SB := Lib.hid (sbook_yes q8 q10 bM (w12.alloc (bkO q12 b4)) (HMY2.out.later k14) (HMZ.out.later k14) G.out.a24 G.out.many G.out.lines)
      clear y0 y1 y2 y3
      obtain ⟨y0, y1, y2, y3⟩ := HY.out.later (K12.out.trans hK13)
      obtain ⟨z0, z1, z2, z3⟩ := HZ.out.later hK13
      go_wp2_with fail
      refine SB.out.mono ?_
      rintro e w14 ⟨rfl, hK15⟩
      go_wp2
      go_ret
      exact ⟨by simp; omega, HK.out.trans (K11.out.trans (K12.out.trans (k14.trans hK15)))⟩
  · refine (shut_no q b m w5 (HM.out.later k9.out) ok).mono ?_
    rintro e w6 ⟨rfl, hK6⟩
    have hne : (shE b m != 0) = true := by simpa using ok
    clear ok
    generalize shE b m = ek at *
    obtain ⟨⟨v0, v1, v2, v3⟩, f0, f1, f2⟩ := V7b.out.later hK6
    have FK := Lib.hid ((HK.out.trans (k9.out.trans hK6)).set3 (p := p7) (by omega) (.slice none 0 0) (.slice none 0 0) (.int .i64 0))
    go_wp2
    go_ret
    exact ⟨rfl, FK.out⟩
end Go.Proofs.Ytndplbpdojbieaa
