/-
  The law BookTells: for every book, code and day it answers true; nothing that was there is turned. No condition but those that each theorem names.
-/
import Derived.Test.YtndplbpdojbieaaDoorJWalkB
import Derived.Test.YtndplbpdojbieaaDoorHWalkH
namespace Go.Proofs.YtndplbpdojbieaaDoor
open Go.RowKit
set_option linter.unusedVariables false

theorem no_m (w : World) : BkM w noA noB := ⟨.inl rfl, (fun x hx => by cases hx), Nat.le_refl _, Nat.zero_le _, .inl rfl, (fun x hx => by cases hx), Nat.le_refl _, Nat.zero_le _⟩
set_option maxHeartbeats 2000000 in
theorem told_yes (q q' : BkA) (b : Bk) (er : Int) (w : World) (h1 : BkM w q b) (h2 : BkM w q' b) (na : b.acs.length ≤ 24) (ne : b.ens.length ≤ 60) (nl : ∀ x ∈ b.ens, x.lns.length ≤ 12) :
    Calls Tryd.prog 10 #[bkV q b, .int .i64 er, bkV q' b, .int .i64 er] w fun e w' => e = .returned (.bool true) ∧ Kept w w' := by
  have kE := ((Kept.refl w).alloc (bkO q b)).alloc (bkO q' b)
  have HX := Lib.hid (sbook_yes q q' b _ (h1.later kE) (h2.later kE) na ne nl)
  clear h1 h2 nl
  go_enter Tryd.func10, Tryd.ntmps10
  go_wp2_with fail
  refine HX.out.mono ?_
  rintro e w1 ⟨rfl, hK1⟩
  go_wp2
  go_ret
  exact ⟨rfl, kE.trans hK1⟩
theorem told_no (er : Int) (w : World) :
    Calls Tryd.prog 10 #[.agg #[.slice none 0 0, .slice none 0 0, .int .i64 0], .int .i64 er, .agg #[.slice none 0 0, .slice none 0 0, .int .i64 0], .int .i64 er] w fun e w' => e = .returned (.bool true) ∧ Kept w w' :=
  told_yes noA noA noB er w (no_m w) (no_m w) (Nat.zero_le _) (Nat.zero_le _) (fun x hx => by cases hx)
set_option maxRecDepth 100000 in
set_option maxHeartbeats 4000000 in
theorem tells_n (q : BkA) (b : Bk) (c : ByteArray) (d : Int) (w : World) (hM : BkM w q b) (hcs : c.size ≤ maxLen) (gd : ¬ bkE b = 0) :
    Calls Tryd.prog 3 #[bkV q b, .string c, .int .i64 d] w fun e w' => e = .returned (.bool true) ∧ Below w.heap.size w w' := by
  have hK2 := (Kept.refl w).alloc (bkO q b)
  have HB := Lib.hid (BBx.new w q b)
  have HM := Lib.hid (hM.later hK2)
  generalize hW : w.alloc (bkO q b) = W at *
  have HW := Lib.hid hW
  have HK := Lib.hid hK2
  clear hM hW hK2
  have NG := Lib.hid gd
  have BE := Lib.hid (show baE b c d = bkE b by unfold baE; rw [if_neg NG.out])
  have SE := Lib.hid (show shE b d = bkE b by unfold shE; rw [if_neg NG.out])
  have BN := Lib.hid (fun V (hV : BkM V q b) => bal_no q b c d V hV (by rw [BE.out]; exact NG.out))
  have SN := Lib.hid (fun V (hV : BkM V q b) => shut_no q b d V hV (by rw [SE.out]; exact NG.out))
  simp only [BE.out] at BN
  simp only [SE.out] at SN
  have RB := Lib.hid (fun V (hV : BkM V q b) => rbook_any q b V hV)
  have ne1 : (bkE b == 0) = false := by simpa using gd
  clear gd BE SE NG
  generalize bkE b = ek at *
  go_enter Tryd.func3, Tryd.ntmps3
  go_wp2_with fail
  rw [HW.out]
  refine (BN.out W HM.out).mono ?_
  rintro e w1 ⟨rfl, hK1⟩
  obtain ⟨b0, b1, b2, b3⟩ := HB.out.later hK1
  have SR := Lib.hid (SN.out w1 (HM.out.later hK1))
  go_wp2_with fail
  refine SR.out.mono ?_
  rintro e w2 ⟨rfl, hK3⟩
  have HX := Lib.hid (show BBx (w2.alloc noBk) w2.heap.size noA noB from ⟨by simp, by simp [noA, noB], by simp [noA, noB], by simp [noB]⟩)
  have k4 := (Kept.refl w2).alloc noBk
  have K4 := Lib.hid (hK1.trans (hK3.trans k4))
  clear b0 b1 b2 b3
  obtain ⟨b0, b1, b2, b3⟩ := HB.out.later (hK1.trans hK3)
  have bl2 : w.heap.size < w2.heap.size := b0
  generalize hw3 : w2.alloc noBk = w3 at *
  have HW3 := Lib.hid hw3
  clear k4 hw3 hK3 hK1
  have RBR := Lib.hid (RB.out w3 (HM.out.later K4.out))
  go_wp2_with fail
  rw [HW3.out]
  refine RBR.out.mono ?_
  rintro e w4 ⟨rfl, hK5⟩
  have K5 := Lib.hid hK5
  have HMb := Lib.hid (HM.out.later (K4.out.trans hK5))
  clear b0 b1 b2 b3 hK5
  obtain ⟨b0, b1, b2, b3⟩ := HB.out.later (K4.out.trans K5.out)
  obtain ⟨x0, x1, x2, x3⟩ := HX.out.later K5.out
  simp only [noA, noB, List.length_nil] at x1 x2 x3
  have bl5 : w.heap.size < w4.heap.size := b0
  have bl6 : w2.heap.size < w4.heap.size := x0
  have kT := (Kept.refl w4).alloc noBk
  have TD := Lib.hid (told_no ek (w4.alloc noBk))
  go_wp2_with fail
  refine TD.out.mono ?_
  rintro e w9 ⟨rfl, hK9⟩
  go_wp2
  go_ret
  exact ⟨by simp, HK.out.trans (K4.out.trans (K5.out.trans (kT.trans hK9)))⟩
set_option maxRecDepth 100000 in
set_option maxHeartbeats 4000000 in
theorem tells_a (q : BkA) (b : Bk) (c : ByteArray) (d : Int) (w : World) (hM : BkM w q b) (hcs : c.size ≤ maxLen) (gd : bkE b = 0) (hh : hasB c b.acs = false) (hd : dyB d = false) :
    Calls Tryd.prog 3 #[bkV q b, .string c, .int .i64 d] w fun e w' => e = .returned (.bool true) ∧ Below w.heap.size w w' := by
  have hK2 := (Kept.refl w).alloc (bkO q b)
  have HB := Lib.hid (BBx.new w q b)
  have HM := Lib.hid (hM.later hK2)
  generalize hW : w.alloc (bkO q b) = W at *
  have HW := Lib.hid hW
  have HK := Lib.hid hK2
  clear hM hW hK2
  have BE : baE b c d = 4 := by unfold baE; rw [if_pos gd, if_neg (by simp [hh])]
  have SE : shE b d = 1 := by unfold shE; rw [if_pos gd, if_neg (by simp [hd])]
  have BN := Lib.hid (fun V (hV : BkM V q b) => bal_no q b c d V hV (by rw [BE]; decide))
  simp only [BE] at BN
  have SN := Lib.hid (fun V (hV : BkM V q b) => shut_no q b d V hV (by rw [SE]; decide))
  simp only [SE] at SN
  have RB := Lib.hid (fun V (hV : BkM V q b) => rbook_any q b V hV)
  simp only [gd] at RB
  have G := Lib.hid (bkE_iff.1 gd)
  have HH := Lib.hid hh
  have HD := Lib.hid (show inB d 0 292193 = false from hd)
  clear gd BE SE hh hd
  go_enter Tryd.func3, Tryd.ntmps3
  go_wp2_with fail
  rw [HW.out]
  refine (BN.out W HM.out).mono ?_
  rintro e w1 ⟨rfl, hK1⟩
  obtain ⟨b0, b1, b2, b3⟩ := HB.out.later hK1
  have SR := Lib.hid (SN.out w1 (HM.out.later hK1))
  go_wp2_with fail
  refine SR.out.mono ?_
  rintro e w2 ⟨rfl, hK3⟩
  have HX := Lib.hid (show BBx (w2.alloc noBk) w2.heap.size noA noB from ⟨by simp, by simp [noA, noB], by simp [noA, noB], by simp [noB]⟩)
  have k4 := (Kept.refl w2).alloc noBk
  have K4 := Lib.hid (hK1.trans (hK3.trans k4))
  clear b0 b1 b2 b3
  obtain ⟨b0, b1, b2, b3⟩ := HB.out.later (hK1.trans hK3)
  have bl2 : w.heap.size < w2.heap.size := b0
  generalize hw3 : w2.alloc noBk = w3 at *
  have HW3 := Lib.hid hw3
  clear k4 hw3 hK3 hK1
  have RBR := Lib.hid (RB.out w3 (HM.out.later K4.out))
  go_wp2_with fail
  rw [HW3.out]
  refine RBR.out.mono ?_
  rintro e w4 ⟨rfl, hK5⟩
  have K5 := Lib.hid hK5
  have HMb := Lib.hid (HM.out.later (K4.out.trans hK5))
  clear b0 b1 b2 b3 hK5
  obtain ⟨b0, b1, b2, b3⟩ := HB.out.later (K4.out.trans K5.out)
  have RH := Lib.hid (rhas_any c b.acs q.aa q.ca w4 HMb.out.an HMb.out.acs)
  rw [HH.out] at RH
  go_wp2_with fail
  refine RH.out.mono ?_
  rintro e w5 ⟨rfl, hK6⟩
  have K6 := Lib.hid (K5.out.trans hK6)
  clear b0 b1 b2 b3 hK6
  obtain ⟨b0, b1, b2, b3⟩ := HB.out.later (K4.out.trans K6.out)
  go_wp2_with fail
  refine (rday_any _ _).mono ?_
  rintro e wz ⟨rfl, rfl⟩
  rw [HD.out]
  obtain ⟨x0, x1, x2, x3⟩ := HX.out.later K6.out
  simp only [noA, noB, List.length_nil] at x1 x2 x3
  have bl5 : w.heap.size < w5.heap.size := b0
  have bl6 : w2.heap.size < w5.heap.size := x0
  have kT := (Kept.refl w5).alloc noBk
  have TD := Lib.hid (told_no 1 (w5.alloc noBk))
  go_wp2_with fail
  refine TD.out.mono ?_
  rintro e w9 ⟨rfl, hK9⟩
  go_wp2
  go_ret
  exact ⟨by simp, HK.out.trans (K4.out.trans (K6.out.trans (kT.trans hK9)))⟩
set_option maxRecDepth 100000 in
set_option maxHeartbeats 4000000 in
theorem tells_b (q : BkA) (b : Bk) (c : ByteArray) (d : Int) (w : World) (hM : BkM w q b) (hcs : c.size ≤ maxLen) (gd : bkE b = 0) (hh : hasB c b.acs = false) (hd : dyB d = true) (hs : d < b.shut) :
    Calls Tryd.prog 3 #[bkV q b, .string c, .int .i64 d] w fun e w' => e = .returned (.bool true) ∧ Below w.heap.size w w' := by
  have hK2 := (Kept.refl w).alloc (bkO q b)
  have HB := Lib.hid (BBx.new w q b)
  have HM := Lib.hid (hM.later hK2)
  generalize hW : w.alloc (bkO q b) = W at *
  have HW := Lib.hid hW
  have HK := Lib.hid hK2
  clear hM hW hK2
  have BE : baE b c d = 4 := by unfold baE; rw [if_pos gd, if_neg (by simp [hh])]
  have SE : shE b d = 9 := by unfold shE; rw [if_pos gd, if_pos hd, if_pos hs]
  have BN := Lib.hid (fun V (hV : BkM V q b) => bal_no q b c d V hV (by rw [BE]; decide))
  simp only [BE] at BN
  have SN := Lib.hid (fun V (hV : BkM V q b) => shut_no q b d V hV (by rw [SE]; decide))
  simp only [SE] at SN
  have RB := Lib.hid (fun V (hV : BkM V q b) => rbook_any q b V hV)
  simp only [gd] at RB
  have G := Lib.hid (bkE_iff.1 gd)
  have HH := Lib.hid hh
  have HD := Lib.hid (show inB d 0 292193 = true from hd)
  clear gd BE SE hh hd
  go_enter Tryd.func3, Tryd.ntmps3
  go_wp2_with fail
  rw [HW.out]
  refine (BN.out W HM.out).mono ?_
  rintro e w1 ⟨rfl, hK1⟩
  obtain ⟨b0, b1, b2, b3⟩ := HB.out.later hK1
  have SR := Lib.hid (SN.out w1 (HM.out.later hK1))
  go_wp2_with fail
  refine SR.out.mono ?_
  rintro e w2 ⟨rfl, hK3⟩
  have HX := Lib.hid (show BBx (w2.alloc noBk) w2.heap.size noA noB from ⟨by simp, by simp [noA, noB], by simp [noA, noB], by simp [noB]⟩)
  have k4 := (Kept.refl w2).alloc noBk
  have K4 := Lib.hid (hK1.trans (hK3.trans k4))
  clear b0 b1 b2 b3
  obtain ⟨b0, b1, b2, b3⟩ := HB.out.later (hK1.trans hK3)
  have bl2 : w.heap.size < w2.heap.size := b0
  generalize hw3 : w2.alloc noBk = w3 at *
  have HW3 := Lib.hid hw3
  clear k4 hw3 hK3 hK1
  have RBR := Lib.hid (RB.out w3 (HM.out.later K4.out))
  go_wp2_with fail
  rw [HW3.out]
  refine RBR.out.mono ?_
  rintro e w4 ⟨rfl, hK5⟩
  have K5 := Lib.hid hK5
  have HMb := Lib.hid (HM.out.later (K4.out.trans hK5))
  clear b0 b1 b2 b3 hK5
  obtain ⟨b0, b1, b2, b3⟩ := HB.out.later (K4.out.trans K5.out)
  have RH := Lib.hid (rhas_any c b.acs q.aa q.ca w4 HMb.out.an HMb.out.acs)
  rw [HH.out] at RH
  go_wp2_with fail
  refine RH.out.mono ?_
  rintro e w5 ⟨rfl, hK6⟩
  have K6 := Lib.hid (K5.out.trans hK6)
  clear b0 b1 b2 b3 hK6
  obtain ⟨b0, b1, b2, b3⟩ := HB.out.later (K4.out.trans K6.out)
  go_wp2_with fail
  refine (rday_any _ _).mono ?_
  rintro e wz ⟨rfl, rfl⟩
  rw [HD.out]
  obtain ⟨x0, x1, x2, x3⟩ := HX.out.later K6.out
  simp only [noA, noB, List.length_nil] at x1 x2 x3
  have bl5 : w.heap.size < w5.heap.size := b0
  have bl6 : w2.heap.size < w5.heap.size := x0
  have kT := (Kept.refl w5).alloc noBk
  have TD := Lib.hid (told_no 9 (w5.alloc noBk))
  go_wp2_with fail
  refine TD.out.mono ?_
  rintro e w9 ⟨rfl, hK9⟩
  go_wp2
  go_ret
  exact ⟨by simp, HK.out.trans (K4.out.trans (K6.out.trans (kT.trans hK9)))⟩
set_option maxRecDepth 100000 in
set_option maxHeartbeats 4000000 in
theorem tells_c (q : BkA) (b : Bk) (c : ByteArray) (d : Int) (w : World) (hM : BkM w q b) (hcs : c.size ≤ maxLen) (gd : bkE b = 0) (hh : hasB c b.acs = false) (hd : dyB d = true) (hs : ¬ d < b.shut) :
    Calls Tryd.prog 3 #[bkV q b, .string c, .int .i64 d] w fun e w' => e = .returned (.bool true) ∧ Below w.heap.size w w' := by
  have hK2 := (Kept.refl w).alloc (bkO q b)
  have HB := Lib.hid (BBx.new w q b)
  have HM := Lib.hid (hM.later hK2)
  generalize hW : w.alloc (bkO q b) = W at *
  have HW := Lib.hid hW
  have HK := Lib.hid hK2
  clear hM hW hK2
  have BE : baE b c d = 4 := by unfold baE; rw [if_pos gd, if_neg (by simp [hh])]
  have SE : shE b d = 0 := by unfold shE; rw [if_pos gd, if_pos hd, if_neg hs]
  have BN := Lib.hid (fun V (hV : BkM V q b) => bal_no q b c d V hV (by rw [BE]; decide))
  simp only [BE] at BN
  have SN := Lib.hid (fun V (hV : BkM V q b) => shut_yes q b d V hV SE)
  obtain ⟨bx, hbx⟩ : ∃ bx : Bk, (⟨b.acs, b.ens, d⟩ : Bk) = bx := ⟨_, rfl⟩
  simp only [hbx] at SN
  have RB := Lib.hid (fun V (hV : BkM V q b) => rbook_any q b V hV)
  simp only [gd] at RB
  have G := Lib.hid (bkE_iff.1 gd)
  have HH := Lib.hid hh
  have HD := Lib.hid (show inB d 0 292193 = true from hd)
  have X1 := Lib.hid (show b.acs.length = bx.acs.length by rw [← hbx])
  have X2 := Lib.hid (show b.ens.length = bx.ens.length by rw [← hbx])
  have X3 := Lib.hid (show d = bx.shut by rw [← hbx])
  have GX := Lib.hid (show bx.acs.length ≤ 24 ∧ bx.ens.length ≤ 60 ∧ ∀ x ∈ bx.ens, x.lns.length ≤ 12 by rw [← hbx]; exact ⟨G.out.a24, G.out.many, G.out.lines⟩)
  have MX := Lib.hid (fun V (hV : BkM V q b) => show BkM V q bx by rw [← hbx]; exact ⟨hV.acs, hV.sha, hV.la, hV.lca, hV.ens, hV.she, hV.le, hV.lce⟩)
  clear hbx
  clear gd BE SE hh hd
  go_enter Tryd.func3, Tryd.ntmps3
  go_wp2_with fail
  rw [HW.out]
  refine (BN.out W HM.out).mono ?_
  rintro e w1 ⟨rfl, hK1⟩
  obtain ⟨b0, b1, b2, b3⟩ := HB.out.later hK1
  have SR := Lib.hid (SN.out w1 (HM.out.later hK1))
  go_wp2_with fail
  refine SR.out.mono ?_
  rintro e w2 ⟨q2, rfl, hF2, hK3⟩
  have HX := Lib.hid (BBx.new w2 q2 bx)
  have k4 := (Kept.refl w2).alloc (bkO q2 bx)
  have HMX := Lib.hid (hF2.m.later k4)
  have K4 := Lib.hid (hK1.trans (hK3.trans k4))
  clear b0 b1 b2 b3
  obtain ⟨b0, b1, b2, b3⟩ := HB.out.later (hK1.trans hK3)
  have bl2 : w.heap.size < w2.heap.size := b0
  generalize hw3 : w2.alloc (bkO q2 bx) = w3 at *
  have HW3 := Lib.hid hw3
  clear hF2 k4 hw3 hK3 hK1
  have RBR := Lib.hid (RB.out w3 (HM.out.later K4.out))
  go_wp2_with fail
  rw [HW3.out]
  refine RBR.out.mono ?_
  rintro e w4 ⟨rfl, hK5⟩
  have K5 := Lib.hid hK5
  have HMb := Lib.hid (HM.out.later (K4.out.trans hK5))
  clear b0 b1 b2 b3 hK5
  obtain ⟨b0, b1, b2, b3⟩ := HB.out.later (K4.out.trans K5.out)
  have RH := Lib.hid (rhas_any c b.acs q.aa q.ca w4 HMb.out.an HMb.out.acs)
  rw [HH.out] at RH
  go_wp2_with fail
  refine RH.out.mono ?_
  rintro e w5 ⟨rfl, hK6⟩
  have K6 := Lib.hid (K5.out.trans hK6)
  clear b0 b1 b2 b3 hK6
  obtain ⟨b0, b1, b2, b3⟩ := HB.out.later (K4.out.trans K6.out)
  go_wp2_with fail
  refine (rday_any _ _).mono ?_
  rintro e wz ⟨rfl, rfl⟩
  rw [HD.out]
  obtain ⟨x0, x1, x2, x3⟩ := HX.out.later K6.out
  have bl5 : w.heap.size < w5.heap.size := b0
  have bl6 : w2.heap.size < w5.heap.size := x0
  rw [X1.out] at b1
  rw [X2.out] at b2
  rw [← X3.out] at x3
  have kT := (Kept.refl w5).alloc (.cells #[.slice q.aa bx.acs.length q.ca, .slice q.ae bx.ens.length q.ce, .int .i64 d] 25)
  have TD := Lib.hid (told_yes q2 q bx 0 _ (HMX.out.later (K6.out.trans kT)) (MX.out _ (HM.out.later (K4.out.trans (K6.out.trans kT)))) GX.out.1 GX.out.2.1 GX.out.2.2)
  simp only [bkV, ← X3.out] at TD
  go_wp2_with fail
  refine TD.out.mono ?_
  rintro e w9 ⟨rfl, hK9⟩
  go_wp2
  go_ret
  exact ⟨by simp, HK.out.trans (K4.out.trans (K6.out.trans (kT.trans hK9)))⟩
set_option maxRecDepth 100000 in
set_option maxHeartbeats 4000000 in
theorem tells_d (q : BkA) (b : Bk) (c : ByteArray) (d : Int) (w : World) (hM : BkM w q b) (hcs : c.size ≤ maxLen) (gd : bkE b = 0) (hh : hasB c b.acs = true) (hd : dyB d = false) :
    Calls Tryd.prog 3 #[bkV q b, .string c, .int .i64 d] w fun e w' => e = .returned (.bool true) ∧ Below w.heap.size w w' := by
  have hK2 := (Kept.refl w).alloc (bkO q b)
  have HB := Lib.hid (BBx.new w q b)
  have HM := Lib.hid (hM.later hK2)
  generalize hW : w.alloc (bkO q b) = W at *
  have HW := Lib.hid hW
  have HK := Lib.hid hK2
  clear hM hW hK2
  have BE : baE b c d = 1 := by unfold baE; rw [if_pos gd, if_pos hh, if_neg (by simp [hd])]
  have SE : shE b d = 1 := by unfold shE; rw [if_pos gd, if_neg (by simp [hd])]
  have BN := Lib.hid (fun V (hV : BkM V q b) => bal_no q b c d V hV (by rw [BE]; decide))
  simp only [BE] at BN
  have SN := Lib.hid (fun V (hV : BkM V q b) => shut_no q b d V hV (by rw [SE]; decide))
  simp only [SE] at SN
  have RB := Lib.hid (fun V (hV : BkM V q b) => rbook_any q b V hV)
  simp only [gd] at RB
  have G := Lib.hid (bkE_iff.1 gd)
  have HH := Lib.hid hh
  have HD := Lib.hid (show inB d 0 292193 = false from hd)
  clear gd BE SE hh hd
  go_enter Tryd.func3, Tryd.ntmps3
  go_wp2_with fail
  rw [HW.out]
  refine (BN.out W HM.out).mono ?_
  rintro e w1 ⟨rfl, hK1⟩
  obtain ⟨b0, b1, b2, b3⟩ := HB.out.later hK1
  have SR := Lib.hid (SN.out w1 (HM.out.later hK1))
  go_wp2_with fail
  refine SR.out.mono ?_
  rintro e w2 ⟨rfl, hK3⟩
  have HX := Lib.hid (show BBx (w2.alloc noBk) w2.heap.size noA noB from ⟨by simp, by simp [noA, noB], by simp [noA, noB], by simp [noB]⟩)
  have k4 := (Kept.refl w2).alloc noBk
  have K4 := Lib.hid (hK1.trans (hK3.trans k4))
  clear b0 b1 b2 b3
  obtain ⟨b0, b1, b2, b3⟩ := HB.out.later (hK1.trans hK3)
  have bl2 : w.heap.size < w2.heap.size := b0
  generalize hw3 : w2.alloc noBk = w3 at *
  have HW3 := Lib.hid hw3
  clear k4 hw3 hK3 hK1
  have RBR := Lib.hid (RB.out w3 (HM.out.later K4.out))
  go_wp2_with fail
  rw [HW3.out]
  refine RBR.out.mono ?_
  rintro e w4 ⟨rfl, hK5⟩
  have K5 := Lib.hid hK5
  have HMb := Lib.hid (HM.out.later (K4.out.trans hK5))
  clear b0 b1 b2 b3 hK5
  obtain ⟨b0, b1, b2, b3⟩ := HB.out.later (K4.out.trans K5.out)
  have RH := Lib.hid (rhas_any c b.acs q.aa q.ca w4 HMb.out.an HMb.out.acs)
  rw [HH.out] at RH
  go_wp2_with fail
  refine RH.out.mono ?_
  rintro e w5 ⟨rfl, hK6⟩
  have K6 := Lib.hid (K5.out.trans hK6)
  clear b0 b1 b2 b3 hK6
  obtain ⟨b0, b1, b2, b3⟩ := HB.out.later (K4.out.trans K6.out)
  go_wp2_with fail
  refine (rday_any _ _).mono ?_
  rintro e wz ⟨rfl, rfl⟩
  rw [HD.out]
  go_wp2_with fail
  refine (rday_any _ _).mono ?_
  rintro e wz ⟨rfl, rfl⟩
  rw [HD.out]
  obtain ⟨x0, x1, x2, x3⟩ := HX.out.later K6.out
  simp only [noA, noB, List.length_nil] at x1 x2 x3
  have bl5 : w.heap.size < w5.heap.size := b0
  have bl6 : w2.heap.size < w5.heap.size := x0
  have kT := (Kept.refl w5).alloc noBk
  have TD := Lib.hid (told_no 1 (w5.alloc noBk))
  go_wp2_with fail
  refine TD.out.mono ?_
  rintro e w9 ⟨rfl, hK9⟩
  go_wp2
  go_ret
  exact ⟨by simp, HK.out.trans (K4.out.trans (K6.out.trans (kT.trans hK9)))⟩
set_option maxRecDepth 100000 in
set_option maxHeartbeats 4000000 in
theorem tells_e (q : BkA) (b : Bk) (c : ByteArray) (d : Int) (w : World) (hM : BkM w q b) (hcs : c.size ≤ maxLen) (gd : bkE b = 0) (hh : hasB c b.acs = true) (hd : dyB d = true) (hs : d < b.shut) :
    Calls Tryd.prog 3 #[bkV q b, .string c, .int .i64 d] w fun e w' => e = .returned (.bool true) ∧ Below w.heap.size w w' := by
  have hK2 := (Kept.refl w).alloc (bkO q b)
  have HB := Lib.hid (BBx.new w q b)
  have HM := Lib.hid (hM.later hK2)
  generalize hW : w.alloc (bkO q b) = W at *
  have HW := Lib.hid hW
  have HK := Lib.hid hK2
  clear hM hW hK2
  have BE : baE b c d = 0 := by unfold baE; rw [if_pos gd, if_pos hh, if_pos hd]
  have SE : shE b d = 9 := by unfold shE; rw [if_pos gd, if_pos hd, if_pos hs]
  have BN := Lib.hid (fun V (hV : BkM V q b) => bal_yes q b c d V hV BE)
  have SN := Lib.hid (fun V (hV : BkM V q b) => shut_no q b d V hV (by rw [SE]; decide))
  simp only [SE] at SN
  have RB := Lib.hid (fun V (hV : BkM V q b) => rbook_any q b V hV)
  simp only [gd] at RB
  have G := Lib.hid (bkE_iff.1 gd)
  have HH := Lib.hid hh
  have HD := Lib.hid (show inB d 0 292193 = true from hd)
  clear gd BE SE hh hd
  go_enter Tryd.func3, Tryd.ntmps3
  go_wp2_with fail
  rw [HW.out]
  refine (BN.out W HM.out).mono ?_
  rintro e w1 ⟨rfl, hK1⟩
  obtain ⟨b0, b1, b2, b3⟩ := HB.out.later hK1
  have SR := Lib.hid (SN.out w1 (HM.out.later hK1))
  generalize hvv : balS c d b.ens = vv at *
  have HV := Lib.hid hvv
  clear hvv
  go_wp2_with fail
  refine SR.out.mono ?_
  rintro e w2 ⟨rfl, hK3⟩
  have HX := Lib.hid (show BBx (w2.alloc noBk) w2.heap.size noA noB from ⟨by simp, by simp [noA, noB], by simp [noA, noB], by simp [noB]⟩)
  have k4 := (Kept.refl w2).alloc noBk
  have K4 := Lib.hid (hK1.trans (hK3.trans k4))
  clear b0 b1 b2 b3
  obtain ⟨b0, b1, b2, b3⟩ := HB.out.later (hK1.trans hK3)
  have bl2 : w.heap.size < w2.heap.size := b0
  generalize hw3 : w2.alloc noBk = w3 at *
  have HW3 := Lib.hid hw3
  clear k4 hw3 hK3 hK1
  have RBR := Lib.hid (RB.out w3 (HM.out.later K4.out))
  go_wp2_with fail
  rw [HW3.out]
  refine RBR.out.mono ?_
  rintro e w4 ⟨rfl, hK5⟩
  have K5 := Lib.hid hK5
  have HMb := Lib.hid (HM.out.later (K4.out.trans hK5))
  clear b0 b1 b2 b3 hK5
  obtain ⟨b0, b1, b2, b3⟩ := HB.out.later (K4.out.trans K5.out)
  have RH := Lib.hid (rhas_any c b.acs q.aa q.ca w4 HMb.out.an HMb.out.acs)
  rw [HH.out] at RH
  go_wp2_with fail
  refine RH.out.mono ?_
  rintro e w5 ⟨rfl, hK6⟩
  have K6 := Lib.hid (K5.out.trans hK6)
  clear b0 b1 b2 b3 hK6
  obtain ⟨b0, b1, b2, b3⟩ := HB.out.later (K4.out.trans K6.out)
  go_wp2_with fail
  refine (rday_any _ _).mono ?_
  rintro e wz ⟨rfl, rfl⟩
  rw [HD.out]
  go_wp2_with fail
  refine (rday_any _ _).mono ?_
  rintro e wz ⟨rfl, rfl⟩
  rw [HD.out]
  have RS := Lib.hid (rsums_any q b d w5 (HM.out.later (K4.out.trans K6.out)) G.out)
  go_wp2_with fail
  refine RS.out.mono ?_
  rintro e w6 ⟨bm, n, hist, rfl, hN, hsum, hK7⟩
  have hlk := hN.look hcs
  rw [hsum c, HV.out] at hlk
  have K7 := Lib.hid (K6.out.trans hK7)
  clear b0 b1 b2 b3 hK7 hsum
  obtain ⟨b0, b1, b2, b3⟩ := HB.out.later (K4.out.trans K7.out)
  obtain ⟨x0, x1, x2, x3⟩ := HX.out.later K7.out
  simp only [noA, noB, List.length_nil] at x1 x2 x3
  have bl5 : w.heap.size < w6.heap.size := b0
  have bl6 : w2.heap.size < w6.heap.size := x0
  have kT := (Kept.refl w6).alloc noBk
  have TD := Lib.hid (told_no 9 (w6.alloc noBk))
  go_wp2_with fail
  refine TD.out.mono ?_
  rintro e w9 ⟨rfl, hK9⟩
  go_wp2
  go_ret
  exact ⟨by simp, HK.out.trans (K4.out.trans (K7.out.trans (kT.trans hK9)))⟩
set_option maxRecDepth 100000 in
set_option maxHeartbeats 4000000 in
theorem tells_f (q : BkA) (b : Bk) (c : ByteArray) (d : Int) (w : World) (hM : BkM w q b) (hcs : c.size ≤ maxLen) (gd : bkE b = 0) (hh : hasB c b.acs = true) (hd : dyB d = true) (hs : ¬ d < b.shut) :
    Calls Tryd.prog 3 #[bkV q b, .string c, .int .i64 d] w fun e w' => e = .returned (.bool true) ∧ Below w.heap.size w w' := by
  have hK2 := (Kept.refl w).alloc (bkO q b)
  have HB := Lib.hid (BBx.new w q b)
  have HM := Lib.hid (hM.later hK2)
  generalize hW : w.alloc (bkO q b) = W at *
  have HW := Lib.hid hW
  have HK := Lib.hid hK2
  clear hM hW hK2
  have BE : baE b c d = 0 := by unfold baE; rw [if_pos gd, if_pos hh, if_pos hd]
  have SE : shE b d = 0 := by unfold shE; rw [if_pos gd, if_pos hd, if_neg hs]
  have BN := Lib.hid (fun V (hV : BkM V q b) => bal_yes q b c d V hV BE)
  have SN := Lib.hid (fun V (hV : BkM V q b) => shut_yes q b d V hV SE)
  obtain ⟨bx, hbx⟩ : ∃ bx : Bk, (⟨b.acs, b.ens, d⟩ : Bk) = bx := ⟨_, rfl⟩
  simp only [hbx] at SN
  have RB := Lib.hid (fun V (hV : BkM V q b) => rbook_any q b V hV)
  simp only [gd] at RB
  have G := Lib.hid (bkE_iff.1 gd)
  have HH := Lib.hid hh
  have HD := Lib.hid (show inB d 0 292193 = true from hd)
  have X1 := Lib.hid (show b.acs.length = bx.acs.length by rw [← hbx])
  have X2 := Lib.hid (show b.ens.length = bx.ens.length by rw [← hbx])
  have X3 := Lib.hid (show d = bx.shut by rw [← hbx])
  have GX := Lib.hid (show bx.acs.length ≤ 24 ∧ bx.ens.length ≤ 60 ∧ ∀ x ∈ bx.ens, x.lns.length ≤ 12 by rw [← hbx]; exact ⟨G.out.a24, G.out.many, G.out.lines⟩)
  have MX := Lib.hid (fun V (hV : BkM V q b) => show BkM V q bx by rw [← hbx]; exact ⟨hV.acs, hV.sha, hV.la, hV.lca, hV.ens, hV.she, hV.le, hV.lce⟩)
  clear hbx
  clear gd BE SE hh hd
  go_enter Tryd.func3, Tryd.ntmps3
  go_wp2_with fail
  rw [HW.out]
  refine (BN.out W HM.out).mono ?_
  rintro e w1 ⟨rfl, hK1⟩
  obtain ⟨b0, b1, b2, b3⟩ := HB.out.later hK1
  have SR := Lib.hid (SN.out w1 (HM.out.later hK1))
  generalize hvv : balS c d b.ens = vv at *
  have HV := Lib.hid hvv
  clear hvv
  go_wp2_with fail
  refine SR.out.mono ?_
  rintro e w2 ⟨q2, rfl, hF2, hK3⟩
  have HX := Lib.hid (BBx.new w2 q2 bx)
  have k4 := (Kept.refl w2).alloc (bkO q2 bx)
  have HMX := Lib.hid (hF2.m.later k4)
  have K4 := Lib.hid (hK1.trans (hK3.trans k4))
  clear b0 b1 b2 b3
  obtain ⟨b0, b1, b2, b3⟩ := HB.out.later (hK1.trans hK3)
  have bl2 : w.heap.size < w2.heap.size := b0
  generalize hw3 : w2.alloc (bkO q2 bx) = w3 at *
  have HW3 := Lib.hid hw3
  clear hF2 k4 hw3 hK3 hK1
  have RBR := Lib.hid (RB.out w3 (HM.out.later K4.out))
  go_wp2_with fail
  rw [HW3.out]
  refine RBR.out.mono ?_
  rintro e w4 ⟨rfl, hK5⟩
  have K5 := Lib.hid hK5
  have HMb := Lib.hid (HM.out.later (K4.out.trans hK5))
  clear b0 b1 b2 b3 hK5
  obtain ⟨b0, b1, b2, b3⟩ := HB.out.later (K4.out.trans K5.out)
  have RH := Lib.hid (rhas_any c b.acs q.aa q.ca w4 HMb.out.an HMb.out.acs)
  rw [HH.out] at RH
  go_wp2_with fail
  refine RH.out.mono ?_
  rintro e w5 ⟨rfl, hK6⟩
  have K6 := Lib.hid (K5.out.trans hK6)
  clear b0 b1 b2 b3 hK6
  obtain ⟨b0, b1, b2, b3⟩ := HB.out.later (K4.out.trans K6.out)
  go_wp2_with fail
  refine (rday_any _ _).mono ?_
  rintro e wz ⟨rfl, rfl⟩
  rw [HD.out]
  go_wp2_with fail
  refine (rday_any _ _).mono ?_
  rintro e wz ⟨rfl, rfl⟩
  rw [HD.out]
  have RS := Lib.hid (rsums_any q b d w5 (HM.out.later (K4.out.trans K6.out)) G.out)
  go_wp2_with fail
  refine RS.out.mono ?_
  rintro e w6 ⟨bm, n, hist, rfl, hN, hsum, hK7⟩
  have hlk := hN.look hcs
  rw [hsum c, HV.out] at hlk
  have K7 := Lib.hid (K6.out.trans hK7)
  clear b0 b1 b2 b3 hK7 hsum
  obtain ⟨b0, b1, b2, b3⟩ := HB.out.later (K4.out.trans K7.out)
  obtain ⟨x0, x1, x2, x3⟩ := HX.out.later K7.out
  have bl5 : w.heap.size < w6.heap.size := b0
  have bl6 : w2.heap.size < w6.heap.size := x0
  rw [X1.out] at b1
  rw [X2.out] at b2
  rw [← X3.out] at x3
  have kT := (Kept.refl w6).alloc (.cells #[.slice q.aa bx.acs.length q.ca, .slice q.ae bx.ens.length q.ce, .int .i64 d] 25)
  have TD := Lib.hid (told_yes q2 q bx 0 _ (HMX.out.later (K7.out.trans kT)) (MX.out _ (HM.out.later (K4.out.trans (K7.out.trans kT)))) GX.out.1 GX.out.2.1 GX.out.2.2)
  simp only [bkV, ← X3.out] at TD
  go_wp2_with fail
  refine TD.out.mono ?_
  rintro e w9 ⟨rfl, hK9⟩
  go_wp2
  go_ret
  exact ⟨by simp, HK.out.trans (K4.out.trans (K7.out.trans (kT.trans hK9)))⟩
theorem bookTells_walk (q : BkA) (b : Bk) (c : ByteArray) (d : Int) (w : World) (hM : BkM w q b) (hcs : c.size ≤ maxLen) :
    Calls Tryd.prog 3 #[bkV q b, .string c, .int .i64 d] w fun e w' => e = .returned (.bool true) ∧ Below w.heap.size w w' := by
  by_cases gd : bkE b = 0
  · cases hh : hasB c b.acs
    · cases hd : dyB d
      · exact tells_a q b c d w hM hcs gd hh hd
      · by_cases hs : d < b.shut
        · exact tells_b q b c d w hM hcs gd hh hd hs
        · exact tells_c q b c d w hM hcs gd hh hd hs
    · cases hd : dyB d
      · exact tells_d q b c d w hM hcs gd hh hd
      · by_cases hs : d < b.shut
        · exact tells_e q b c d w hM hcs gd hh hd hs
        · exact tells_f q b c d w hM hcs gd hh hd hs
  · exact tells_n q b c d w hM hcs gd
end Go.Proofs.YtndplbpdojbieaaDoor
