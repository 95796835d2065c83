/-
  The law TrialSays: for every book and both days it answers true; nothing that was there is turned. No condition but those that each theorem names.
-/
import Derived.Test.YtjfflnkocajkeaaDoorJWalkD
namespace Go.Proofs.YtjfflnkocajkeaaDoor
open Go.RowKit
set_option linter.unusedVariables false

set_option maxRecDepth 100000 in
set_option maxHeartbeats 4000000 in
theorem says_a (q : BkA) (b : Bk) (d t : Int) (w : World) (hM : BkM w q b) (gd : ¬ bkE b = 0) :
    Calls Tryd.prog 3 #[bkV q b, .int .i64 d, .int .i64 t] w fun e w' => e = .returned (.bool true) ∧ Below w.heap.size w w' := by
  have hK2 := (Kept.refl w).alloc (bkO q b)
  have HB := Lib.hid (BBx.new w q b)
  have HM := Lib.hid (hM.later hK2)
  generalize hW : w.alloc (bkO q b) = W at HB HM hK2
  have HW := Lib.hid hW
  have HK := Lib.hid hK2
  clear hM hW hK2
  have e1 := fun f t => show tcE b f t = bkE b by unfold tcE; rw [if_neg gd]
  have T1 := Lib.hid (fun V (h : BkM V q b) => trial_no q b d V h (by rw [e1]; exact gd))
  have T2 := Lib.hid (fun V (h : BkM V q b) => profit_no q b d t V h (by rw [e1]; exact gd))
  have T3 := Lib.hid (fun V (h : BkM V q b) => sheet_no q b d V h (by rw [e1]; exact gd))
  simp only [e1] at T1 T2 T3
  have RB := Lib.hid (fun V (hV : BkM V q b) => rbook_any q b V hV)
  have ne1 : (bkE b == 0) = false := by simpa using gd
  have ne2 : (bkE b != 0) = true := by simpa using gd
  clear gd e1
  generalize bkE b = ek at *
  obtain ⟨b0, b1, b2, b3⟩ := HB.out
  go_enter Tryd.func3, Tryd.ntmps3
  go_wp2_with fail
  rw [HW.out]
  refine (T1.out W HM.out).mono ?_
  rintro e w1 ⟨rfl, hK1⟩
  clear b0 b1 b2 b3
  obtain ⟨b0, b1, b2, b3⟩ := HB.out.later hK1
  have M1 := Lib.hid (HM.out.later hK1)
  have K1 := Lib.hid hK1
  clear hK1
  go_wp2_with fail
  refine (T2.out w1 M1.out).mono ?_
  rintro e w2 ⟨rfl, hK2⟩
  have K2 := Lib.hid (K1.out.trans hK2)
  clear b0 b1 b2 b3 hK2 K1 M1
  obtain ⟨b0, b1, b2, b3⟩ := HB.out.later K2.out
  have M2 := Lib.hid (HM.out.later K2.out)
  go_wp2_with fail
  refine (T3.out w2 M2.out).mono ?_
  rintro e w3 ⟨rfl, hK3⟩
  have K3 := Lib.hid (K2.out.trans hK3)
  clear b0 b1 b2 b3 hK3 K2 M2
  obtain ⟨b0, b1, b2, b3⟩ := HB.out.later K3.out
  have M3 := Lib.hid (HM.out.later K3.out)
  go_wp2_with fail
  refine (RB.out w3 M3.out).mono ?_
  rintro e w4 ⟨rfl, hK4⟩
  have K4 := Lib.hid (K3.out.trans hK4)
  clear b0 b1 b2 b3 hK4 K3 M3
  obtain ⟨b0, b1, b2, b3⟩ := HB.out.later K4.out
  go_wp2
  go_ret
  exact ⟨by simp, HK.out.trans K4.out⟩
set_option maxRecDepth 100000 in
set_option maxHeartbeats 4000000 in
theorem says_b (q : BkA) (b : Bk) (d t : Int) (w : World) (hM : BkM w q b) (gd : bkE b = 0) (hd : inB d 0 292193 = false) :
    Calls Tryd.prog 3 #[bkV q b, .int .i64 d, .int .i64 t] w fun e w' => e = .returned (.bool true) ∧ Below w.heap.size w w' := by
  have hK2 := (Kept.refl w).alloc (bkO q b)
  have HB := Lib.hid (BBx.new w q b)
  have HM := Lib.hid (hM.later hK2)
  generalize hW : w.alloc (bkO q b) = W at HB HM hK2
  have HW := Lib.hid hW
  have HK := Lib.hid hK2
  clear hM hW hK2
  have hd2 : ¬ (0 ≤ d ∧ d ≤ 292193) := fun h => by rw [(inB_iff _ _ _).2 h] at hd; exact absurd hd (by decide)
  have e1 : tcE b d d = 1 := by unfold tcE; rw [if_pos gd, if_neg (by omega)]
  have e2 : tcE b d t = 1 := by unfold tcE; rw [if_pos gd, if_neg (by omega)]
  have T1 := Lib.hid (fun V (h : BkM V q b) => trial_no q b d V h (by rw [e1]; decide))
  have T2 := Lib.hid (fun V (h : BkM V q b) => profit_no q b d t V h (by rw [e2]; decide))
  have T3 := Lib.hid (fun V (h : BkM V q b) => sheet_no q b d V h (by rw [e1]; decide))
  simp only [e1] at T1 T3
  simp only [e2] at T2
  have RB := Lib.hid (fun V (hV : BkM V q b) => rbook_any q b V hV)
  simp only [gd] at RB
  clear gd e1 e2 hd2
  obtain ⟨b0, b1, b2, b3⟩ := HB.out
  go_enter Tryd.func3, Tryd.ntmps3
  go_wp2_with fail
  rw [HW.out]
  refine (T1.out W HM.out).mono ?_
  rintro e w1 ⟨rfl, hK1⟩
  clear b0 b1 b2 b3
  obtain ⟨b0, b1, b2, b3⟩ := HB.out.later hK1
  have M1 := Lib.hid (HM.out.later hK1)
  have K1 := Lib.hid hK1
  clear hK1
  go_wp2_with fail
  refine (T2.out w1 M1.out).mono ?_
  rintro e w2 ⟨rfl, hK2⟩
  have K2 := Lib.hid (K1.out.trans hK2)
  clear b0 b1 b2 b3 hK2 K1 M1
  obtain ⟨b0, b1, b2, b3⟩ := HB.out.later K2.out
  have M2 := Lib.hid (HM.out.later K2.out)
  go_wp2_with fail
  refine (T3.out w2 M2.out).mono ?_
  rintro e w3 ⟨rfl, hK3⟩
  have K3 := Lib.hid (K2.out.trans hK3)
  clear b0 b1 b2 b3 hK3 K2 M2
  obtain ⟨b0, b1, b2, b3⟩ := HB.out.later K3.out
  have M3 := Lib.hid (HM.out.later K3.out)
  go_wp2_with fail
  refine (RB.out w3 M3.out).mono ?_
  rintro e w4 ⟨rfl, hK4⟩
  have K4 := Lib.hid (K3.out.trans hK4)
  clear b0 b1 b2 b3 hK4 K3 M3
  obtain ⟨b0, b1, b2, b3⟩ := HB.out.later K4.out
  go_wp2_with fail
  refine (rday_any d w4).mono ?_
  rintro e w5 ⟨rfl, rfl⟩
  rw [hd]
  go_wp2
  go_ret
  exact ⟨rfl, HK.out.trans K4.out⟩
set_option maxRecDepth 100000 in
set_option maxHeartbeats 4000000 in
theorem says_c (q : BkA) (b : Bk) (d t : Int) (w : World) (hM : BkM w q b) (gd : bkE b = 0) (hd : inB d 0 292193 = true) (ht : inB t 0 292193 = false) :
    Calls Tryd.prog 3 #[bkV q b, .int .i64 d, .int .i64 t] w fun e w' => e = .returned (.bool true) ∧ Below w.heap.size w w' := by
  have hK2 := (Kept.refl w).alloc (bkO q b)
  have HB := Lib.hid (BBx.new w q b)
  have HM := Lib.hid (hM.later hK2)
  generalize hW : w.alloc (bkO q b) = W at HB HM hK2
  have HW := Lib.hid hW
  have HK := Lib.hid hK2
  clear hM hW hK2
  obtain ⟨d0, d1⟩ := (inB_iff _ _ _).1 hd
  have G := bkE_iff.1 gd
  have e1 : tcE b d d = 0 := tcE_of G ⟨d0, Int.le_refl _, d1⟩
  have T1 := Lib.hid (fun V (h : BkM V q b) => trial_yes q b d V h e1)
  have T3 := Lib.hid (fun V (h : BkM V q b) => sheet_yes q b d V h e1)
  have RB := Lib.hid (fun V (hV : BkM V q b) => rbook_any q b V hV)
  simp only [gd] at RB
  have RT := Lib.hid (fun V (hV : BkM V q b) => rtrial_any q b d V hV G)
  have RK := Lib.hid (fun f t k V (hV : BkM V q b) => rkinds_any q b f t k V hV G)
  have KB := Lib.hid (fun k f t => G.kbd (k := k) (f := f) (t := t))
  have e2 : tcE b d t = 1 := by
    unfold tcE
    rw [if_pos gd, if_neg]
    intro h
    rw [(inB_iff _ _ _).2 ⟨show 0 ≤ t by omega, h.2.2⟩] at ht; exact absurd ht (by decide)
  have T2 := Lib.hid (fun V (h : BkM V q b) => profit_no q b d t V h (by rw [e2]; decide))
  simp only [e2] at T2
  clear gd e1 e2 G d0 d1
  obtain ⟨b0, b1, b2, b3⟩ := HB.out
  go_enter Tryd.func3, Tryd.ntmps3
  go_wp2_with fail
  rw [HW.out]
  refine (T1.out W HM.out).mono ?_
  rintro e w1 ⟨rfl, hK1⟩
  clear b0 b1 b2 b3
  obtain ⟨b0, b1, b2, b3⟩ := HB.out.later hK1
  have M1 := Lib.hid (HM.out.later hK1)
  have K1 := Lib.hid hK1
  clear hK1
  go_wp2_with fail
  refine (T2.out w1 M1.out).mono ?_
  rintro e w2 ⟨rfl, hK2⟩
  have K2 := Lib.hid (K1.out.trans hK2)
  clear b0 b1 b2 b3 hK2 K1 M1
  obtain ⟨b0, b1, b2, b3⟩ := HB.out.later K2.out
  have M2 := Lib.hid (HM.out.later K2.out)
  go_wp2_with fail
  refine (T3.out w2 M2.out).mono ?_
  rintro e w3 ⟨rfl, hK3⟩
  have K3 := Lib.hid (K2.out.trans hK3)
  clear b0 b1 b2 b3 hK3 K2 M2
  obtain ⟨b0, b1, b2, b3⟩ := HB.out.later K3.out
  have M3 := Lib.hid (HM.out.later K3.out)
  go_wp2_with fail
  refine (RB.out w3 M3.out).mono ?_
  rintro e w4 ⟨rfl, hK4⟩
  have K4 := Lib.hid (K3.out.trans hK4)
  clear b0 b1 b2 b3 hK4 K3 M3
  obtain ⟨b0, b1, b2, b3⟩ := HB.out.later K4.out
  go_wp2_with fail
  refine (rday_any d w4).mono ?_
  rintro e w5 ⟨rfl, rfl⟩
  rw [hd]
  have M4 := Lib.hid (HM.out.later K4.out)
  go_wp2_with fail
  refine (RT.out w4 M4.out).mono ?_
  rintro e w5 ⟨rfl, hK5⟩
  have K5 := Lib.hid (K4.out.trans hK5)
  clear b0 b1 b2 b3 hK5 K4 M4
  obtain ⟨b0, b1, b2, b3⟩ := HB.out.later K5.out
  have M5 := Lib.hid (HM.out.later K5.out)
  generalize upS (fun c => balS c d b.ens) b.acs = U1 at *
  generalize dnS (fun c => balS c d b.ens) b.acs = U2 at *
  obtain ⟨x1, x2⟩ := KB.out 1 0 d
  obtain ⟨x3, x4⟩ := KB.out 2 0 d
  go_wp2_with fail
  refine (RK.out 0 d 0 w5 M5.out).mono ?_
  rintro e w6 ⟨rfl, hK6⟩
  have K6 := Lib.hid (K5.out.trans hK6)
  clear b0 b1 b2 b3 hK6 K5 M5
  obtain ⟨b0, b1, b2, b3⟩ := HB.out.later K6.out
  have M6 := Lib.hid (HM.out.later K6.out)
  generalize kinS b.acs 0 0 d b.ens = A0 at *
  go_wp2_with fail
  refine (RK.out 0 d 1 w6 M6.out).mono ?_
  rintro e w7 ⟨rfl, hK7⟩
  have K7 := Lib.hid (K6.out.trans hK7)
  clear b0 b1 b2 b3 hK7 K6 M6
  obtain ⟨b0, b1, b2, b3⟩ := HB.out.later K7.out
  have M7 := Lib.hid (HM.out.later K7.out)
  generalize kinS b.acs 1 0 d b.ens = A1 at *
  have u1 : IntKind.i64.wrap (0 - A1) = -A1 := by rw [show (0 : Int) - A1 = -A1 by omega]; exact IntWalk.i64_in _ (by omega)
  have u1' : IntKind.i64.wrap (-A1) = -A1 := IntWalk.i64_in _ (by omega)
  go_wp2_with fail
  refine (RK.out 0 d 2 w7 M7.out).mono ?_
  rintro e w8 ⟨rfl, hK8⟩
  have K8 := Lib.hid (K7.out.trans hK8)
  clear b0 b1 b2 b3 hK8 K7 M7
  have M8 := Lib.hid (HM.out.later K8.out)
  generalize kinS b.acs 2 0 d b.ens = A2 at *
  have u2 : IntKind.i64.wrap (0 - A2) = -A2 := by rw [show (0 : Int) - A2 = -A2 by omega]; exact IntWalk.i64_in _ (by omega)
  have u2' : IntKind.i64.wrap (-A2) = -A2 := IntWalk.i64_in _ (by omega)
  have DY := Lib.hid (fun V => rday_any t V)
  go_wp2_with fail
  refine (DY.out w8).mono ?_
  rintro e w9 ⟨rfl, rfl⟩
  rw [ht]
  go_wp2
  go_ret
  exact ⟨rfl, HK.out.trans K8.out⟩
set_option maxRecDepth 100000 in
set_option maxHeartbeats 4000000 in
theorem says_d (q : BkA) (b : Bk) (d t : Int) (w : World) (hM : BkM w q b) (gd : bkE b = 0) (hd : inB d 0 292193 = true) (ht : inB t 0 292193 = true) (hl : t < d) :
    Calls Tryd.prog 3 #[bkV q b, .int .i64 d, .int .i64 t] w fun e w' => e = .returned (.bool true) ∧ Below w.heap.size w w' := by
  have hK2 := (Kept.refl w).alloc (bkO q b)
  have HB := Lib.hid (BBx.new w q b)
  have HM := Lib.hid (hM.later hK2)
  generalize hW : w.alloc (bkO q b) = W at HB HM hK2
  have HW := Lib.hid hW
  have HK := Lib.hid hK2
  clear hM hW hK2
  obtain ⟨d0, d1⟩ := (inB_iff _ _ _).1 hd
  have G := bkE_iff.1 gd
  have e1 : tcE b d d = 0 := tcE_of G ⟨d0, Int.le_refl _, d1⟩
  have T1 := Lib.hid (fun V (h : BkM V q b) => trial_yes q b d V h e1)
  have T3 := Lib.hid (fun V (h : BkM V q b) => sheet_yes q b d V h e1)
  have RB := Lib.hid (fun V (hV : BkM V q b) => rbook_any q b V hV)
  simp only [gd] at RB
  have RT := Lib.hid (fun V (hV : BkM V q b) => rtrial_any q b d V hV G)
  have RK := Lib.hid (fun f t k V (hV : BkM V q b) => rkinds_any q b f t k V hV G)
  have KB := Lib.hid (fun k f t => G.kbd (k := k) (f := f) (t := t))
  have e2 : tcE b d t = 1 := by unfold tcE; rw [if_pos gd, if_neg (by omega)]
  have T2 := Lib.hid (fun V (h : BkM V q b) => profit_no q b d t V h (by rw [e2]; decide))
  simp only [e2] at T2
  have hl2 : decide (t < d) = true := by simpa using hl
  clear gd e1 e2 G d0 d1 hl
  obtain ⟨b0, b1, b2, b3⟩ := HB.out
  go_enter Tryd.func3, Tryd.ntmps3
  go_wp2_with fail
  rw [HW.out]
  refine (T1.out W HM.out).mono ?_
  rintro e w1 ⟨rfl, hK1⟩
  clear b0 b1 b2 b3
  obtain ⟨b0, b1, b2, b3⟩ := HB.out.later hK1
  have M1 := Lib.hid (HM.out.later hK1)
  have K1 := Lib.hid hK1
  clear hK1
  go_wp2_with fail
  refine (T2.out w1 M1.out).mono ?_
  rintro e w2 ⟨rfl, hK2⟩
  have K2 := Lib.hid (K1.out.trans hK2)
  clear b0 b1 b2 b3 hK2 K1 M1
  obtain ⟨b0, b1, b2, b3⟩ := HB.out.later K2.out
  have M2 := Lib.hid (HM.out.later K2.out)
  go_wp2_with fail
  refine (T3.out w2 M2.out).mono ?_
  rintro e w3 ⟨rfl, hK3⟩
  have K3 := Lib.hid (K2.out.trans hK3)
  clear b0 b1 b2 b3 hK3 K2 M2
  obtain ⟨b0, b1, b2, b3⟩ := HB.out.later K3.out
  have M3 := Lib.hid (HM.out.later K3.out)
  go_wp2_with fail
  refine (RB.out w3 M3.out).mono ?_
  rintro e w4 ⟨rfl, hK4⟩
  have K4 := Lib.hid (K3.out.trans hK4)
  clear b0 b1 b2 b3 hK4 K3 M3
  obtain ⟨b0, b1, b2, b3⟩ := HB.out.later K4.out
  go_wp2_with fail
  refine (rday_any d w4).mono ?_
  rintro e w5 ⟨rfl, rfl⟩
  rw [hd]
  have M4 := Lib.hid (HM.out.later K4.out)
  go_wp2_with fail
  refine (RT.out w4 M4.out).mono ?_
  rintro e w5 ⟨rfl, hK5⟩
  have K5 := Lib.hid (K4.out.trans hK5)
  clear b0 b1 b2 b3 hK5 K4 M4
  obtain ⟨b0, b1, b2, b3⟩ := HB.out.later K5.out
  have M5 := Lib.hid (HM.out.later K5.out)
  generalize upS (fun c => balS c d b.ens) b.acs = U1 at *
  generalize dnS (fun c => balS c d b.ens) b.acs = U2 at *
  obtain ⟨x1, x2⟩ := KB.out 1 0 d
  obtain ⟨x3, x4⟩ := KB.out 2 0 d
  go_wp2_with fail
  refine (RK.out 0 d 0 w5 M5.out).mono ?_
  rintro e w6 ⟨rfl, hK6⟩
  have K6 := Lib.hid (K5.out.trans hK6)
  clear b0 b1 b2 b3 hK6 K5 M5
  obtain ⟨b0, b1, b2, b3⟩ := HB.out.later K6.out
  have M6 := Lib.hid (HM.out.later K6.out)
  generalize kinS b.acs 0 0 d b.ens = A0 at *
  go_wp2_with fail
  refine (RK.out 0 d 1 w6 M6.out).mono ?_
  rintro e w7 ⟨rfl, hK7⟩
  have K7 := Lib.hid (K6.out.trans hK7)
  clear b0 b1 b2 b3 hK7 K6 M6
  obtain ⟨b0, b1, b2, b3⟩ := HB.out.later K7.out
  have M7 := Lib.hid (HM.out.later K7.out)
  generalize kinS b.acs 1 0 d b.ens = A1 at *
  have u1 : IntKind.i64.wrap (0 - A1) = -A1 := by rw [show (0 : Int) - A1 = -A1 by omega]; exact IntWalk.i64_in _ (by omega)
  have u1' : IntKind.i64.wrap (-A1) = -A1 := IntWalk.i64_in _ (by omega)
  go_wp2_with fail
  refine (RK.out 0 d 2 w7 M7.out).mono ?_
  rintro e w8 ⟨rfl, hK8⟩
  have K8 := Lib.hid (K7.out.trans hK8)
  clear b0 b1 b2 b3 hK8 K7 M7
  have M8 := Lib.hid (HM.out.later K8.out)
  generalize kinS b.acs 2 0 d b.ens = A2 at *
  have u2 : IntKind.i64.wrap (0 - A2) = -A2 := by rw [show (0 : Int) - A2 = -A2 by omega]; exact IntWalk.i64_in _ (by omega)
  have u2' : IntKind.i64.wrap (-A2) = -A2 := IntWalk.i64_in _ (by omega)
  have DY := Lib.hid (fun V => rday_any t V)
  go_wp2_with fail
  refine (DY.out w8).mono ?_
  rintro e w9 ⟨rfl, rfl⟩
  rw [ht]
  go_wp2
  go_ret
  exact ⟨rfl, HK.out.trans K8.out⟩
set_option maxRecDepth 100000 in
set_option maxHeartbeats 4000000 in
theorem says_e (q : BkA) (b : Bk) (d t : Int) (w : World) (hM : BkM w q b) (gd : bkE b = 0) (hd : inB d 0 292193 = true) (ht : inB t 0 292193 = true) (hl : ¬ t < d) :
    Calls Tryd.prog 3 #[bkV q b, .int .i64 d, .int .i64 t] w fun e w' => e = .returned (.bool true) ∧ Below w.heap.size w w' := by
  have hK2 := (Kept.refl w).alloc (bkO q b)
  have HB := Lib.hid (BBx.new w q b)
  have HM := Lib.hid (hM.later hK2)
  generalize hW : w.alloc (bkO q b) = W at HB HM hK2
  have HW := Lib.hid hW
  have HK := Lib.hid hK2
  clear hM hW hK2
  obtain ⟨d0, d1⟩ := (inB_iff _ _ _).1 hd
  have G := bkE_iff.1 gd
  have e1 : tcE b d d = 0 := tcE_of G ⟨d0, Int.le_refl _, d1⟩
  have T1 := Lib.hid (fun V (h : BkM V q b) => trial_yes q b d V h e1)
  have T3 := Lib.hid (fun V (h : BkM V q b) => sheet_yes q b d V h e1)
  have RB := Lib.hid (fun V (hV : BkM V q b) => rbook_any q b V hV)
  simp only [gd] at RB
  have RT := Lib.hid (fun V (hV : BkM V q b) => rtrial_any q b d V hV G)
  have RK := Lib.hid (fun f t k V (hV : BkM V q b) => rkinds_any q b f t k V hV G)
  have KB := Lib.hid (fun k f t => G.kbd (k := k) (f := f) (t := t))
  have e2 : tcE b d t = 0 := tcE_of G ⟨d0, by omega, ((inB_iff _ _ _).1 ht).2⟩
  have T2 := Lib.hid (fun V (h : BkM V q b) => profit_yes q b d t V h e2)
  have hl2 : decide (t < d) = false := by simpa using hl
  clear gd e1 e2 G d0 d1 hl
  obtain ⟨b0, b1, b2, b3⟩ := HB.out
  go_enter Tryd.func3, Tryd.ntmps3
  go_wp2_with fail
  rw [HW.out]
  refine (T1.out W HM.out).mono ?_
  rintro e w1 ⟨rfl, hK1⟩
  clear b0 b1 b2 b3
  obtain ⟨b0, b1, b2, b3⟩ := HB.out.later hK1
  have M1 := Lib.hid (HM.out.later hK1)
  have K1 := Lib.hid hK1
  clear hK1
  go_wp2_with fail
  refine (T2.out w1 M1.out).mono ?_
  rintro e w2 ⟨rfl, hK2⟩
  have K2 := Lib.hid (K1.out.trans hK2)
  clear b0 b1 b2 b3 hK2 K1 M1
  obtain ⟨b0, b1, b2, b3⟩ := HB.out.later K2.out
  have M2 := Lib.hid (HM.out.later K2.out)
  go_wp2_with fail
  refine (T3.out w2 M2.out).mono ?_
  rintro e w3 ⟨rfl, hK3⟩
  have K3 := Lib.hid (K2.out.trans hK3)
  clear b0 b1 b2 b3 hK3 K2 M2
  obtain ⟨b0, b1, b2, b3⟩ := HB.out.later K3.out
  have M3 := Lib.hid (HM.out.later K3.out)
  go_wp2_with fail
  refine (RB.out w3 M3.out).mono ?_
  rintro e w4 ⟨rfl, hK4⟩
  have K4 := Lib.hid (K3.out.trans hK4)
  clear b0 b1 b2 b3 hK4 K3 M3
  obtain ⟨b0, b1, b2, b3⟩ := HB.out.later K4.out
  go_wp2_with fail
  refine (rday_any d w4).mono ?_
  rintro e w5 ⟨rfl, rfl⟩
  rw [hd]
  have M4 := Lib.hid (HM.out.later K4.out)
  go_wp2_with fail
  refine (RT.out w4 M4.out).mono ?_
  rintro e w5 ⟨rfl, hK5⟩
  have K5 := Lib.hid (K4.out.trans hK5)
  clear b0 b1 b2 b3 hK5 K4 M4
  obtain ⟨b0, b1, b2, b3⟩ := HB.out.later K5.out
  have M5 := Lib.hid (HM.out.later K5.out)
  generalize upS (fun c => balS c d b.ens) b.acs = U1 at *
  generalize dnS (fun c => balS c d b.ens) b.acs = U2 at *
  obtain ⟨x1, x2⟩ := KB.out 1 0 d
  obtain ⟨x3, x4⟩ := KB.out 2 0 d
  go_wp2_with fail
  refine (RK.out 0 d 0 w5 M5.out).mono ?_
  rintro e w6 ⟨rfl, hK6⟩
  have K6 := Lib.hid (K5.out.trans hK6)
  clear b0 b1 b2 b3 hK6 K5 M5
  obtain ⟨b0, b1, b2, b3⟩ := HB.out.later K6.out
  have M6 := Lib.hid (HM.out.later K6.out)
  generalize kinS b.acs 0 0 d b.ens = A0 at *
  go_wp2_with fail
  refine (RK.out 0 d 1 w6 M6.out).mono ?_
  rintro e w7 ⟨rfl, hK7⟩
  have K7 := Lib.hid (K6.out.trans hK7)
  clear b0 b1 b2 b3 hK7 K6 M6
  obtain ⟨b0, b1, b2, b3⟩ := HB.out.later K7.out
  have M7 := Lib.hid (HM.out.later K7.out)
  generalize kinS b.acs 1 0 d b.ens = A1 at *
  have u1 : IntKind.i64.wrap (0 - A1) = -A1 := by rw [show (0 : Int) - A1 = -A1 by omega]; exact IntWalk.i64_in _ (by omega)
  have u1' : IntKind.i64.wrap (-A1) = -A1 := IntWalk.i64_in _ (by omega)
  go_wp2_with fail
  refine (RK.out 0 d 2 w7 M7.out).mono ?_
  rintro e w8 ⟨rfl, hK8⟩
  have K8 := Lib.hid (K7.out.trans hK8)
  clear b0 b1 b2 b3 hK8 K7 M7
  have M8 := Lib.hid (HM.out.later K8.out)
  generalize kinS b.acs 2 0 d b.ens = A2 at *
  have u2 : IntKind.i64.wrap (0 - A2) = -A2 := by rw [show (0 : Int) - A2 = -A2 by omega]; exact IntWalk.i64_in _ (by omega)
  have u2' : IntKind.i64.wrap (-A2) = -A2 := IntWalk.i64_in _ (by omega)
  have DY := Lib.hid (fun V => rday_any t V)
  go_wp2_with fail
  refine (DY.out w8).mono ?_
  rintro e w9 ⟨rfl, rfl⟩
  rw [ht]
  obtain ⟨y1, y2⟩ := KB.out 3 d t
  obtain ⟨y3, y4⟩ := KB.out 4 d t
  have PV := Lib.hid (show prV b d t = 0 - kinS b.acs 3 d t b.ens - kinS b.acs 4 d t b.ens by unfold prV; omega)
  have v1 : IntKind.i64.wrap (0 - kinS b.acs 3 d t b.ens) = 0 - kinS b.acs 3 d t b.ens := IntWalk.i64_in _ (by omega)
  have v1' : IntKind.i64.wrap (-kinS b.acs 3 d t b.ens) = -kinS b.acs 3 d t b.ens := IntWalk.i64_in _ (by omega)
  have v2 : IntKind.i64.wrap (0 - kinS b.acs 3 d t b.ens - kinS b.acs 4 d t b.ens) = prV b d t := by rw [PV.out]; exact IntWalk.i64_in _ (by omega)
  have v2' : IntKind.i64.wrap (-kinS b.acs 3 d t b.ens - kinS b.acs 4 d t b.ens) = prV b d t := by rw [PV.out, show -kinS b.acs 3 d t b.ens - kinS b.acs 4 d t b.ens = 0 - kinS b.acs 3 d t b.ens - kinS b.acs 4 d t b.ens by omega]; exact IntWalk.i64_in _ (by omega)
  have HH := Lib.hid (fun V (k : Kept w8 V) => show Kept w8 V ∧ V.cell? ⟨w.heap.size, 0, none⟩ = some (.slice q.aa b.acs.length q.ca) ∧ V.cell? ⟨w.heap.size, 1, none⟩ = some (.slice q.ae b.ens.length q.ce) ∧ V.cell? ⟨w.heap.size, 2, none⟩ = some (.int .i64 b.shut) from by
    obtain ⟨_, b0, b1, b2⟩ := HB.out.later (K8.out.trans k)
    exact ⟨k, b0, b1, b2⟩)
  clear y1 y2 y3 y4
  go_wp2_with fail
  go_region_held3 (fun w' => Kept w8 w' ∧ w'.cell? ⟨w.heap.size, 0, none⟩ = some (.slice q.aa b.acs.length q.ca) ∧ w'.cell? ⟨w.heap.size, 1, none⟩ = some (.slice q.ae b.ens.length q.ce) ∧ w'.cell? ⟨w.heap.size, 2, none⟩ = some (.int .i64 b.shut))
    (first | exact HH.out _ (Kept.refl w8).drew | exact HH.out _ Ka)
    (first | (go_at_call 11; refine (RK.out _ _ _ _ (HM.out.later (K8.out.trans (And.left (by assumption))))).mono ?_; rintro e w10 ⟨rfl, hk⟩; have Ka := Kept.trans (a := w8) (And.left (by assumption)) hk; clear hk))
  all_goals
    go_wp2
    go_ret
    exact ⟨rfl, HK.out.trans (K8.out.trans Ka)⟩
theorem trialSays_walk (q : BkA) (b : Bk) (d t : Int) (w : World) (hM : BkM w q b) :
    Calls Tryd.prog 3 #[bkV q b, .int .i64 d, .int .i64 t] w fun e w' => e = .returned (.bool true) ∧ Below w.heap.size w w' := by
  by_cases gd : bkE b = 0
  · cases hd : inB d 0 292193
    · exact says_b q b d t w hM gd hd
    · cases ht : inB t 0 292193
      · exact says_c q b d t w hM gd hd ht
      · by_cases hl : t < d
        · exact says_d q b d t w hM gd hd ht hl
        · exact says_e q b d t w hM gd hd ht hl
  · exact says_a q b d t w hM gd
end Go.Proofs.YtjfflnkocajkeaaDoor
