/-
  The law TopOwed: for all items and payments it answers true; nothing that was there is turned. No condition but those that each theorem names.
-/
import Derived.Test.YtdgiljndoeldcaaMgLBase
import Derived.Test.YtdgiljndoeldcaaGKeep
import Derived.Lib.Hide
namespace Go.Proofs.Ytdgiljndoeldcaa
open Go.RowKit
set_option linter.unusedVariables false

set_option maxRecDepth 100000 in
set_option maxHeartbeats 4000000 in
theorem topOwed_no (a : Option Addr) (l : List Mv) (cap : Nat) (b : Option Addr) (ps : List Int) (cap' : Nat) (w : World) (hA : JArg eP w a l) (hn : l.length ≤ maxLen) (er : itE l ≠ 0) :
    Calls Try.prog 14 #[.slice a l.length cap, .slice b ps.length cap'] w fun e w' => e = .returned (.bool true) ∧ Below w.heap.size w w' := by
  have FN := Lib.hid (fun V (k : Kept w V) => acheck_any a l cap V hn (hA.later k))
  have ne : (itE l != 0) = true := by simpa using er
  clear hA hn er
  generalize itE l = er at *
  go_enter Try.func14, Try.ntmps14
  go_wp2_with fail
  refine (tbegun_any _).mono ?_
  rintro e w1 ⟨rfl, hK1⟩
  have K1 := Lib.hid hK1
  clear hK1
  go_wp2_with fail
  refine (FN.out w1 K1.out).mono ?_
  rintro e w2 ⟨rfl, hK2⟩
  have K2 := Lib.hid (K1.out.trans hK2)
  clear hK2
  go_wp2_with fail
  refine (tbegun_any _).mono ?_
  rintro e w3 ⟨rfl, hK3⟩
  have K3 := Lib.hid (K2.out.trans hK3)
  clear hK3
  go_wp2
  go_ret
  exact ⟨rfl, K3.out⟩
theorem JRow.otherO {w : World} {p off r o : Nat} {l : List Mv} {v : Value} (h : JRow eP w p off l) (hr : r ≠ p) : JRow eP (w.setCell ⟨r, o, none⟩ v) p off l := by
  have hr' : p ≠ r := fun e => hr e.symm
  refine ⟨by simpa using h.lt, fun j u hj => ?_⟩
  have hc := h.c j u hj
  go_simp
theorem ItsRet.set3 {B w : World} {a : Option Addr} {c : Nat} {m : List Mv} (h : ItsRet B w a c m) {r : Nat} (hr : r < B.heap.size) (u v x : Value) :
    JArg eP (((w.setCell ⟨r, 0, none⟩ u).setCell ⟨r, 1, none⟩ v).setCell ⟨r, 2, none⟩ x) a m := by
  rcases h.row with h | ⟨g, rfl, hg, h⟩
  · exact .inl h
  · exact .inr ⟨g, 0, rfl, ((h.jrow.otherO (by omega)).otherO (by omega)).otherO (by omega)⟩
/-- A book that was posted, in the variable where it lay. -/
def PoPut (p : Nat) (W : World) (b : Bk) (a : Option Addr) (m : List Mv) (er : Value) (wx : World) : Prop :=
  ∃ q, er = .int .i64 0 ∧ VBk wx p q b ∧ (∃ B, p < B ∧ BkF wx B q b) ∧ JArg eP wx a m ∧ Kept W wx
set_option maxRecDepth 100000 in
set_option maxHeartbeats 8000000 in
theorem topOwed_yes (a : Option Addr) (l : List Mv) (cap : Nat) (pa : Option Addr) (ps : List Int) (cap' : Nat) (w : World) (hA : JArg eP w a l) (hc : l.length ≤ cap) (hm : cap ≤ maxLen) (hz : a = none → cap = 0) (hB : JArg eI w pa ps) (hc' : ps.length ≤ cap') (hm' : cap' ≤ maxLen) (ok : ItOk l) :
    Calls Try.prog 14 #[.slice a l.length cap, .slice pa ps.length cap'] w fun e w' => e = .returned (.bool true) ∧ Below w.heap.size w w' := by
  have FN := Lib.hid (fun V (k : Kept w V) => acheck_any a l cap V (by omega) (hA.later k))
  rw [itE_iff.2 ok] at FN
  have l40 := ok.len
  obtain ⟨t, ht⟩ : ∃ t, min l.length 30 = t := ⟨_, rfl⟩
  have htl : t ≤ l.length := by omega
  have ht30 : t ≤ 30 := by omega
  have hmin : min (l.length : Int) 30 = (t : Int) := by omega
  have g1 : (0 : Int) ≤ (t : Int) := by omega
  have g2 : (t : Int) ≤ (cap : Int) := by omega
  obtain ⟨u, hu⟩ : ∃ u, min ps.length 20 = u := ⟨_, rfl⟩
  have hul : u ≤ ps.length := by omega
  have hu20 : u ≤ 20 := by omega
  have hmin2 : min (ps.length : Int) 20 = (u : Int) := by omega
  have g3 : (0 : Int) ≤ (u : Int) := by omega
  have g4 : (u : Int) ≤ (cap' : Int) := by omega
  have HA := Lib.hid hA
  have HB := Lib.hid hB
  have HZ := Lib.hid hz
  have OK := Lib.hid ok
  clear hA hB hz ok ht hu
  go_enter Try.func14, Try.ntmps14
  go_wp2_with fail
  refine (tbegun_any _).mono ?_
  rintro e w1 ⟨rfl, hK1⟩
  have K1 := Lib.hid hK1
  clear hK1
  go_wp2_with fail
  refine (FN.out w1 K1.out).mono ?_
  rintro e w2 ⟨rfl, hK2⟩
  have K2 := Lib.hid (K1.out.trans hK2)
  clear hK2
  go_wp2_with fail
  refine (tplain_any _).mono ?_
  rintro e w3 ⟨q, rfl, hM, hK3⟩
  have V7 := Lib.hid (uv_new (w := w3) rfl q topB)
  have kX := Lib.hid ((Kept.refl w3).alloc (bkO q topB))
  have K3 := Lib.hid (K2.out.trans hK3)
  have HM := Lib.hid hM
  have TP0 := Lib.hid (show Tp topB (fun n => n < 0) 0 from Tp.new.mono (fun j h => h.elim) (Nat.le_refl 0))
  have OW0 := Lib.hid OwSt.new
  clear hM hK3 K2 K1 FN
  go_wp2
  go_loopw [34] (fun i wr => ∃ (j : Nat) (qb : BkA) (b : Bk), j ≤ t ∧ i = .int .i64 j ∧ VBk wr w3.heap.size qb b ∧ BkU w3 wr w3.heap.size qb b ∧ Hid (Tp b (fun n => n < j) j) ∧ Hid (OwSt b (csm (l.take j))) ∧ Kept w3 wr) (fun i _ => t - (intOf i).toNat)
  case atStart => exact ⟨0, q, topB, Nat.zero_le _, rfl, V7.out, .inl HM.out, TP0, OW0, kX.out⟩
  case round =>
    obtain ⟨j, qb, b, hj, rfl, hV, hBk, hT, hS, hK⟩ := hrel
    clear V7 kX HM TP0 OW0
    by_cases hlt : j < t
    · have hl : j < l.length := by omega
      obtain ⟨p, off, rfl, hR⟩ := (HA.out.later (K3.out.trans hK)).at hl
      have c0 := hR.c0 j hl
      have c1 := hR.c1 j hl
      have plt := hR.lt
      obtain ⟨x1, x2, x3, x4⟩ := OK.out.it _ (List.getElem_mem hl)
      have CS := Lib.hid (show csm (l.take (j + 1)) = csm (l.take j) + (l[j]).2 from by rw [take_snocP l j hl, csm_app, csm, csm]; omega)
      clear hR
      generalize l[j] = x at *
      have i0 : (0 : Int) ≤ (j : Int) := by omega
      have i1 : (j : Int) < (t : Int) := by omega
      have wl : w3.heap.size < wr.heap.size := hV.box.lt
      have HVB := Lib.hid hV
      have HBK := Lib.hid hBk
      have HK := Lib.hid hK
      clear hV hBk hK
      have HMX := Lib.hid (JBx.new (w := wr) rfl x 31)
      have kA := Lib.hid ((Kept.refl wr).alloc (.cells #[.int .i64 x.1, .int .i64 x.2] 31))
      have WZ := Lib.hid (show (wr.alloc (.cells #[.int .i64 x.1, .int .i64 x.2] 31)).heap.size = wr.heap.size + 1 by simp)
      go_upto_region 9 with fail
      clear c0 c1 plt
      generalize wr.alloc (.cells #[.int .i64 x.1, .int .i64 x.2] 31) = W5 at *
      have CKK := Lib.hid (show ∀ w', Kept W5 w' → Kept W5 w' ∧ (w'.cell? ⟨w3.heap.size, 0, none⟩ = some (.slice qb.aa b.acs.length qb.ca) ∧ w'.cell? ⟨w3.heap.size, 1, none⟩ = some (.slice qb.ae b.ens.length qb.ce) ∧ w'.cell? ⟨w3.heap.size, 2, none⟩ = some (.int .i64 b.shut)) ∧ w'.cell? ⟨wr.heap.size, 0, none⟩ = some (.int .i64 x.1) ∧ w'.cell? ⟨wr.heap.size, 1, none⟩ = some (.int .i64 x.2) from fun w' k => by
        obtain ⟨_, x0, x1, x2⟩ := (HVB.out.later (kA.out.trans k)).box
        obtain ⟨y0, y1, y2⟩ := HMX.out.later k
        exact ⟨k, ⟨x0, x1, x2⟩, y1, y2⟩)
      obtain ⟨ok, tp, st⟩ := hS.out.bill hT.out (j := j) (d := x.1) (c := x.2) (by omega) (by omega) (by omega) x1 x2 x3 x4
      have MV := Lib.hid (fun V => moved_big j x.1 x.2 c15 c40 V (by omega) (by omega) (by omega))
      have PY := Lib.hid (fun V p (k : Kept W5 V) (hO : POwn V p (mvL c15 c40 x.2)) => ky_post (k := j) (n := 2) (d := x.1) (c := 2) ((HBK.out.m HK.out).later (kA.out.trans k)) (by omega) rfl (by decide) hO (mvL_ok (tc := c15) (fr := c40) (a := x.2) (by decide +kernel) (by decide +kernel) (by decide) (by decide +kernel) (by decide +kernel) (by omega) (by omega) x4).2.2.2.2.2 (Nat.le_refl 2) (by unfold maxLen; decide) ok)
      have TP := Lib.hid (show Tp _ (fun n => n < j + 1) (j + 1) from tp.mono (fun n hn => by omega) (Nat.le_refl _))
      have ST := Lib.hid (show OwSt _ (csm (l.take (j + 1))) from by rw [CS.out]; exact st)
      clear ok tp st HMX
      go_cut [8, 9] (fun sp se wx => PoBoxF W5 (poV b ⟨kyS j, x.1, mvL c15 c40 x.2⟩) sp se wx)
      case first =>
        go_region_held3 (fun w' => Kept W5 w' ∧ (w'.cell? ⟨w3.heap.size, 0, none⟩ = some (.slice qb.aa b.acs.length qb.ca) ∧ w'.cell? ⟨w3.heap.size, 1, none⟩ = some (.slice qb.ae b.ens.length qb.ce) ∧ w'.cell? ⟨w3.heap.size, 2, none⟩ = some (.int .i64 b.shut)) ∧ w'.cell? ⟨wr.heap.size, 0, none⟩ = some (.int .i64 x.1) ∧ w'.cell? ⟨wr.heap.size, 1, none⟩ = some (.int .i64 x.2))
          (first | (refine CKK.out _ ?_; repeat' (first | (with_reducible assumption) | (with_reducible refine Kept.drew ?_) | (with_reducible refine Kept.alloc ?_ _) | (with_reducible refine Kept.setAt ?_ ?_ _) | (with_reducible exact Kept.refl _) | omega)))
          (first
            | (go_at_call 35; refine (MV.out _).mono ?_; rintro e w' ⟨p7, hp7, rfl, hO7, hkm⟩; have hKm := Kept.trans (a := W5) (And.left (by assumption)) hkm; have hsm := hKm.le; (try (have hz := (by first | exact vbk_box (w := W5) hkm | exact vbk_box (w := W5) (hkm.undrew) | exact vbk_box (w := W5.drew) hkm : VBk w' W5.heap.size noA noB); obtain ⟨⟨z8, z9, z10, z11⟩, z12, z13, z14⟩ := id hz)); clear hkm)
            | (go_at_call 34; refine (PY.out _ p7 (And.left (by assumption)) (POwn.later hO7 (by repeat' (first | (with_reducible exact Kept.refl _) | (with_reducible refine Kept.drew ?_) | (with_reducible refine Kept.alloc ?_ _))))).mono ?_; rintro e w' ⟨q2, rfl, hF, hkk⟩; have hKa := Kept.trans (a := W5) (And.left (by assumption)) hkk; (try (have hy := VBk.later hz ((by repeat' (first | (with_reducible exact Kept.refl _) | (with_reducible refine Kept.drew ?_) | (with_reducible refine Kept.alloc ?_ _)) : Kept _ _).trans hkk); clear z8 z9 z10 z11 z12 z13 z14; obtain ⟨⟨z8, z9, z10, z11⟩, z12, z13, z14⟩ := id hy)); (try ((first | have hy := vbk_box hkk | have hy := vbk_box (hkk.undrew)); obtain ⟨⟨z8, z9, z10, z11⟩, z12, z13, z14⟩ := id hy)); clear hkk))
        all_goals go_wp2_with fail
        all_goals go_meet
        all_goals refine ⟨_, q2, rfl, rfl, ?_, ?_, ?_, ?_⟩
        all_goals first
          | exact hKa.le
          | exact hsm
          | exact Nat.le_refl _
          | omega
          | exact BBx.newAt rfl _ _
          | exact vbk_fill hy q2 _
          | exact (hF.later ((Kept.refl _).alloc _)).mono (by first | exact hsm | exact Nat.le_refl _ | (simp; done) | (simp; omega))
          | exact (hF.set3 (by first | exact hsm | (simp; done) | (simp; omega)) _ _ _).mono (by first | exact hsm | exact Nat.le_refl _ | (simp; done) | (simp; omega))
          | exact (hF.set3 hz.box.lt _ _ _).mono hsm
          | exact hKa.alloc _
          | exact hKa.set3 (by first | exact hsm | exact Nat.le_refl _ | omega) _ _ _
          | (trace_state; sorry)
      case rest =>
        obtain ⟨g, q2, rfl, rfl, hg, hBy, hF, hK7⟩ := hcut
        have wz := WZ.out
        generalize hy2 : poV b ⟨kyS j, x.1, mvL c15 c40 x.2⟩ = y2 at *
        have hVV := HVB.out.later (kA.out.trans hK7)
        have R1 := Lib.hid (uv_put hVV (q' := q2) (b' := y2))
        have R2 := Lib.hid (hF.set3 (r := w3.heap.size) (by omega) (.slice q2.aa y2.acs.length q2.ca) (.slice q2.ae y2.ens.length q2.ce) (.int .i64 y2.shut))
        have R4 := Lib.hid ((HK.out.trans (kA.out.trans hK7)).set3 (p := w3.heap.size) (Nat.le_refl _) (.slice q2.aa y2.acs.length q2.ca) (.slice q2.ae y2.ens.length q2.ce) (.int .i64 y2.shut))
        have BB := Lib.hid (show BkU w3 _ w3.heap.size q2 y2 from .inr ⟨_, by omega, R2.out⟩)
        have HBy := Lib.hid hBy
        have HVV := Lib.hid hVV
        clear hK7 hF hBy hVV PY CKK MV HVB HBK HK kA R2 hg wz
        obtain ⟨y0, y1, y2', y3⟩ := HBy.out
        obtain ⟨⟨v0, v1, v2, v3⟩, f0, f1, f2⟩ := HVV.out
        go_wp2
        go_roundw
        case rel => exact ⟨j + 1, q2, y2, by omega, by go_num, R1.out, BB.out, TP, ST, R4.out⟩
        case measure => simp [intOf]; omega
    · obtain rfl : j = t := by omega
      clear hlt
      have LT : (l.take j).length = j := by rw [List.length_take]; omega
      have HF0 := Lib.hid ((HA.out.later (K3.out.trans hK)).front j)
      have OT := Lib.hid (ow_take OK.out j)
      have HV0 := Lib.hid hV
      have HB0 := Lib.hid hBk
      have HT0 := Lib.hid (show Tp b (fun n => n < 30 ∨ (100 ≤ n ∧ n < 100 + 0)) (30 + 0) from hT.out.mono (fun n hn => .inl (by omega)) (by omega))
      have HK0 := Lib.hid hK
      have LH := Lib.hid LT
      have wl0 : w3.heap.size < wr.heap.size := hV.box.lt
      clear hV hBk hT hK LT
      generalize wr = W6 at *
      go_wp2_with fail
      go_loopw [10, 65] (fun s i wr => ∃ (k : Nat) (qc : BkA) (c : Bk) (ai : Option Addr) (ci : Nat) (li : List Mv) (n : Nat), k ≤ u ∧ i = .int .i64 k ∧ s = .slice ai n ci ∧ li.length = n ∧ VBk wr w3.heap.size qc c ∧ BkU w3 wr w3.heap.size qc c ∧ Hid (Tp c (fun n => n < 30 ∨ (100 ≤ n ∧ n < 100 + k)) (30 + k)) ∧ Hid (OwSt c (csm li)) ∧ Hid (ItOk li) ∧ Hid (JArg eP wr ai li) ∧ Hid (ai = none → ci = 0) ∧ Kept w3 wr) (fun _ i _ => u - (intOf i).toNat)
      case atStart => exact ⟨0, qb, b, _, _, l.take j, _, Nat.zero_le _, rfl, rfl, LH.out, HV0.out, HB0.out, HT0, hS, OT, HF0, HZ, HK0.out⟩
      case round =>
        obtain ⟨k, qc, bc, ai, ci, li, n, hk, rfl, rfl, hln, hV, hBk, hT, hS, hI, hJ, hZ, hK⟩ := hrel
        clear HF0 OT HV0 HB0 HT0 HK0 LH
        by_cases hlt : k < u
        · have hl : k < ps.length := by omega
          obtain ⟨p, off, rfl, hR⟩ := (HB.out.later (K3.out.trans hK)).at hl
          have c0 := hR.i k hl
          have plt := hR.lt
          clear hR
          generalize ps[k] = x0 at *
          have i0 : (0 : Int) ≤ (k : Int) := by omega
          have i1 : (k : Int) < (u : Int) := by omega
          have WN := Lib.hid (fun V => wnL_any x0 100000 V (by decide) (by decide))
          obtain ⟨x1, x2⟩ := wnV_bd x0 (n := 100000) (by decide)
          generalize wnV x0 100000 = x at *
          obtain ⟨IO, pc, p0, p1, pl⟩ := ow_pay hI.out x1
          have PY := Lib.hid (fun V (k2 : Kept wr V) => by
            have := pay_yes ai li ci x V (hJ.out.later k2) hZ.out hI.out x1 (by omega)
            rw [hln] at this
            exact this)
          have HV := Lib.hid hV
          have HBK := Lib.hid hBk
          have HK := Lib.hid hK
          have PC := Lib.hid pc
          have IO := Lib.hid IO
          have HLN := Lib.hid hln
          have wl : w3.heap.size < wr.heap.size := hV.box.lt
          clear hV hBk hK pc hln pl
          go_wp2_with fail
          refine (WN.out _).mono ?_
          rintro e w7 ⟨rfl, rfl⟩
          clear c0 plt WN
          go_wp2_with fail
          refine (PY.out _ (Kept.refl _)).mono ?_
          rintro e w8 ⟨a8, c8, rfl, hI8, hK8⟩
          have HI8 := Lib.hid hI8
          have HK8 := Lib.hid hK8
          have HV8 := Lib.hid (HV.out.later hK8)
          clear hI8 hK8 PY
          generalize payL (srtD li) x = m at *
          generalize payR (srtD li) x = r at *
          have r0 : decide (r < 0) = false := decide_eq_false (by omega)
          have r1 : decide (x < r) = false := decide_eq_false (by omega)
          by_cases c : r < x
          · have c' : decide (r < x) = true := decide_eq_true c
            obtain ⟨dd, hdd⟩ : ∃ dd, x - r = dd := ⟨_, rfl⟩
            rw [hdd] at PC
            have d1 : 1 ≤ dd := by omega
            have d2 : dd ≤ 1000000000000 := by omega
            have u5 : IntKind.i64.wrap (x - r) = dd := by rw [hdd]; exact IntWalk.i64_in _ (by omega)
            obtain ⟨kk, hkk⟩ : ∃ kk : Nat, 100 + k = kk := ⟨_, rfl⟩
            have u100 : IntKind.i64.wrap (100 + (k : Int)) = (kk : Int) := by rw [show (100 + (k : Int)) = (kk : Int) by omega]; exact IntWalk.i64_in _ (by omega)
            obtain ⟨ok, tp, st⟩ := hS.out.paid hT.out (j := kk) (d := 292193) (c := dd) (by omega) (by omega) (by omega) (by decide) (by decide) d1 d2
            have MV := Lib.hid (fun V => moved_big kk 292193 dd c10 c15 V (by omega) (by omega) (by omega))
            have PO := Lib.hid (fun V p (k2 : Kept w8 V) (hO : POwn V p (mvL c10 c15 dd)) => ky_post (k := kk) (n := 2) (d := 292193) (c := 2) ((HBK.out.m HK.out).later (HK8.out.trans k2)) (by omega) rfl (by decide) hO (mvL_ok (tc := c10) (fr := c15) (a := dd) (by decide +kernel) (by decide +kernel) (by decide) (by decide +kernel) (by decide +kernel) (by omega) (by omega) d2).2.2.2.2.2 (Nat.le_refl 2) (by unfold maxLen; decide) ok)
            have TP := Lib.hid (show Tp _ (fun n => n < 30 ∨ (100 ≤ n ∧ n < 100 + (k + 1))) (30 + (k + 1)) from tp.mono (fun n hn => by omega) (by omega))
            have ST := Lib.hid (show OwSt _ (csm m) from by rw [PC.out]; exact st)
            have hK38 : Kept w3 w8 := HK.out.trans HK8.out
            clear ok tp st hdd hkk
            obtain ⟨⟨y0, y1, y2, y3⟩, y4, y5, y6⟩ := HV8.out
            go_upto_region 23 with fail
            go_cut [15] (fun se wx => PoPut w3.heap.size w3 (poV bc ⟨kyS kk, 292193, mvL c10 c15 dd⟩) a8 m se wx)
            case first =>
              go_region_with (first
                | (go_at_call 35; refine (MV.out _).mono ?_; rintro e w10 ⟨p10, hp10, rfl, hO10, hK10a⟩; have hK10 : Kept w8 w10 := Kept.trans (by first | exact Kept.refl _ | exact (Kept.refl _).drew | exact (Kept.refl _).drewN _) hK10a; clear hK10a hp10 y0 y1 y2 y3 y4 y5 y6; obtain ⟨⟨y0, y1, y2, y3⟩, y4, y5, y6⟩ := HV8.out.later hK10)
                | (go_at_call 34; have kD : Kept w10 _ := (by first | exact Kept.refl _ | exact (Kept.refl _).drew | exact (Kept.refl _).drewN _); refine (PO.out _ p10 (hK10.trans kD) (hO10.later kD)).mono ?_; rintro e w11 ⟨q2, rfl, hF, hK11a⟩; have hKa : Kept w8 w11 := (hK10.trans kD).trans hK11a; clear y0 y1 y2 y3 y4 y5 y6; obtain ⟨⟨y0, y1, y2, y3⟩, y4, y5, y6⟩ := HV8.out.later hKa))
              all_goals
                have hsm : w8.heap.size ≤ w10.heap.size := hK10.size
                have wl8 : w3.heap.size < w8.heap.size := HV8.out.box.lt
                have hK3a := hK38.trans hKa
                have hB := hF.set3 (r := w3.heap.size) (by omega) (.slice q2.aa (poV bc ⟨kyS kk, 292193, mvL c10 c15 dd⟩).acs.length q2.ca) (.slice q2.ae (poV bc ⟨kyS kk, 292193, mvL c10 c15 dd⟩).ens.length q2.ce) (.int .i64 (poV bc ⟨kyS kk, 292193, mvL c10 c15 dd⟩).shut)
                have VV := Lib.hid (uv_put (q' := q2) (b' := poV bc ⟨kyS kk, 292193, mvL c10 c15 dd⟩) (HV8.out.later hKa))
                have JJ := Lib.hid ((HI8.out.later hKa).set3 wl (.slice q2.aa (poV bc ⟨kyS kk, 292193, mvL c10 c15 dd⟩).acs.length q2.ca) (.slice q2.ae (poV bc ⟨kyS kk, 292193, mvL c10 c15 dd⟩).ens.length q2.ce) (.int .i64 (poV bc ⟨kyS kk, 292193, mvL c10 c15 dd⟩).shut))
                have KK := Lib.hid (hK3a.set3 (p := w3.heap.size) (Nat.le_refl _) (.slice q2.aa (poV bc ⟨kyS kk, 292193, mvL c10 c15 dd⟩).acs.length q2.ca) (.slice q2.ae (poV bc ⟨kyS kk, 292193, mvL c10 c15 dd⟩).ens.length q2.ce) (.int .i64 (poV bc ⟨kyS kk, 292193, mvL c10 c15 dd⟩).shut))
                have BB := Lib.hid (show ∃ B, w3.heap.size < B ∧ BkF _ B q2 (poV bc ⟨kyS kk, 292193, mvL c10 c15 dd⟩) from ⟨_, by omega, hB⟩)
                clear hB hF
                go_wp2_with fail
                go_meet
                exact ⟨q2, rfl, VV.out, BB.out, JJ.out, KK.out⟩
            case rest =>
              obtain ⟨q2, rfl, hV2, ⟨B2, hB2, hF2⟩, hJ2, hK2⟩ := hcut
              have R1 := Lib.hid hV2
              have R2 := Lib.hid (show BkU w3 wc w3.heap.size q2 _ from .inr ⟨_, hB2, hF2⟩)
              have R3 := Lib.hid hJ2
              have R4 := Lib.hid hK2
              clear hV2 hF2 hJ2 hK2 hB2
              have HN := Lib.hid HI8.out.nil
              go_wp2
              go_roundw
              case rel => exact ⟨k + 1, q2, _, a8, c8, m, _, by omega, by go_num, rfl, rfl, R1.out, R2.out, TP, ST, IO, R3, HN, R4.out⟩
              case measure => simp [intOf]; omega
          · have er : r = x := by omega
            subst er
            have c' : decide (r < r) = false := decide_eq_false c
            have ST := Lib.hid (show OwSt _ (csm m) from by rw [PC.out, Int.sub_self, Int.sub_zero]; exact hS.out)
            have TP := Lib.hid (show Tp _ (fun n => n < 30 ∨ (100 ≤ n ∧ n < 100 + (k + 1))) (30 + (k + 1)) from hT.out.mono (fun n hn => by omega) (by omega))
            have R2 := Lib.hid (HBK.out.later HK8.out)
            have R3 := Lib.hid HI8.out.arg
            have HN := Lib.hid HI8.out.nil
            have R4 := Lib.hid (HK.out.trans HK8.out)
            go_wp2
            go_roundw
            case rel => exact ⟨k + 1, qc, _, a8, c8, m, _, by omega, by go_num, rfl, rfl, HV8.out, R2.out, TP, ST, IO, R3, HN, R4.out⟩
            case measure => simp [intOf]; omega
        · obtain rfl : k = u := by omega
          clear hlt
          have wl7 := hV.box.lt
          have ba := hT.out.ba (c := c15) (d := 292193) (by decide +kernel) (by omega) (by omega)
          have BA := Lib.hid (fun V (k2 : Kept wr V) => bal_yes qc bc c15 292193 V ((hBk.m hK).later k2) ba)
          rw [hS.out.inv] at BA
          have HVB := Lib.hid hV
          have HK := Lib.hid (K3.out.trans hK)
          have CT := Lib.hid (fun j (h : j ≤ li.length) => csm_take (fun x hx => (hI.out.it x hx).2.2.1) h)
          have CM := Lib.hid (ItOk.csm hI.out.it)
          have l4 := hI.out.len
          clear hV hBk hK hT hS ba hI
          generalize wr = W7 at *
          subst hln
          go_wp2_with fail
          go_loopw [16, 110] (fun s i wr => ∃ j2 : Nat, j2 ≤ li.length ∧ i = .int .i64 j2 ∧ s = .int .i64 (csm (li.take j2)) ∧ Kept W7 wr) (fun _ i _ => li.length - (intOf i).toNat)
          case atStart => exact ⟨0, Nat.zero_le _, rfl, rfl, Kept.refl _⟩
          case round =>
            obtain ⟨j2, hj2, rfl, rfl, hK⟩ := hrel
            by_cases hlt : j2 < li.length
            · obtain ⟨p2, o2, rfl, hR⟩ := (hJ.out.later hK).at hlt
              have c0 := hR.c0 j2 hlt
              have c1 := hR.c1 j2 hlt
              have plt := hR.lt
              have S1 := Lib.hid (show csm (li.take (j2 + 1)) = csm (li.take j2) + (li[j2]).2 by rw [take_snocP li j2 hlt, csm_app, csm, csm]; omega)
              have b1 := CT.out (j2 + 1) hlt
              have b2 := CM.out
              rw [S1.out] at b1
              clear hR
              generalize li[j2] = x at *
              generalize csm (li.take j2) = s at *
              have u1 : IntKind.i64.wrap (s + x.2) = s + x.2 := IntWalk.i64_in _ (by omega)
              have hK2 := Lib.hid (hK.alloc (.cells #[.int .i64 x.1, .int .i64 x.2] 31))
              clear hK b1 b2
              go_wp2
              go_roundw
              case rel => exact ⟨j2 + 1, by omega, by go_num, by rw [S1.out], hK2.out⟩
              case measure => simp [intOf]; omega
            · obtain rfl : j2 = li.length := by omega
              clear hlt
              rw [List.take_length] at *
              obtain ⟨⟨b0, b1, b2, b3⟩, _, _, _⟩ := HVB.out.later hK
              have HB1 := Lib.hid (BA.out _ hK)
              have KQ := Lib.hid hK
              clear hK
              go_wp2_with fail
              refine HB1.out.mono ?_
              rintro e wa ⟨rfl, hKa⟩
              go_wp2
              go_ret
              exact ⟨by simp, (HK.out.trans KQ.out).trans hKa⟩
/-- TopOwed, whatever is handed in. -/
theorem topOwed_walk (a : Option Addr) (l : List Mv) (cap : Nat) (b : Option Addr) (ps : List Int) (cap' : Nat) (w : World) (hA : JArg eP w a l) (hc : l.length ≤ cap) (hm : cap ≤ maxLen) (h0 : a = none → cap = 0) (hB : JArg eI w b ps) (hc' : ps.length ≤ cap') (hm' : cap' ≤ maxLen) (h0' : b = none → cap' = 0) :
    Calls Try.prog 14 #[.slice a l.length cap, .slice b ps.length cap'] w fun e w' => e = .returned (.bool true) ∧ Below w.heap.size w w' := by
  by_cases e : itE l = 0
  · exact topOwed_yes a l cap b ps cap' w hA hc hm h0 hB hc' hm' (itE_iff.1 e)
  · exact topOwed_no a l cap b ps cap' w hA (by omega) e
end Go.Proofs.Ytdgiljndoeldcaa
