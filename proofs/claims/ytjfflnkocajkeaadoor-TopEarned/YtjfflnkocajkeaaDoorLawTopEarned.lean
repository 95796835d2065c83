/-
  The walk of taltop.TopEarned: it returns true at every input. Condition: the table of the months' lengths reads as the program lays it.
-/
import Derived.Test.YtjfflnkocajkeaaDoorUMathE
namespace Go.Proofs.YtjfflnkocajkeaaDoor
open Go.RowKit
set_option linter.unusedVariables false

set_option maxRecDepth 100000 in
set_option maxHeartbeats 4000000 in
theorem topEarned_walk (a0 f0 l0 k0 : Int) (w : World) (hT0 : Tab w) :
    Calls Tryd.prog 4 #[.int .i64 a0, .int .i64 f0, .int .i64 l0, .int .i64 k0] w fun e w' => e = .returned (.bool true) ∧ Kept w w' := by
  have TT := Lib.hid hT0
  clear hT0
  go_enter Tryd.func4, Tryd.ntmps4
  go_wp2_with fail
  refine (tbegun_any _).mono ?_
  rintro e w1 ⟨rfl, hK1⟩
  go_wp2_with fail
  refine (wnL_any f0 290993 _ (by decide) (by decide)).mono ?_
  rintro e w2 ⟨rfl, rfl⟩
  obtain ⟨F0, F1⟩ := wnV_bd f0 (n := 290993) (by decide)
  generalize wnV f0 290993 = f at *
  go_wp2_with fail
  refine (wnL_any l0 1000 _ (by decide) (by decide)).mono ?_
  rintro e w2 ⟨rfl, rfl⟩
  obtain ⟨l1, l2⟩ := wnV_bd l0 (n := 1000) (by decide)
  generalize wnV l0 1000 = lg at *
  have u1 : IntKind.i64.wrap (f + lg) = f + lg := IntWalk.i64_in _ (by omega)
  go_wp2_with fail
  refine (wnL_any a0 1000000000000 _ (by decide) (by decide)).mono ?_
  rintro e w2 ⟨rfl, rfl⟩
  obtain ⟨a1, a2⟩ := wnV_bd a0 (n := 1000000000000) (by decide)
  generalize wnV a0 1000000000000 = am at *
  have u2 : IntKind.i64.wrap (1 + am) = 1 + am := IntWalk.i64_in _ (by omega)
  go_wp2_with fail
  obtain ⟨t, ht⟩ : ∃ t, f + lg = t := ⟨_, rfl⟩
  obtain ⟨a, ha⟩ : ∃ a, 1 + am = a := ⟨_, rfl⟩
  rw [ht, ha]
  have ft : f ≤ t := by omega
  have t1 : t ≤ 292193 := by omega
  have tf : t ≤ f + 999 := by omega
  have A1 : 1 ≤ a := by omega
  have A2 : a ≤ 1000000000000 := by omega
  clear u1 u2 ht ha l1 l2 a1 a2
  have oke : okE a f t t = true := (okE_iff a f t t).2 ⟨⟨by omega, A2⟩, ⟨F0, by omega⟩, ⟨by omega, t1⟩, ⟨by omega, t1⟩, ft⟩
  have OKE := Lib.hid oke
  have m40 := mCt_40 f t F0 ft t1 tf
  have mp := mCt_pos f t F0 ft t1
  obtain ⟨m, hm⟩ := Int.eq_ofNat_of_zero_le (show 0 ≤ mCt f t by omega)
  refine (months_go a f t _ (TT.out.kept hK1) oke).mono ?_
  rintro e w2 (⟨_, v, rfl, hG, hK2⟩ | ⟨z, _⟩)
  case inr => omega
  rw [hm, show ((m : Int)).toNat = m by omega] at hG
  obtain ⟨ad, cap, rfl, hA⟩ := hG.arg
  have HR := Lib.hid hA
  have K2 := Lib.hid (hK1.trans hK2)
  have mz : ((m : Int) == 0) = false := by rw [beq_eq_false_iff_ne]; omega
  have m1 : 1 ≤ m := by omega
  have mm : m ≤ 40 := by omega
  have HM := Lib.hid hm
  clear hG hA hK1 hK2 oke mp m40
  go_wp2_with fail
  refine (tplain_any _).mono ?_
  rintro e w4 ⟨q, rfl, hM, hK4⟩
  go_wp2_with fail
  refine (moved_any 99 f a c10 c20 _ (by omega) (by omega) (by omega)).mono ?_
  rintro e w5 ⟨p, hp, rfl, hO, hK5⟩
  obtain ⟨ok, tp, st⟩ := EaSt.first F0 ft t1 HM.out A1 A2
  have PO := Lib.hid (ky_post (c := 2) (n := 2) (hM.later hK5) (by decide) rfl (by decide) hO (mvL_ok (tc := c10) (fr := c20) (by decide +kernel) (by decide +kernel) (by decide) (by decide +kernel) (by decide +kernel) (by omega) (by omega) (by omega)).2.2.2.2.2 (Nat.le_refl 2) (by unfold maxLen; decide) ok)
  go_wp2_with fail
  refine PO.out.mono ?_
  rintro e w6 ⟨q3, rfl, hF, hK6⟩
  obtain ⟨b0, hb0⟩ : ∃ b0, poV topB ⟨kyS 99, f, mvL c10 c20 a⟩ = b0 := ⟨_, rfl⟩
  rw [hb0] at hF tp st ⊢
  have V7 := Lib.hid (uv_new (w := w6) rfl q3 b0)
  have kX := Lib.hid ((Kept.refl w6).alloc (bkO q3 b0))
  have K36 := hK4.trans (hK5.trans hK6)
  have HR6 := Lib.hid (HR.out.later K36)
  have K6 := Lib.hid (K2.out.trans K36)
  have HM6 := Lib.hid hF.m
  have ST0 := Lib.hid st
  have TP0 := Lib.hid tp
  have T6 := Lib.hid (TT.out.kept K6.out)
  clear hM hp hO ok tp st PO hF hb0 K36 K2 HR hK4 hK5 hK6 TT
  go_wp2
  go_loopw [13, 62] (fun v i wr => ∃ (k : Nat) (qb : BkA) (b : Bk), k ≤ m ∧ i = .int .i64 k ∧ Gr (w6.heap.size + 1) wr v k (fun j => enD f (j + 1)) ∧ VBk wr w6.heap.size qb b ∧ BkW w6 wr w6.heap.size qb b v ∧ Hid (Tp b (fun j => j < k ∨ j = 99) (k + 1)) ∧ Hid (EaSt b a f t m k) ∧ Kept w6 wr) (fun _ i _ => m - (intOf i).toNat)
  case atStart => exact ⟨0, q3, b0, Nat.zero_le _, rfl, Gr.nil _ _ _, V7.out, .inl HM6.out, TP0, ST0, kX.out⟩
  case round =>
    obtain ⟨k, qb, b, hk, rfl, hG, hV, hBk, hT, hS, hK⟩ := hrel
    clear V7 kX HM6 ST0 TP0 mz
    by_cases hlt : k < m
    · obtain ⟨p, off, rfl, hR⟩ := (HR6.out.later hK).at (by omega)
      have c0 := hR.cell k (by rw [tab_len]; omega)
      rw [tab_get] at c0
      have plt := hR.lt
      obtain ⟨n, hn⟩ : ∃ n, eaP a f t k = n := ⟨_, rfl⟩
      have HN := Lib.hid hn
      have n0 := eaP_nonneg (a := a) F0 ft t1 (by omega) (k := k) (by rw [HM.out]; omega)
      have nb1 := (eaC_bd (a := a) (f := f) (t := t) ft k (by omega) A2).1
      have nb2 := (eaC_bd (a := a) (f := f) (t := t) ft (k + 1) (by omega) A2).2
      rw [hn] at c0 n0
      have nd : n = eaC a f t (k + 1) - eaC a f t k := by rw [← hn]; rfl
      have ne0 := eaV_nonneg (a := a) (f := f) (t := t) (d := enD f k) ft (by omega)
      have n2 : n ≤ 1000000000000 := by
        have : 0 ≤ eaC a f t k := ne0
        omega
      clear hR hn nd nb1 nb2 ne0
      obtain ⟨e0, e1, e2, e3, e4, _⟩ := enD_spec f t F0 ft t1 k (by rw [HM.out]; omega)
      have LY := Lib.hid (fun V hT => last_yes (enD f k + 1) V hT (by omega) (by omega))
      rw [show lastV (enD f k + 1) = enD f (k + 1) from rfl] at LY
      have g0 : (0 : Int) ≤ (k : Int) := by omega
      have g1 : (k : Int) < (m : Int) := by omega
      obtain ⟨y, hy⟩ : ∃ y, enD f (k + 1) = y := ⟨_, rfl⟩
      have HY := Lib.hid hy
      rw [hy] at LY e2 e3 e4
      have u0 : IntKind.i64.wrap (enD f k + 1) = enD f k + 1 := IntWalk.i64_in _ (by omega)
      obtain ⟨av, cv, rfl, hAv⟩ := hG.arg
      have HT := Lib.hid (T6.out.kept hK)
      rcases Nat.eq_zero_or_pos k with kz | kp
      case' inl =>
        rw [show enD f k + 1 = f by rw [kz]; show f - 1 + 1 = f; omega] at LY
        have kp2 : ¬ 0 < k := by omega
        have kp3 : decide (0 < k) = false := by rw [kz]; rfl
        have KZ := Lib.hid kz
        clear kz
        go_wp2_with fail
      case' inr =>
        obtain ⟨q', o', rfl, hR'⟩ := hAv.at (by omega)
        have d0 := hR'.cell (k - 1) (by rw [tab_len]; omega)
        rw [tab_get, show k - 1 + 1 = k by omega] at d0
        have dlt := hR'.lt
        have v0 : IntKind.i64.wrap ((k : Int) - 1) = ((k - 1 : Nat) : Int) := by rw [show ((k - 1 : Nat) : Int) = (k : Int) - 1 by omega]; exact IntWalk.i64_in _ (by omega)
        have v1 : (0 : Int) ≤ ((k - 1 : Nat) : Int) := by omega
        have v2 : ((k - 1 : Nat) : Int) < (k : Int) := by omega
        have kp2 : (0 : Int) < (k : Int) := by omega
        generalize k - 1 = k1 at *
        clear hR'
        go_wp2_with fail
      all_goals
        refine (LY.out _ HT.out).mono ?_
        rintro e w8 ⟨rfl, hK8⟩
        have hG8 := hG.later hK8
        have hV8 := hV.later hK8
        have hB8 := hBk.later hK8
        have hW8 := hK.trans hK8
        clear hG hV hBk hK hK8 LY HT hAv
        try clear d0 dlt v0 v1 v2
        go_wp2_with (at_builtin; refine app_one rfl _ _ rfl (B := w6.heap.size + 1) (z := y) rfl rfl (hG8.alloc _) (by simp) (by omega) (by have := hV8.box.lt; simp; omega) ?_)
        intro v9 w9 hG9 hgr hmv
        have kA := (Kept.refl w8).alloc (.cells #[.int .i64 y] 3)
        have hW9 := (hG8.alloc (.cells #[.int .i64 y] 3)).below (by omega) (hW8.trans kA) hgr
        have hV9 := (hV8.later kA).grown hgr (fun e => by
          have := ((hG8.alloc (.cells #[.int .i64 y] 3)).own.lt _ e).1
          omega)
        have hB9 := (hB8.later kA).grown hgr hmv
        have hG10 : Gr (w6.heap.size + 1) w9 v9 (k + 1) (fun j => enD f (j + 1)) := hG9.congr (fun j hj => by
          by_cases e : j = k
          · subst e; rw [up_same, ← HY.out]
          · rw [up_ne _ _ e])
        clear hG8 hV8 hB8 hW8 hG9 hgr hmv kA
        by_cases nz : n = 0
        · have nz2 : (n == 0) = true := by simpa using nz
          have ST := Lib.hid (hS.out.skip (HN.out.trans nz))
          have TP := Lib.hid (hT.out.mono (Q := fun j => j < k + 1 ∨ j = 99) (n := k + 1 + 1) (fun j hj => by omega) (by omega))
          clear nz
          go_wp2_with fail
          go_roundw
          case rel => exact ⟨k + 1, qb, b, by omega, by go_num, hG10, hV9, hB9, TP, ST, hW9⟩
          case measure => simp [intOf]; omega
        · have nz2 : (n == 0) = false := by rw [beq_eq_false_iff_ne]; exact nz
          obtain ⟨ok, tp, st⟩ := hS.out.step hT.out F0 ft t1 HM.out hlt (by omega) HN.out nz (by omega) n2
          rw [HY.out] at ok tp st
          have MO := Lib.hid (mvL_ok (tc := c20) (fr := c40) (a := n) (by decide +kernel) (by decide +kernel) (by decide) (by decide +kernel) (by decide +kernel) nz (by omega) n2)
          have OK := Lib.hid ok
          have TP := Lib.hid tp
          have ST := Lib.hid st
          have HV9 := Lib.hid hV9
          have HB9 := Lib.hid (hB9.m hW9)
          have HW9 := Lib.hid hW9
          have HG10 := Lib.hid hG10
          obtain ⟨⟨b0', b1, b2, b3⟩, f0', f1', f2'⟩ := id hV9
          clear ok tp st nz hS hT hV9 hB9 hW9 hG10
          go_wp2_with fail
          go_region_with (first
            | (go_at_call 17; refine (moved_any k y n c20 c40 _ (by omega) (by omega) (by omega)).mono ?_; rintro e w10 ⟨p10, hp10, rfl, hO10, hK10a⟩; have hK10 : Kept w9 w10 := Kept.trans (by first | exact Kept.refl _ | exact (Kept.refl _).drew | exact (Kept.refl _).drewN _) hK10a; clear hK10a hp10 b0' b1 b2 b3 f0' f1' f2'; obtain ⟨⟨b0', b1, b2, b3⟩, f0', f1', f2'⟩ := HV9.out.later hK10)
            | (go_at_call 15; have kD : Kept w10 _ := (by first | exact Kept.refl _ | exact (Kept.refl _).drew | exact (Kept.refl _).drewN _); refine (ky_post (c := 2) (n := 2) (HB9.out.later (hK10.trans kD)) (by omega) rfl (by decide) (hO10.later kD) MO.out.2.2.2.2.2 (Nat.le_refl 2) (by unfold maxLen; decide) OK.out).mono ?_; rintro e w11 ⟨q11, rfl, hF11, hK11a⟩; have hK11 : Kept w9 w11 := (hK10.trans kD).trans hK11a; clear b0' b1 b2 b3 f0' f1' f2'; obtain ⟨⟨b0', b1, b2, b3⟩, f0', f1', f2'⟩ := HV9.out.later hK11))
          all_goals
            have hFl : w9.heap.size ≤ w10.heap.size := hK10.size
            have wl : w6.heap.size < w9.heap.size := HV9.out.box.lt
            have hB := hF11.set3 (r := w6.heap.size) (by omega) (.slice q11.aa (poV b ⟨kyS k, y, mvL c20 c40 n⟩).acs.length q11.ca) (.slice q11.ae (poV b ⟨kyS k, y, mvL c20 c40 n⟩).ens.length q11.ce) (.int .i64 (poV b ⟨kyS k, y, mvL c20 c40 n⟩).shut)
            have KK := Lib.hid ((HW9.out.trans hK11).set3 (p := w6.heap.size) (Nat.le_refl _) (.slice q11.aa (poV b ⟨kyS k, y, mvL c20 c40 n⟩).acs.length q11.ca) (.slice q11.ae (poV b ⟨kyS k, y, mvL c20 c40 n⟩).ens.length q11.ce) (.int .i64 (poV b ⟨kyS k, y, mvL c20 c40 n⟩).shut))
            have VV := Lib.hid (uv_put (q' := q11) (b' := poV b ⟨kyS k, y, mvL c20 c40 n⟩) (HV9.out.later hK11))
            have BB := Lib.hid (show BkW w6 _ w6.heap.size q11 (poV b ⟨kyS k, y, mvL c20 c40 n⟩) v9 from .inr ⟨_, _, by omega, hB, Same.refl _ _, fun j hj => .inl (by have := (HG10.out.own.lt j hj).2; omega)⟩)
            have GG := Lib.hid ((((HG10.out.later hK11).put (i := 0) (u := .slice q11.aa (poV b ⟨kyS k, y, mvL c20 c40 n⟩).acs.length q11.ca) (Nat.lt_succ_self _)).put (i := 1) (u := .slice q11.ae (poV b ⟨kyS k, y, mvL c20 c40 n⟩).ens.length q11.ce) (Nat.lt_succ_self _)).put (i := 2) (u := .int .i64 (poV b ⟨kyS k, y, mvL c20 c40 n⟩).shut) (Nat.lt_succ_self _))
            clear hB hF11 hFl wl
            go_wp2_with fail
            go_roundw
            case rel => exact ⟨k + 1, q11, (poV b ⟨kyS k, y, mvL c20 c40 n⟩), by omega, by go_num, GG.out, VV.out, BB.out, TP, ST, KK.out⟩
            case measure => simp [intOf]; omega
    · obtain rfl : k = m := by omega
      clear hlt
      obtain ⟨ad', cap', rfl, hA'⟩ := hG.arg
      obtain ⟨qe, oe, rfl, hRe⟩ := hA'.at (by omega)
      go_wp2_with fail
      refine (wnL_any k0 k _ (by omega) (by omega)).mono ?_
      rintro e w7 ⟨rfl, rfl⟩
      obtain ⟨x0, x1⟩ := wnV_bd k0 (n := (k : Int)) (by omega)
      obtain ⟨ks, hks⟩ := Int.eq_ofNat_of_zero_le x0
      rw [hks] at x1 ⊢
      clear x0 hks
      have ksl : ks < k := by omega
      have d1 := hRe.cell ks (by rw [tab_len]; omega)
      rw [tab_get] at d1
      have d2 := hRe.cell (k - 1) (by rw [tab_len]; omega)
      rw [tab_get, show k - 1 + 1 = k by omega] at d2
      have dlt := hRe.lt
      have v0 : IntKind.i64.wrap ((k : Int) - 1) = ((k - 1 : Nat) : Int) := by rw [show ((k - 1 : Nat) : Int) = (k : Int) - 1 by omega]; exact IntWalk.i64_in _ (by omega)
      have v1 : (0 : Int) ≤ ((k - 1 : Nat) : Int) := by omega
      have v2 : ((k - 1 : Nat) : Int) < (k : Int) := by omega
      have v3 : (0 : Int) ≤ (ks : Int) := by omega
      have v4 : (ks : Int) < (k : Int) := x1
      obtain ⟨_, _, _, e3, e4, _⟩ := enD_spec f t F0 ft t1 ks (by omega)
      obtain ⟨_, _, _, e5, e6, _⟩ := enD_spec f t F0 ft t1 (k - 1) (by omega)
      rw [show k - 1 + 1 = k by omega] at e5 e6
      have ba1 := hT.out.ba (c := c40) (d := enD f (ks + 1)) (by decide +kernel) (by omega) (by omega)
      have ba2 := hT.out.ba (c := c20) (d := enD f k) (by decide +kernel) (by omega) (by omega)
      have s1 := hS.out.e40 (ks + 1) (by omega) (by omega)
      have s2 := hS.out.e20 k (by omega) (by omega)
      rw [show min (ks + 1) k = ks + 1 by omega] at s1
      rw [show min k k = k by omega, eaC_end a f t F0 ft t1 k HM.out.symm, show -a + a = 0 by omega] at s2
      have B1 := Lib.hid (fun V (h : BkM V qb b) => bal_yes qb b c40 (enD f (ks + 1)) V h ba1)
      have B2 := Lib.hid (fun V (h : BkM V qb b) => bal_yes qb b c20 (enD f k) V h ba2)
      rw [s1] at B1
      rw [s2] at B2
      have BY := Lib.hid (fun V => eby_yes a f t (enD f (ks + 1)) V ((okE_iff _ _ _ _).2 ⟨⟨by omega, A2⟩, ⟨F0, by omega⟩, ⟨by omega, t1⟩, ⟨by omega, e4⟩, ft⟩))
      have EC := Lib.hid (show eaV a f t (enD f (ks + 1)) = eaC a f t (ks + 1) from rfl)
      rw [EC.out] at BY
      obtain ⟨z1, z2⟩ := eaC_bd (a := a) (f := f) (t := t) ft (ks + 1) (by omega) A2
      have u9 : IntKind.i64.wrap (-eaC a f t (ks + 1)) = -eaC a f t (ks + 1) := IntWalk.i64_in _ (by omega)
      have HM := Lib.hid (hBk.m hK)
      have KF := Lib.hid (K6.out.trans hK)
      have HV := Lib.hid hV
      have HRE := Lib.hid hRe
      generalize eaC a f t (ks + 1) = X at *
      generalize hd1 : enD f (ks + 1) = D1 at *
      generalize hd2 : enD f k = D2 at *
      generalize k - 1 = k1 at *
      have HH := Lib.hid (fun V (kv : Kept wr V) => show Kept wr V ∧ V.cell? ⟨w6.heap.size, 0, none⟩ = some (.slice qb.aa b.acs.length qb.ca) ∧ V.cell? ⟨w6.heap.size, 1, none⟩ = some (.slice qb.ae b.ens.length qb.ce) ∧ V.cell? ⟨w6.heap.size, 2, none⟩ = some (.int .i64 b.shut) ∧ V.cell? ⟨qe, oe + ks, none⟩ = some (.int .i64 D1) ∧ V.cell? ⟨qe, oe + k1, none⟩ = some (.int .i64 D2) from by
        obtain ⟨_, b0, b1, b2⟩ := HV.out.box.later kv
        exact ⟨kv, b0, b1, b2, (kv.rd.1 _ _ dlt).trans d1, (kv.rd.1 _ _ dlt).trans d2⟩)
      clear ba1 ba2 s1 s2 hT hS hBk hG hA' hRe hd1 hd2 hV d1 d2 e3 e4 e5 e6 z1 z2
      go_wp2_with fail
      go_region_held3 (fun w' => Kept wr w' ∧ w'.cell? ⟨w6.heap.size, 0, none⟩ = some (.slice qb.aa b.acs.length qb.ca) ∧ w'.cell? ⟨w6.heap.size, 1, none⟩ = some (.slice qb.ae b.ens.length qb.ce) ∧ w'.cell? ⟨w6.heap.size, 2, none⟩ = some (.int .i64 b.shut) ∧ w'.cell? ⟨qe, oe + ks, none⟩ = some (.int .i64 D1) ∧ w'.cell? ⟨qe, oe + k1, none⟩ = some (.int .i64 D2))
        (first | exact HH.out _ (Kept.refl wr).drew | exact HH.out _ Ka)
        (first | (go_at_call 19; refine (B1.out _ (HM.out.later (And.left (by assumption)))).mono ?_; rintro e w10 ⟨rfl, hk10⟩; have Ka := Kept.trans (a := wr) (And.left (by assumption)) hk10; clear hk10))
      rename_i hHeld
      clear hHeld
      obtain ⟨_, b0, b1, b2, d1, d2⟩ := HH.out _ Ka
      have dlt2 := Nat.lt_of_lt_of_le dlt Ka.le
      go_wp2_with fail
      refine (BY.out _).mono ?_
      rintro e w12 ⟨rfl, hK12⟩
      have Kb := Ka.trans hK12
      clear b0 b1 b2 d1 d2 dlt2
      go_wp2_with fail
      go_region_held3 (fun w' => Kept wr w' ∧ w'.cell? ⟨w6.heap.size, 0, none⟩ = some (.slice qb.aa b.acs.length qb.ca) ∧ w'.cell? ⟨w6.heap.size, 1, none⟩ = some (.slice qb.ae b.ens.length qb.ce) ∧ w'.cell? ⟨w6.heap.size, 2, none⟩ = some (.int .i64 b.shut) ∧ w'.cell? ⟨qe, oe + ks, none⟩ = some (.int .i64 D1) ∧ w'.cell? ⟨qe, oe + k1, none⟩ = some (.int .i64 D2))
        (first | exact HH.out _ Kb.drew | exact HH.out _ Kc)
        (first | (go_at_call 19; refine (B2.out _ (HM.out.later (And.left (by assumption)))).mono ?_; rintro e w14 ⟨rfl, hk14⟩; have Kc := Kept.trans (a := wr) (And.left (by assumption)) hk14; clear hk14))
      rename_i hHeld
      clear hHeld
      go_wp2
      go_ret
      exact ⟨rfl, KF.out.trans Kc⟩
end Go.Proofs.YtjfflnkocajkeaaDoor
