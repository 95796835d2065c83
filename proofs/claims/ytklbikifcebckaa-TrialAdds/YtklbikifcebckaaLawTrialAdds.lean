/-
  The walk of talkeep.TrialAdds: it returns true at every input. No condition but those that each theorem names.
-/
import Derived.Test.YtklbikifcebckaaVWalkS
import Derived.Test.YtklbikifcebckaaVPost
namespace Go.Proofs.Ytklbikifcebckaa
open Go.RowKit
set_option linter.unusedVariables false

abbrev ten : ByteArray := ⟨#[49, 48]⟩
abbrev fift : ByteArray := ⟨#[49, 53]⟩
/-- The entry that moves so much. -/
def mvE (k : ByteArray) (d n : Int) : Et := ⟨k, d, [(ten, 1 + n), (fift, -1 - n)]⟩
theorem kinS_cons {acs : List Pr} {k f t : Int} {x : Et} {l : List Et} : kinS acs k f t (x :: l) = (if inD f t x = true then kinL acs k x.lns else 0) + kinS acs k f t l := by
  unfold kinS
  rw [List.filter_cons]
  cases inD f t x <;> simp [kinE]
theorem kinS_ins {acs : List Pr} {k f t : Int} {x : Et} {l : List Et} : kinS acs k f t (insE x l) = (if inD f t x = true then kinL acs k x.lns else 0) + kinS acs k f t l := by
  rw [kinS_perm (insE_perm x l), kinS_cons]
theorem mv_kin {acs : List Pr} {k : ByteArray} {d n : Int} (h : kiV acs ten = kiV acs fift) (j : Int) : kinL acs j (mvE k d n).lns = 0 := by
  unfold mvE
  rw [kinL, kinL, kinL, h]
  split <;> omega
theorem mv_same {b : Bk} {k : ByteArray} {d n : Int} (ok : poE b (mvE k d n) = 0) (h : kiV b.acs ten = kiV b.acs fift) (j f t : Int) : kinS (poV b (mvE k d n)).acs j f t (poV b (mvE k d n)).ens = kinS b.acs j f t b.ens := by
  obtain ⟨_, _, (⟨_, e⟩ | ⟨_, _, _, _, e⟩)⟩ := poE_ok ok
  · rw [e]
  · rw [e, kinS_ins, mv_kin h]; simp
theorem mv_has {b : Bk} {k : ByteArray} {d n : Int} (ok : poE b (mvE k d n) = 0) : hasB ten b.acs = true ∧ hasB fift b.acs = true := by
  obtain ⟨g, hm, ha, _⟩ := Good.post ok
  have h := (g.each _ hm).2
  rw [ha] at h
  exact ⟨h (ten, 1 + n) (by unfold mvE; simp), h (fift, -1 - n) (by unfold mvE; simp)⟩
theorem mv_m {W : World} {p : Nat} {k : ByteArray} {d n : Int} (hk : k.size ≤ maxLen) (lt : p < W.heap.size) (c0 : W.cell? ⟨p, 0, none⟩ = some (.string ten)) (c1 : W.cell? ⟨p, 1, none⟩ = some (.int .i64 (1 + n))) (c2 : W.cell? ⟨p, 2, none⟩ = some (.string fift)) (c3 : W.cell? ⟨p, 3, none⟩ = some (.int .i64 (-1 - n))) :
    EtM W (mvE k d n) (some ⟨p, 0, none⟩) 2 := by
  refine ⟨hk, (show 2 ≤ maxLen by unfold maxLen; decide), .inr ⟨p, 0, rfl, ⟨lt, fun j hj => ?_, fun j hj => ?_⟩⟩, ?_, (show 2 ≤ 2 from Nat.le_refl _), (show 2 ≤ maxLen by unfold maxLen; decide)⟩
  · match j, hj with
    | 0, _ => simpa [mvE] using c0
    | 1, _ => simpa [mvE] using c2
  · match j, hj with
    | 0, _ => simpa [mvE] using c1
    | 1, _ => simpa [mvE] using c3
  · intro x hx
    simp [mvE] at hx
    rcases hx with rfl | rfl
    · show ten.size ≤ maxLen; unfold maxLen; decide
    · show fift.size ≤ maxLen; unfold maxLen; decide
set_option maxRecDepth 100000 in
set_option maxHeartbeats 8000000 in
theorem trialAdds_walk (q : BkA) (b : Bk) (k : ByteArray) (t0 n0 : Int) (w : World) (hM : BkM w q b) (hk : k.size ≤ maxLen) :
    Calls Try.prog 7 #[bkV q b, .string k, .int .i64 t0, .int .i64 n0] w fun e w' => e = .returned (.bool true) ∧ Below w.heap.size w w' := by
  have hK2 := (Kept.refl w).alloc (bkO q b)
  have HB := Lib.hid (BBx.new w q b)
  have HM := Lib.hid (hM.later hK2)
  generalize hW : w.alloc (bkO q b) = W at *
  have HW := Lib.hid hW
  have HK := Lib.hid hK2
  clear hM hW hK2
  go_enter Try.func7, Try.ntmps7
  go_wp2_with fail
  rw [HW.out]
  refine (plain_any _).mono ?_
  rintro e w1 ⟨q1, rfl, hM1, hK1⟩
  go_wp2_with fail
  refine (sale_any _ _ _ _ (by decide) (by decide)).mono ?_
  rintro e w2 ⟨p, hp, rfl, hR, hK2⟩
  have PY := Lib.hid (post_yes q1 plainB saleE (some ⟨p, 0, none⟩) 2 w2 (hM1.later hK2) (sale_m hR) sale_ok)
  rw [sale_post] at PY
  go_wp2_with fail
  refine PY.out.mono ?_
  rintro e w3 ⟨q3, rfl, hF, hK3⟩
  have k4 := (Kept.refl w3).alloc (bkO q3 saleB)
  have HM4 := Lib.hid (hF.m.later k4)
  have hK4 := hK1.trans (hK2.trans (hK3.trans k4))
  have TY := Lib.hid (sheet_yes q3 saleB 5 _ HM4.out saleB_t.1)
  rw [saleB_sh] at TY
  clear hM1 hR hF hK1 hK2 hK3
  go_wp2_with fail
  refine TY.out.mono ?_
  rintro e w5 ⟨rfl, hK5⟩
  have hK6 := hK4.trans hK5
  generalize kinS saleB.acs 1 0 5 saleB.ens = z1 at *
  generalize kinS saleB.acs 2 0 5 saleB.ens = z2 at *
  clear hK4 hK5 k4
  go_wp2_with fail
  refine (day_any _ _).mono ?_
  rintro e w6 ⟨rfl, rfl⟩
  have D1 := (dyB_iff _).1 (dyV_ok t0)
  generalize dyV t0 = d at *
  obtain ⟨b0, b1, b2, b3⟩ := HB.out.later hK6
  have HK6 := Lib.hid hK6
  clear hK6
  go_wp2_with fail
  have N1 := wnV_bd n0 (n := 1000) (by decide)
  have WN := Lib.hid (fun V => wn_any n0 1000 V (by decide) (by decide))
  have HB6 := Lib.hid (HB.out.later HK6.out)
  generalize wnV n0 1000 = n at *
  have w1' : IntKind.i64.wrap (1 + n) = 1 + n := IntWalk.i64_in _ (by omega)
  have w2' : IntKind.i64.wrap (-1 - n) = -1 - n := IntWalk.i64_in _ (by omega)
  generalize w.heap.size = pb at *
  by_cases ok : poE b (mvE k d n) = 0
  · have PY := Lib.hid (fun V a (h : BkM V q b) (hx : EtM V (mvE k d n) a 2) => post_yes q b (mvE k d n) a 2 V h hx ok)
    go_cut [15, 10] (fun s15 s10 wx => PoBox w5 (poV b (mvE k d n)) s15 s10 wx)
    case first =>
      go_region_held3 (fun w' => Kept w5 w' ∧ w'.cell? ⟨pb, 0, none⟩ = some (.slice q.aa b.acs.length q.ca) ∧ w'.cell? ⟨pb, 1, none⟩ = some (.slice q.ae b.ens.length q.ce) ∧ w'.cell? ⟨pb, 2, none⟩ = some (.int .i64 b.shut))
        (first | (refine BBx.held HB6.out ?_; repeat' (first | (with_reducible assumption) | (with_reducible refine Kept.drew ?_) | (with_reducible refine Kept.alloc ?_ _) | (with_reducible refine Kept.setAt ?_ ?_ _) | (with_reducible exact Kept.refl _) | omega)))
        (first
          | (go_at_call 15; refine (WN.out _).mono ?_; rintro e w' ⟨rfl, rfl⟩)
          | (go_at_call 14; refine (PY.out _ _ (HM.out.later (HK6.out.trans (And.left (by assumption)))) (mv_m hk (by first | (simp; done) | (simp; omega)) (by simp) (by simp) (by simp) (by simp))).mono ?_; rintro e w' ⟨qy, rfl, hF, hkk⟩; have hKa := Kept.trans (a := w5) (And.left (by assumption)) hkk; (try (have hz := vbk_one (w := w5) (hkk.undrew); obtain ⟨⟨z8, z9, z10, z11⟩, z12, z13, z14⟩ := id hz)); (try (have hz := vbk_two (w := w5) (hkk.undrew); obtain ⟨⟨z8, z9, z10, z11⟩, z12, z13, z14⟩ := id hz)); clear hkk))
      all_goals go_wp2_with fail
      all_goals go_meet
      all_goals refine ⟨_, qy, rfl, rfl, ?_, ?_, ?_, ?_⟩
      all_goals first
        | exact hKa.le
        | omega
        | exact BBx.newAt rfl _ _
        | exact vbk_fill hz qy _
        | exact (hF.later ((Kept.refl _).alloc _)).m
        | exact (hF.set3 (by first | (simp; done) | (simp; omega)) _ _ _).m
        | exact hKa.alloc _
        | exact hKa.set3 (by first | exact Nat.le_refl _ | omega) _ _ _
    case rest =>
      obtain ⟨g, qy, rfl, rfl, hg, hBy, hMy, hK7⟩ := hcut
      obtain ⟨V, rfl⟩ : ∃ V : World, V = wc := ⟨_, rfl⟩
      have gd := (poE_ok ok).1
      obtain ⟨h1, h2⟩ := mv_has ok
      have gy := (Good.post ok).1
      have SM := Lib.hid (fun h => mv_same ok h)
      have INC := Lib.hid (acE_inc gd.acs).1
      have n24 := gd.a24
      obtain ⟨y1, hy1, e1⟩ := hasB_iff.1 h1
      obtain ⟨y2, hy2, e2⟩ := hasB_iff.1 h2
      have KA := kiV_at (inc_nodup INC.out)
      have ka1 := KA y1 hy1
      have ka2 := KA y2 hy2
      rw [e1] at ka1
      rw [e2] at ka2
      obtain ⟨i1, hi1, r1⟩ := List.mem_iff_getElem.1 hy1
      obtain ⟨i2, hi2, r2⟩ := List.mem_iff_getElem.1 hy2
      have BS1 := Lib.hid (fun W' ad (h : PArg W' ad b.acs) => bs1_any b.acs ad q.ca ten i1 W' h INC.out n24 hi1 (by rw [r1, e1]))
      have BS2 := Lib.hid (fun W' ad (h : PArg W' ad b.acs) => bs2_any b.acs ad q.ca fift i2 W' h INC.out n24 hi2 (by rw [r2, e2]))
      have HMb := Lib.hid (HM.out.later HK6.out)
      have HMy := Lib.hid hMy
      have HBy := Lib.hid hBy
      have HK7 := Lib.hid hK7
      have GB := Lib.hid gd
      have GY := Lib.hid gy
      clear h1 h2 KA hMy hBy gd gy PY b0 b1 b2 b3
      obtain ⟨b0, b1, b2, b3⟩ := HB6.out.later hK7
      go_wp2_with fail
      refine (BS1.out _ _ (HMb.out.later hK7).acs).mono ?_
      rintro e w8 ⟨rfl, hK8⟩
      clear b0 b1 b2 b3
      obtain ⟨b0, b1, b2, b3⟩ := HB6.out.later (hK7.trans hK8)
      go_wp2_with fail
      refine (BS2.out _ _ (HMb.out.later (hK7.trans hK8)).acs).mono ?_
      rintro e w9 ⟨rfl, hK9⟩
      have hKz := hK7.trans (hK8.trans hK9)
      have HKz := Lib.hid hKz
      have HVz := Lib.hid (hK8.trans hK9)
      clear b0 b1 b2 b3
      obtain ⟨b0, b1, b2, b3⟩ := HB6.out.later hKz
      obtain ⟨p1, o1, hp1, hR1⟩ := (HMb.out.later hKz).acs.at hi1
      have c1 := hR1.c1 i1 hi1
      have c2 := hR1.c1 i2 hi2
      rw [r1] at c1
      rw [r2] at c2
      have plt := hR1.lt
      rw [hp1] at b1
      have g1 : (0 : Int) ≤ (i1 : Int) := by omega
      have g2 : (i1 : Int) < (b.acs.length : Int) := by omega
      have g3 : (0 : Int) ≤ (i2 : Int) := by omega
      have g4 : (i2 : Int) < (b.acs.length : Int) := by omega
      have g5 : decide (b.acs.length ≤ i1) = false := by simpa using hi1
      have g6 : decide (b.acs.length ≤ i2) = false := by simpa using hi2
      have HQ := Lib.hid hp1
      clear hR1 hp1 r1 r2 e1 e2 hy1 hy2 hK7 hK8 hK9 hKz
      by_cases kk : y1.2 = y2.2
      · have k2 : (y1.2 != y2.2) = false := by simp [kk]
        have KE := SM.out (by rw [ka1, ka2, kk])
        have SE := Lib.hid (fun j f t => KE j f t)
        have PE := Lib.hid (show prV (poV b (mvE k d n)) 0 d = prV b 0 d by unfold prV; rw [SE.out, SE.out])
        have T1 := Lib.hid (tcE_of (f := d) (t := d) GB.out (by omega))
        have T2 := Lib.hid (tcE_of (f := d) (t := d) GY.out (by omega))
        have T3 := Lib.hid (tcE_of (f := 0) (t := d) GB.out (by omega))
        have T4 := Lib.hid (tcE_of (f := 0) (t := d) GY.out (by omega))
        have S1 := Lib.hid (fun W' (h : BkM W' q b) => sheet_yes q b d W' h T1.out)
        have S2 := Lib.hid (fun W' (h : BkM W' qy (poV b (mvE k d n))) => sheet_yes qy (poV b (mvE k d n)) d W' h T2.out)
        have P1 := Lib.hid (fun W' (h : BkM W' q b) => profit_yes q b 0 d W' h T3.out)
        have P2 := Lib.hid (fun W' (h : BkM W' qy (poV b (mvE k d n))) => profit_yes qy (poV b (mvE k d n)) 0 d W' h T4.out)
        simp only [SE.out] at S2
        rw [PE.out] at P2
        generalize poV b (mvE k d n) = by' at *
        generalize kinS b.acs 0 0 d b.ens = v0 at *
        generalize kinS b.acs 1 0 d b.ens = v1 at *
        generalize kinS b.acs 2 0 d b.ens = v2 at *
        generalize prV b 0 d = v3 at *
        clear ok ka1 ka2 kk KE
        go_wp2_with fail
        go_quiet (fail)
        clear g1 g2 g3 g4 g5 g6 c1 c2 plt k2
        rw [← HQ.out] at b1
        go_wp2_with fail
        refine (S1.out _ (HMb.out.later (HKz.out.drewN _))).mono ?_
        rintro e wa ⟨rfl, hKa⟩
        have KA := Lib.hid ((HKz.out.drewN _).trans hKa)
        have VA := Lib.hid ((HVz.out.drewN _).trans hKa)
        clear b0 b1 b2 b3 hKa
        obtain ⟨b0, b1, b2, b3⟩ := HBy.out.later VA.out
        go_wp2_with fail
        refine (S2.out _ (HMy.out.later VA.out)).mono ?_
        rintro e wb ⟨rfl, hKb⟩
        have KB := Lib.hid (KA.out.trans hKb)
        have VB := Lib.hid (VA.out.trans hKb)
        clear b0 b1 b2 b3 hKb
        obtain ⟨b0, b1, b2, b3⟩ := HB6.out.later KB.out
        go_wp2_with fail
        refine (P1.out _ (HMb.out.later KB.out)).mono ?_
        rintro e wc ⟨rfl, hKc⟩
        have KC := Lib.hid (KB.out.trans hKc)
        have VC := Lib.hid (VB.out.trans hKc)
        clear b0 b1 b2 b3 hKc
        obtain ⟨b0, b1, b2, b3⟩ := HBy.out.later VC.out
        go_wp2_with fail
        refine (P2.out _ (HMy.out.later VC.out)).mono ?_
        rintro e wd ⟨rfl, hKd⟩
        go_wp2
        go_ret
        exact ⟨rfl, HK.out.trans (HK6.out.trans (KC.out.trans hKd))⟩
      · have k2 : (y1.2 != y2.2) = true := by simpa using kk
        clear ok ka1 ka2 kk
        go_wp2_with fail
        go_quiet (fail)
        go_wp2
        go_ret
        exact ⟨rfl, HK.out.trans (HK6.out.trans (HKz.out.drewN _))⟩
  · have PN := Lib.hid (fun V a (h : BkM V q b) (hx : EtM V (mvE k d n) a 2) => post_no q b (mvE k d n) a 2 V h hx ok)
    have h2 : (poE b (mvE k d n) != 0) = true := by simpa using ok
    clear ok
    generalize poE b (mvE k d n) = er at *
    go_cut [15, 10] (fun s15 s10 wx => PoNone w5 er s15 s10 wx)
    case first =>
      go_region_held3 (fun w' => Kept w5 w' ∧ w'.cell? ⟨pb, 0, none⟩ = some (.slice q.aa b.acs.length q.ca) ∧ w'.cell? ⟨pb, 1, none⟩ = some (.slice q.ae b.ens.length q.ce) ∧ w'.cell? ⟨pb, 2, none⟩ = some (.int .i64 b.shut))
        (first | (refine BBx.held HB6.out ?_; repeat' (first | (with_reducible assumption) | (with_reducible refine Kept.drew ?_) | (with_reducible refine Kept.alloc ?_ _) | (with_reducible refine Kept.setAt ?_ ?_ _) | (with_reducible exact Kept.refl _) | omega)))
        (first
          | (go_at_call 15; refine (WN.out _).mono ?_; rintro e w' ⟨rfl, rfl⟩)
          | (go_at_call 14; refine (PN.out _ _ (HM.out.later (HK6.out.trans (And.left (by assumption)))) (mv_m hk (by first | (simp; done) | (simp; omega)) (by simp) (by simp) (by simp) (by simp))).mono ?_; rintro e w' ⟨rfl, hkk⟩; have hKa := Kept.trans (a := w5) (And.left (by assumption)) hkk; (try (have hz := vbk_one (w := w5) (hkk.undrew); obtain ⟨⟨z8, z9, z10, z11⟩, z12, z13, z14⟩ := id hz)); (try (have hz := vbk_two (w := w5) (hkk.undrew); obtain ⟨⟨z8, z9, z10, z11⟩, z12, z13, z14⟩ := id hz)); clear hkk))
      all_goals go_wp2_with fail
      all_goals go_meet
      all_goals refine ⟨_, rfl, rfl, ?_, ?_, ?_⟩
      all_goals first
        | exact hKa.le
        | omega
        | exact BBx.newAt rfl noA noB
        | exact vbk_fill hz noA noB
        | exact hKa.alloc _
        | exact hKa.set3 (by first | exact Nat.le_refl _ | omega) _ _ _
    case rest =>
      obtain ⟨g, rfl, rfl, hg, hBy, hK7⟩ := hcut
      obtain ⟨V, rfl⟩ : ∃ V : World, V = wc := ⟨_, rfl⟩
      obtain ⟨z0, z1, z2, z3⟩ := hBy
      simp only [noA, noB, List.length_nil] at z1 z2 z3
      go_wp2
      go_ret
      exact ⟨rfl, HK.out.trans (HK6.out.trans hK7)⟩
end Go.Proofs.Ytklbikifcebckaa
