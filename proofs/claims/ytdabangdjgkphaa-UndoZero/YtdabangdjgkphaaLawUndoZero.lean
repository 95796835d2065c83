/-
  The walk of talkeep.UndoZero: it returns true at every input. No condition but those that each theorem names.
-/
import Derived.Test.YtdabangdjgkphaaXWalkF
namespace Go.Proofs.Ytdabangdjgkphaa
open Go.RowKit
set_option linter.unusedVariables false

theorem codeS_none {c : ByteArray} : ∀ {m : List Pr}, (∀ x ∈ m, x.1 ≠ c) → codeS c m = 0
  | [], _ => rfl
  | y :: t, h => by rw [codeS, codeS_none fun x hx => h x (by simp [hx]), if_neg (fun z => h y (by simp) (isB_iff.1 z))]; rfl
/-- The one line with a code. -/
theorem codeS_hit {c : ByteArray} {l : List Pr} (hn : (l.map Prod.fst).Nodup) {j : Nat} (h : j < l.length) (e : isB c l[j] = true) : codeS c (l.take (j + 1)) = (l[j]).2 := by
  rw [codeS_snoc h, if_pos e]
  have hz : codeS c (l.take j) = 0 := codeS_none fun x hx hc => by
    have e1 := isB_iff.1 e
    rw [← List.take_append_drop j l, List.map_append, List.nodup_append] at hn
    refine hn.2.2 x.1 (List.mem_map.2 ⟨x, hx, rfl⟩) (l[j]).1 ?_ (hc.trans e1.symm)
    exact List.mem_map.2 ⟨l[j], by rw [List.drop_eq_getElem_cons h]; exact List.mem_cons_self, rfl⟩
  rw [hz]; simp
theorem codeS_miss {c : ByteArray} {l : List Pr} {j : Nat} (h : j < l.length) (e : isB c l[j] = false) : codeS c (l.take (j + 1)) = codeS c (l.take j) := by
  rw [codeS_snoc h, e]; simp
/-- What a reversal leaves. -/
structure Undone (b y : Bk) (k u : ByteArray) (d : Int) : Prop where
  good : Good b
  at_ : kyI k b.ens < b.ens.length
  gy : Good y
  acs : y.acs = b.acs
  there : unX b k u d ∈ y.ens
  day : 0 ≤ d ∧ d ≤ 292193
  ok : OkE b.acs (atK k b.ens)
  end_ : y.ens.length = b.ens.length ∨ (y.ens.length = b.ens.length + 1 ∧ ∀ c i, d ≤ i → balS c i y.ens = balS c i b.ens - codeS c (atK k b.ens).lns)
theorem undone {b : Bk} {k u : ByteArray} {d : Int} (h : unE b k u d = 0) : Undone b (poV b (unX b k u d)) k u d := by
  obtain ⟨a1, a2, a3⟩ := unE_ok h
  obtain ⟨gd, hk⟩ := gtE_ok a1
  obtain ⟨gy, hm, ea, es, hmem⟩ := Good.post a3
  obtain ⟨_, _, hor⟩ := poE_ok a3
  have dd : 0 ≤ d ∧ d ≤ 292193 := by
    unfold hdE at a2
    split at a2
    · split at a2
      · omega
      · omega
    · omega
  refine ⟨gd, hk, gy, ea, hm, dd, by rw [atK_eq hk]; exact gd.each _ (List.getElem_mem hk), ?_⟩
  rcases hor with ⟨hx, e⟩ | ⟨_, _, _, _, e⟩
  · rw [e]; exact .inl rfl
  · rw [e]
    refine .inr ⟨insE_len _ _, fun c i hi => ?_⟩
    have e1 : (unX b k u d).day = d := rfl
    have e2 : (unX b k u d).lns = negL (atK k b.ens).lns := rfl
    rw [balS_ins, e1, if_pos hi, e2, codeS_neg]; omega
theorem Undone.other {b y : Bk} {k u : ByteArray} {d : Int} (h : Undone b y k u d) : ∃ hk : kyI u y.ens < y.ens.length, y.ens[kyI u y.ens] = unX b k u d := by
  have hlt : kyI u y.ens < y.ens.length := kyI_lt.2 ⟨_, h.there, rfl⟩
  exact ⟨hlt, h.gy.key_inj (List.getElem_mem _) h.there (kyI_at hlt)⟩
set_option maxRecDepth 100000 in
set_option maxHeartbeats 4000000 in
theorem undoZero_walk (q : BkA) (b : Bk) (k u : ByteArray) (d : Int) (c : ByteArray) (la : Int) (w : World) (hM : BkM w q b) (hk : k.size ≤ maxLen) (hu : u.size ≤ maxLen) (hc : c.size ≤ maxLen) :
    Calls Try.prog 4 #[bkV q b, .string k, .string u, .int .i64 d, .string c, .int .i64 la] w fun e w' => e = .returned (.bool true) ∧ Below w.heap.size w w' := by
  have hK2 := (Kept.refl w).alloc (bkO q b)
  have HB := Lib.hid (BBx.new w q b)
  have HM := Lib.hid (hM.later hK2)
  generalize hW : w.alloc (bkO q b) = W at *
  have HW := Lib.hid hW
  have HK := Lib.hid hK2
  clear hM hW hK2
  go_enter Try.func4, Try.ntmps4
  go_wp2_with fail
  rw [HW.out]
  refine (plain_any _).mono ?_
  rintro e w1 ⟨q1, rfl, hM1, hK1⟩
  go_wp2_with fail
  refine (sale_any _ _ _ _ (by decide) (by decide)).mono ?_
  rintro e w2 ⟨p, hp, rfl, hR, hK2⟩
  have PY := Lib.hid (post_yes q1 plainB saleE (some ⟨p, 0, none⟩) 2 w2 (hM1.later hK2) (sale_m hR) sale_ok)
  rw [sale_post] at PY
  go_wp2_with fail
  refine PY.out.mono ?_
  rintro e w3 ⟨q3, rfl, hF, hK3⟩
  have k4 := (Kept.refl w3).alloc (bkO q3 saleB)
  have HM4 := Lib.hid (hF.m.later k4)
  have hK4 := hK1.trans (hK2.trans (hK3.trans k4))
  have CY := Lib.hid (undo_yes q3 saleB ⟨#[97]⟩ ⟨#[98]⟩ 9 _ HM4.out (by unfold maxLen; decide) u_un)
  rw [show poV saleB (unX saleB ⟨#[97]⟩ ⟨#[98]⟩ 9) = unB from rfl] at CY
  clear hM1 hR hF hK1 hK2 hK3 PY
  go_wp2_with fail
  refine CY.out.mono ?_
  rintro e w5 ⟨q5, rfl, hF5, hK5⟩
  have k6 := (Kept.refl w5).alloc (bkO q5 unB)
  have HV := Lib.hid (xb_new (w := w5) rfl q5 unB)
  have BA := Lib.hid (bal_yes q5 unB ⟨#[49, 48]⟩ 9 _ (hF5.m.later k6) u_ba)
  rw [u_bal] at BA
  have HK6 := Lib.hid (hK4.trans (hK5.trans k6))
  have hp5 : W.heap.size ≤ w5.heap.size := (hK4.trans hK5).le
  clear hK4 hK5 k4 hF5 CY HM4
  go_wp2_with fail
  refine BA.out.mono ?_
  rintro e w7 ⟨rfl, hK7⟩
  have HV7 := Lib.hid (HV.out.later hK7)
  have HK7 := Lib.hid (HK6.out.trans hK7)
  clear BA HV HK6 hK7 k6
  generalize w5.heap.size = py at *
  obtain ⟨⟨v0, v1, v2, v3⟩, f0, f1, f2⟩ := HV7.out
  rw [u_len] at v2
  obtain ⟨b0, b1, b2, b3⟩ := HB.out.later HK7.out
  by_cases ok : unE b k u d = 0
  · have CL := Lib.hid (undo_yes q b k u d w7 (HM.out.later HK7.out) hu ok)
    have UD := undone ok
    have HX := Lib.hid (show unX b k u d = ⟨u, d, negL (atK k b.ens).lns⟩ from rfl)
    generalize poV b (unX b k u d) = y at *
    have UD := Lib.hid UD
    clear ok
    go_wp2_with fail
    refine CL.out.mono ?_
    rintro e w8 ⟨q8, rfl, hF8, hK8⟩
    have PU := Lib.hid (Put.of HV7.out hK8 HK7.out hp5 hF8 (Nat.le_refl _))
    clear v0 v1 v2 v3 f0 f1 f2 b0 b1 b2 b3
    obtain ⟨⟨v0, v1, v2, v3⟩, f0, f1, f2⟩ := HV7.out.later hK8
    obtain ⟨b0, b1, b2, b3⟩ := HB.out.later (HK7.out.trans hK8)
    have hn : w.heap.size ≠ py := by have := HB.out.lt; omega
    clear CL hF8 hK8
    go_wp2_with fail
    generalize ((w8.setCell ⟨py, 0, none⟩ (.slice q8.aa y.acs.length q8.ca)).setCell ⟨py, 1, none⟩ (.slice q8.ae y.ens.length q8.ce)).setCell ⟨py, 2, none⟩ (.int .i64 y.shut) = w9 at *
    clear v0 v1 v2 v3 f0 f1 f2 b0 b1 b2 b3
    have BM := Lib.hid (fun V (k : Kept w9 V) => (HB.out.later (PU.out.kp.trans k)))
    have YM := Lib.hid (fun V (k : Kept w9 V) => (PU.out.vy.later k).box)
    obtain ⟨gt, e0, es, el, eh⟩ := undo_pre q b k w9 (HM.out.later PU.out.kp) UD.out.good _ rfl UD.out.at_
    have GY := Lib.hid (fun V (h : BkM V q8 y) => show Calls Try.prog 12 #[bkV q8 y, .string u] V (EtYes V (unX b k u d)) from by
      obtain ⟨hh, e⟩ := UD.out.other
      rw [← e]; exact get_yes q8 y u V h UD.out.gy _ rfl hh)
    have OKX := Lib.hid UD.out.ok
    obtain ⟨_, _, l12, _, _, _⟩ := enE_iff.1 e0
    have ND := Lib.hid (enE_iff.1 e0).2.2.2.2.1
    have XD := UD.out.ok.day
    have XB := Lib.hid UD.out.ok.bd.2
    have ED := Lib.hid UD.out.end_
    obtain ⟨d0, d1⟩ := UD.out.day
    have nl : (unX b k u d).lns.length = (atK k b.ens).lns.length := by rw [HX.out]; exact negL_len _
    have EA := Lib.hid UD.out.acs
    have GD := Lib.hid UD.out.good
    have GDY := Lib.hid UD.out.gy
    clear UD HX e0 es el eh
    generalize unX b k u d = o at *
    generalize atK k b.ens = x at *
    refine gt.mono ?_
    rintro e w10 ⟨p10, hp10, rfl, hO10, hK10⟩
    have kA := (Kept.refl w10).alloc (enO x (some ⟨p10, 0, none⟩) x.lns.length)
    have HX1 := Lib.hid (EBx.newAt (w := w10) rfl x.key x.day (.slice (some ⟨p10, 0, none⟩) x.lns.length x.lns.length) 32)
    have HL1 := Lib.hid (hO10.later kA)
    have K11 := Lib.hid (hK10.trans kA)
    obtain ⟨v0, v1, v2, v3⟩ := YM.out _ hK10
    generalize hw11 : w10.alloc (enO x (some ⟨p10, 0, none⟩) x.lns.length) = w11 at *
    have HW11 := Lib.hid hw11
    clear hO10 hK10 hw11 kA gt
    go_wp2_with fail
    rw [HW11.out]
    refine (GY.out w11 (PU.out.my.later K11.out)).mono ?_
    rintro e w12 ⟨p12, hp12, rfl, hO12, hK12⟩
    have K13 := Lib.hid (K11.out.trans (hK12.alloc (.cells #[.string o.key, .int .i64 o.day, .slice (some ⟨p12, 0, none⟩) x.lns.length x.lns.length] 32)))
    have HX3 := Lib.hid (HX1.out.later (hK12.alloc (.cells #[.string o.key, .int .i64 o.day, .slice (some ⟨p12, 0, none⟩) x.lns.length x.lns.length] 32)))
    have HL3 := Lib.hid (HL1.out.later (hK12.alloc (.cells #[.string o.key, .int .i64 o.day, .slice (some ⟨p12, 0, none⟩) x.lns.length x.lns.length] 32)))
    have HO3 := Lib.hid (EBx.newAt (w := w12) rfl o.key o.day (.slice (some ⟨p12, 0, none⟩) x.lns.length x.lns.length) 32)
    clear v0 v1 v2 v3
    obtain ⟨x0, x1, x2, x3⟩ := HX1.out.later hK12
    clear hO12
    rw [nl]
    go_wp2_with fail
    clear x0 x1 x2 x3
    generalize w12.alloc (.cells #[.string o.key, .int .i64 o.day, .slice (some ⟨p12, 0, none⟩) x.lns.length x.lns.length] 32) = w13 at *
    obtain ⟨x0, x1, x2, x3⟩ := HX3.out
    go_quiet ((go_at_call 17; exact quiet_same (day_any _ _)))
    have DL := (dyB_iff _).1 (dyV_ok la)
    obtain ⟨L, hL, L0, L1⟩ : ∃ L, (if (if d < x.day then x.day else d) < dyV la then dyV la else if d < x.day then x.day else d) = L ∧ d ≤ L ∧ dyB L = true := by
      refine ⟨_, rfl, ?_, ?_⟩
      · split
        · split at * <;> omega
        · split <;> omega
      · rw [dyB_iff]
        split
        · omega
        · split <;> omega
    rw [hL]
    have KD := Lib.hid ((Kept.refl w13).drewN nq)
    have HX4 := Lib.hid (HX3.out.later KD.out)
    have HL4 := Lib.hid (HL3.out.later KD.out)
    have K14 := Lib.hid (K13.out.trans KD.out)
    clear hL DL x0 x1 x2 x3 KD d0 d1
    generalize w13.drewN nq = w14 at *
    obtain ⟨n1, n2, er, BB, BY, EE⟩ : ∃ n1 n2 er, (∀ V, BkM V q b → Calls Try.prog 11 #[bkV q b, .string c, .int .i64 L] V (BalPost V n1 er)) ∧ (∀ V, BkM V q8 y → Calls Try.prog 11 #[bkV q8 y, .string c, .int .i64 L] V (BalPost V n2 er)) ∧ (er ≠ 0 ∨ (er = 0 ∧ (-720000000000000 ≤ n1 ∧ n1 ≤ 720000000000000) ∧ (y.ens.length = b.ens.length ∨ (y.ens.length = b.ens.length + 1 ∧ n2 = n1 - codeS c x.lns)))) := by
      by_cases oo : hasB c b.acs = true
      · refine ⟨balS c L b.ens, balS c L y.ens, 0, fun V h => bal_yes q b c L V h (GD.out.ba oo L1), fun V h => bal_yes q8 y c L V h (GDY.out.ba (by rw [EA.out]; exact oo) L1), .inr ⟨rfl, bal_bd GD.out c L, ?_⟩⟩
        rcases ED.out with h | ⟨h1, h2⟩
        · exact .inl h
        · exact .inr ⟨h1, h2 c L L0⟩
      · have ba : baE b c L = 4 := by unfold baE; rw [if_pos (bkE_iff.2 GD.out), if_neg oo]
        have ya : baE y c L = 4 := by unfold baE; rw [if_pos (bkE_iff.2 GDY.out), EA.out, if_neg oo]
        refine ⟨0, 0, 4, fun V h => ?_, fun V h => ?_, .inl (by decide)⟩
        · have := bal_no q b c L V h (by rw [ba]; decide)
          rwa [ba] at this
        · have := bal_no q8 y c L V h (by rw [ya]; decide)
          rwa [ya] at this
    have BB := Lib.hid BB
    have BY := Lib.hid BY
    have EE := Lib.hid EE
    clear ED EA GDY
    obtain ⟨b0, b1, b2, b3⟩ := BM.out _ K14.out
    go_wp2_with fail
    refine (BB.out w14 (HM.out.later (PU.out.kp.trans K14.out))).mono ?_
    rintro e w15 ⟨rfl, hK15⟩
    have K15 := Lib.hid (K14.out.trans hK15)
    clear b0 b1 b2 b3
    obtain ⟨v0, v1, v2, v3⟩ := YM.out _ K15.out
    have HX5 := Lib.hid (HX4.out.later hK15)
    have HL5 := Lib.hid (HL4.out.later hK15)
    clear hK15
    go_wp2_with fail
    refine (BY.out w15 (PU.out.my.later K15.out)).mono ?_
    rintro e w16 ⟨rfl, hK16⟩
    have K16 := Lib.hid (K15.out.trans hK16)
    clear v0 v1 v2 v3
    have HX6 := Lib.hid (HX5.out.later hK16)
    have HL6 := Lib.hid (HL5.out.later hK16)
    clear hK16
    obtain ⟨x0, x1, x2, x3⟩ := HX6.out
    go_wp2_with fail
    clear x0 x1 x2 x3
    have LB := Lib.hid (fun j => codeS_bd (c := c) (l := x.lns.take j) fun y hy => XB.out y (List.mem_of_mem_take hy))
    go_loopw [25, 124] (fun s i wr => ∃ j : Nat, j ≤ x.lns.length ∧ i = .int .i64 j ∧ s = .int .i64 (codeS c (x.lns.take j)) ∧ Kept w16 wr) (fun _ i _ => x.lns.length - (intOf i).toNat)
    case atStart => exact ⟨0, Nat.zero_le _, rfl, rfl, Kept.refl _⟩
    case round =>
      obtain ⟨j, hj, rfl, rfl, hK⟩ := hrel
      have KW := Lib.hid (K16.out.trans hK)
      by_cases hlt : j < x.lns.length
      · have hR := (HL6.out.later hK).row
        have c0 := hR.c0 j hlt
        have c1 := hR.c1 j hlt
        rw [Nat.zero_add] at c0 c1
        have plt := hR.lt
        have YS := Lib.hid (codeS_hit (c := c) ND.out hlt)
        have NO := Lib.hid (codeS_miss (c := c) hlt)
        have HLT := Lib.hid hlt
        clear hR
        generalize x.lns[j] = l at *
        have KA := Lib.hid (hK.alloc (.cells #[.string l.1, .int .i64 l.2] 49))
        generalize codeS c (x.lns.take j) = cj at *
        cases hb : isB c l
        · have hb2 : (l.1.toList == c.toList) = false := hb
          have NX := Lib.hid (NO.out hb)
          clear hb YS NO
          go_wp2
          go_roundw
          case rel => exact ⟨j + 1, HLT.out, by go_num, by rw [NX.out], KA.out⟩
          case measure => have := HLT.out; simp [intOf]; omega
        · have hb2 : (l.1.toList == c.toList) = true := hb
          have NX := Lib.hid (YS.out hb)
          clear hb YS NO
          go_wp2
          go_roundw
          case rel => exact ⟨j + 1, HLT.out, by go_num, by rw [NX.out], KA.out⟩
          case measure => have := HLT.out; simp [intOf]; omega
      · obtain rfl : j = x.lns.length := by omega
        clear hlt
        obtain ⟨z1, z2⟩ := LB.out x.lns.length
        rw [List.take_length] at z1 z2 ⊢
        obtain ⟨v0, v1, v2, v3⟩ := YM.out _ KW.out
        obtain ⟨b0, b1, b2, b3⟩ := BM.out _ KW.out
        generalize codeS c x.lns = cs at *
        rcases EE.out with h | ⟨rfl, ⟨m1, m2⟩, h⟩
        · have h' : (er != 0) = true := by simpa using h
          clear v0 v1 v2 v3 b0 b1 b2 b3
          go_wp2
          go_ret
          exact ⟨by simp, HK.out.trans (PU.out.kp.trans KW.out)⟩
        · have w1' : IntKind.i64.wrap (n1 - cs) = n1 - cs := IntWalk.i64_in _ (by omega)
          rcases h with h | ⟨h1, h2⟩
          · have h' : ((y.ens.length : Int) == (b.ens.length : Int)) = true := by rw [h]; simp
            go_wp2
            go_ret
            exact ⟨rfl, HK.out.trans (PU.out.kp.trans KW.out)⟩
          · have h' : ((y.ens.length : Int) == (b.ens.length : Int)) = false := by rw [beq_eq_false_iff_ne]; omega
            have h'' : (n2 == n1 - cs) = true := by rw [beq_iff_eq]; exact h2
            clear h1 h2
            go_wp2
            go_ret
            exact ⟨rfl, HK.out.trans (PU.out.kp.trans KW.out)⟩
  · have CN := Lib.hid (undo_no q b k u d w7 (HM.out.later HK7.out) hu ok)
    have hne : (unE b k u d != 0) = true := by simpa using ok
    clear ok
    generalize unE b k u d = ek at *
    go_wp2_with fail
    refine CN.out.mono ?_
    rintro e w8 ⟨rfl, hK8⟩
    clear v0 v1 v2 v3 f0 f1 f2 b0 b1 b2 b3
    obtain ⟨⟨v0, v1, v2, v3⟩, f0, f1, f2⟩ := HV7.out.later hK8
    have FK := Lib.hid ((HK7.out.trans hK8).set3 (p := py) hp5 (.slice none 0 0) (.slice none 0 0) (.int .i64 0))
    clear hK8 CN
    go_wp2
    go_ret
    exact ⟨rfl, HK.out.trans FK.out⟩
end Go.Proofs.Ytdabangdjgkphaa
