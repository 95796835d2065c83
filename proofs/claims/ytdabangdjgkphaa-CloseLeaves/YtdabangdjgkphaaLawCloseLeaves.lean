/-
  The walk of talkeep.CloseLeaves: it returns true at every input. No condition but those that each theorem names.
-/
import Derived.Test.YtdabangdjgkphaaXWalkE
namespace Go.Proofs.Ytdabangdjgkphaa
open Go.RowKit
set_option linter.unusedVariables false

/-- What a closing leaves of a balance. -/
theorem Closed.leaves {b y : Bk} {k : ByteArray} {d : Int} {c : ByteArray} (h : Closed b y k d c) (g : Good b) (hc : kiV b.acs c = 2) {o : ByteArray} (ho : hasB o b.acs = true) (i : Int) :
    balS o i b.ens = balS o i y.ens ∨ (d ≤ i ∧ 2 ≤ kiV b.acs o) := by
  by_cases hk : ∃ e ∈ b.ens, e.key = k
  · rw [h.old hk]; exact .inl rfl
  · have hk2 : ∀ e ∈ b.ens, e.key ≠ k := fun e he hx => hk ⟨e, he, hx⟩
    rw [h.bal hk2]
    by_cases hd : d ≤ i
    · by_cases h2 : 2 ≤ kiV b.acs o
      · exact .inr ⟨hd, h2⟩
      · obtain ⟨a, ha, rfl⟩ := hasB_iff.1 ho
        have hv := kiV_at g.nodup a ha
        have hne : c ≠ a.1 := fun e => by rw [← e, hc] at h2; omega
        rw [if_pos hd, codeS_clA g.nodup (k := a.2) ha hne, if_neg (by omega)]
        exact .inl (by omega)
    · rw [if_neg hd]; exact .inl (by omega)
/-- The kind that is found among the first accounts. -/
def kdJ (acs : List Pr) (o : ByteArray) (j : Nat) : Int := if hasB o (acs.take j) = true then kiV acs o else -1
theorem kdJ_yes {acs : List Pr} {o : ByteArray} {j : Nat} (hn : (acs.map Prod.fst).Nodup) (h : j < acs.length) (e : isB o acs[j] = true) : kdJ acs o (j + 1) = (acs[j]).2 := by
  unfold kdJ
  rw [if_pos (hasB_iff.2 ⟨acs[j], by rw [List.take_succ_eq_append_getElem h]; exact List.mem_append.2 (.inr (List.mem_singleton.2 rfl)), isB_iff.1 e⟩), ← isB_iff.1 e]
  exact kiV_at hn _ (List.getElem_mem h)
theorem kdJ_no {acs : List Pr} {o : ByteArray} {j : Nat} (h : j < acs.length) (e : isB o acs[j] = false) : kdJ acs o (j + 1) = kdJ acs o j := by
  unfold kdJ
  have : hasB o (acs.take (j + 1)) = hasB o (acs.take j) := by
    rw [Bool.eq_iff_iff, hasB_iff, hasB_iff, List.take_succ_eq_append_getElem h]
    constructor
    · rintro ⟨y, hy, k⟩
      rcases List.mem_append.1 hy with hy | hy
      · exact ⟨y, hy, k⟩
      · rw [List.mem_singleton] at hy
        rw [hy] at k
        rw [isB_iff.2 k] at e; cases e
    · rintro ⟨y, hy, k⟩
      exact ⟨y, List.mem_append.2 (.inl hy), k⟩
  rw [this]
set_option maxRecDepth 100000 in
set_option maxHeartbeats 4000000 in
theorem closeLeaves_walk (q : BkA) (b : Bk) (k : ByteArray) (d : Int) (c o : ByteArray) (i : Int) (w : World) (hM : BkM w q b) (hk : k.size ≤ maxLen) (hc : c.size ≤ maxLen) (ho : o.size ≤ maxLen) :
    Calls Try.prog 5 #[bkV q b, .string k, .int .i64 d, .string c, .string o, .int .i64 i] w fun e w' => e = .returned (.bool true) ∧ Below w.heap.size w w' := by
  have hK2 := (Kept.refl w).alloc (bkO q b)
  have HB := Lib.hid (BBx.new w q b)
  have HM := Lib.hid (hM.later hK2)
  generalize hW : w.alloc (bkO q b) = W at *
  have HW := Lib.hid hW
  have HK := Lib.hid hK2
  clear hM hW hK2
  go_enter Try.func5, Try.ntmps5
  go_wp2_with fail
  rw [HW.out]
  refine (plain_any _).mono ?_
  rintro e w1 ⟨q1, rfl, hM1, hK1⟩
  go_wp2_with fail
  refine (sale_any _ _ _ _ (by decide) (by decide)).mono ?_
  rintro e w2 ⟨p, hp, rfl, hR, hK2⟩
  have PY := Lib.hid (post_yes q1 plainB saleE (some ⟨p, 0, none⟩) 2 w2 (hM1.later hK2) (sale_m hR) sale_ok)
  rw [sale_post] at PY
  go_wp2_with fail
  refine PY.out.mono ?_
  rintro e w3 ⟨q3, rfl, hF, hK3⟩
  have k4 := (Kept.refl w3).alloc (bkO q3 saleB)
  have HM4 := Lib.hid (hF.m.later k4)
  have hK4 := hK1.trans (hK2.trans (hK3.trans k4))
  have CY := Lib.hid (close_yes q3 saleB ⟨#[122]⟩ 6 ⟨#[51, 48]⟩ _ HM4.out (by unfold maxLen; decide) (by unfold maxLen; decide) z_cl)
  rw [show clV saleB ⟨#[122]⟩ 6 ⟨#[51, 48]⟩ = clB from rfl] at CY
  clear hM1 hR hF hK1 hK2 hK3 PY
  go_wp2_with fail
  refine CY.out.mono ?_
  rintro e w5 ⟨q5, rfl, hF5, hK5⟩
  have k6 := (Kept.refl w5).alloc (bkO q5 clB)
  have HV := Lib.hid (xb_new (w := w5) rfl q5 clB)
  have BA := Lib.hid (bal_yes q5 clB ⟨#[52, 48]⟩ 5 _ (hF5.m.later k6) z_ba5)
  rw [z_bal5] at BA
  have HK6 := Lib.hid (hK4.trans (hK5.trans k6))
  have hp5 : W.heap.size ≤ w5.heap.size := (hK4.trans hK5).le
  clear hK4 hK5 k4 hF5 CY HM4
  go_wp2_with fail
  refine BA.out.mono ?_
  rintro e w7 ⟨rfl, hK7⟩
  have HV7 := Lib.hid (HV.out.later hK7)
  have HK7 := Lib.hid (HK6.out.trans hK7)
  clear BA HV HK6 hK7 k6
  generalize w5.heap.size = py at *
  obtain ⟨⟨v0, v1, v2, v3⟩, f0, f1, f2⟩ := HV7.out
  rw [z_shut] at v3
  obtain ⟨b0, b1, b2, b3⟩ := HB.out.later HK7.out
  by_cases ok : clE b k d c = 0
  · have CL := Lib.hid (close_yes q b k d c w7 (HM.out.later HK7.out) hk hc ok)
    have CF := clE_closed ok
    obtain ⟨h1, h2, h3, h4⟩ := clE_ok ok
    obtain ⟨gd, dy, hcc, hc2⟩ := ccE_ok h1
    generalize clV b k d c = y at *
    clear ok h2 h3 h4
    go_wp2_with fail
    refine CL.out.mono ?_
    rintro e w8 ⟨q8, rfl, hF8, hK8⟩
    have PU := Lib.hid (Put.of HV7.out hK8 HK7.out hp5 hF8 (Nat.le_refl _))
    clear v0 v1 v2 v3 f0 f1 f2 b0 b1 b2 b3
    obtain ⟨⟨v0, v1, v2, v3⟩, f0, f1, f2⟩ := HV7.out.later hK8
    obtain ⟨b0, b1, b2, b3⟩ := HB.out.later (HK7.out.trans hK8)
    have hn : w.heap.size ≠ py := by have := HB.out.lt; omega
    clear CL hF8 hK8
    have GD := Lib.hid gd
    have DY := Lib.hid dy
    have CF := Lib.hid CF
    have HC := Lib.hid (show hasB c b.acs = true ∧ kiV b.acs c = 2 from ⟨hcc, hc2⟩)
    clear gd dy hcc hc2 h1
    have LV := Lib.hid (fun (h : hasB o b.acs = true) i => CF.out.leaves GD.out HC.out.2 h i)
    have HO := Lib.hid ho
    have GY := Lib.hid CF.out.good
    have EA := Lib.hid CF.out.acs
    go_wp2_with fail
    generalize ((w8.setCell ⟨py, 0, none⟩ (.slice q8.aa y.acs.length q8.ca)).setCell ⟨py, 1, none⟩ (.slice q8.ae y.ens.length q8.ce)).setCell ⟨py, 2, none⟩ (.int .i64 y.shut) = w9 at *
    clear v0 v1 v2 v3 f0 f1 f2 b0 b1 b2 b3
    refine (day_any i w9).mono ?_
    rintro e w10 ⟨rfl, rfl⟩
    have DT := Lib.hid (dyV_ok i)
    generalize dyV i = t at *
    have BM := Lib.hid (fun V (k : Kept w9 V) => (HB.out.later (PU.out.kp.trans k)))
    have YM := Lib.hid (fun V (k : Kept w9 V) => (PU.out.vy.later k).box)
    obtain ⟨b0, b1, b2, b3⟩ := BM.out _ (Kept.refl w9)
    by_cases oo : hasB o b.acs = true
    · have BB := Lib.hid (bal_yes q b o t w9 (HM.out.later PU.out.kp) (GD.out.ba oo DT.out))
      have BY := Lib.hid (fun V (h : BkM V q8 y) => bal_yes q8 y o t V h (GY.out.ba (by rw [EA.out]; exact oo) DT.out))
      have LX := Lib.hid (LV.out oo t)
      have OO := Lib.hid oo
      clear oo LV
      generalize balS o t b.ens = n1 at *
      generalize balS o t y.ens = n2 at *
      go_wp2_with fail
      refine BB.out.mono ?_
      rintro e w10 ⟨rfl, hK10⟩
      clear b0 b1 b2 b3
      obtain ⟨v0, v1, v2, v3⟩ := YM.out _ hK10
      have K10 := Lib.hid hK10
      clear hK10
      go_wp2_with fail
      refine (BY.out w10 (PU.out.my.later K10.out)).mono ?_
      rintro e w11 ⟨rfl, hK11⟩
      have K11 := Lib.hid (K10.out.trans hK11)
      clear v0 v1 v2 v3 hK11
      obtain ⟨b0, b1, b2, b3⟩ := BM.out _ K11.out
      go_wp2_with fail
      clear b0 b1 b2 b3
      have b24 := GD.out.a24
      go_loopw [23, 94] (fun s i wr => ∃ j : Nat, j ≤ b.acs.length ∧ i = .int .i64 j ∧ s = .int .i64 (kdJ b.acs o j) ∧ Kept w11 wr) (fun _ i _ => b.acs.length - (intOf i).toNat)
      case atStart => exact ⟨0, Nat.zero_le _, rfl, rfl, Kept.refl _⟩
      case round =>
        obtain ⟨j, hj, rfl, rfl, hK⟩ := hrel
        have KW := Lib.hid (K11.out.trans hK)
        by_cases hlt : j < b.acs.length
        · obtain ⟨p8, off, hp8, hR⟩ := (HM.out.later (PU.out.kp.trans KW.out)).acs.at hlt
          have c0 := hR.c0 j hlt
          have c1 := hR.c1 j hlt
          have plt := hR.lt
          have YS := Lib.hid (kdJ_yes (o := o) GD.out.nodup hlt)
          have NO := Lib.hid (kdJ_no (o := o) hlt)
          have HLT := Lib.hid hlt
          clear hR
          rw [hp8] at *
          generalize b.acs[j] = x at *
          have KA := Lib.hid (hK.alloc (.cells #[.string x.1, .int .i64 x.2] 43))
          clear hp8
          generalize kdJ b.acs o j = kj at *
          cases hb : isB o x
          · have hb2 : (x.1.toList == o.toList) = false := hb
            have NX := Lib.hid (NO.out hb)
            clear hb YS NO
            go_wp2
            go_roundw
            case rel => exact ⟨j + 1, HLT.out, by go_num, by rw [NX.out], KA.out⟩
            case measure => have := HLT.out; simp [intOf]; omega
          · have hb2 : (x.1.toList == o.toList) = true := hb
            have NX := Lib.hid (YS.out hb)
            clear hb YS NO
            go_wp2
            go_roundw
            case rel => exact ⟨j + 1, HLT.out, by go_num, by rw [NX.out], KA.out⟩
            case measure => have := HLT.out; simp [intOf]; omega
        · obtain rfl : j = b.acs.length := by omega
          clear hlt
          have e : kdJ b.acs o b.acs.length = kiV b.acs o := by unfold kdJ; rw [List.take_length, if_pos OO.out]
          rw [e]
          clear e
          generalize kiV b.acs o = kv at *
          rcases LX.out with h | ⟨h1, h2⟩
          · have h' : (n1 == n2) = true := by simpa using h
            go_wp2
            go_ret
            exact ⟨rfl, HK.out.trans (PU.out.kp.trans KW.out)⟩
          · by_cases h : n1 = n2
            · have h' : (n1 == n2) = true := by simpa using h
              go_wp2
              go_ret
              exact ⟨rfl, HK.out.trans (PU.out.kp.trans KW.out)⟩
            · have h' : (n1 == n2) = false := by simpa using h
              go_wp2
              go_ret
              exact ⟨rfl, HK.out.trans (PU.out.kp.trans KW.out)⟩
    · have ba : baE b o t = 4 := by unfold baE; rw [if_pos (bkE_iff.2 GD.out), if_neg oo]
      have ya : baE y o t = 4 := by unfold baE; rw [if_pos (bkE_iff.2 GY.out), EA.out, if_neg oo]
      have BB := bal_no q b o t w9 (HM.out.later PU.out.kp) (by rw [ba]; decide)
      rw [ba] at BB
      have BB := Lib.hid BB
      have BY := Lib.hid (fun V (h : BkM V q8 y) => show Calls Try.prog 11 #[bkV q8 y, .string o, .int .i64 t] V (BalPost V 0 4) from by
        have := bal_no q8 y o t V h (by rw [ya]; decide)
        rwa [ya] at this)
      clear oo LV ba ya
      go_wp2_with fail
      refine BB.out.mono ?_
      rintro e w10 ⟨rfl, hK10⟩
      clear b0 b1 b2 b3
      obtain ⟨v0, v1, v2, v3⟩ := YM.out _ hK10
      have K10 := Lib.hid hK10
      clear hK10
      go_wp2_with fail
      refine (BY.out w10 (PU.out.my.later K10.out)).mono ?_
      rintro e w11 ⟨rfl, hK11⟩
      have K11 := Lib.hid (K10.out.trans hK11)
      clear v0 v1 v2 v3 hK11
      go_wp2
      go_ret
      exact ⟨rfl, HK.out.trans (PU.out.kp.trans K11.out)⟩
  · have CN := Lib.hid (close_no q b k d c w7 (HM.out.later HK7.out) hk hc ok)
    have hne : (clE b k d c != 0) = true := by simpa using ok
    clear ok
    generalize clE b k d c = ek at *
    go_wp2_with fail
    refine CN.out.mono ?_
    rintro e w8 ⟨rfl, hK8⟩
    clear v0 v1 v2 v3 f0 f1 f2 b0 b1 b2 b3
    obtain ⟨⟨v0, v1, v2, v3⟩, f0, f1, f2⟩ := HV7.out.later hK8
    have FK := Lib.hid ((HK7.out.trans hK8).set3 (p := py) hp5 (.slice none 0 0) (.slice none 0 0) (.int .i64 0))
    clear hK8 CN
    go_wp2
    go_ret
    exact ⟨rfl, HK.out.trans FK.out⟩
end Go.Proofs.Ytdabangdjgkphaa
