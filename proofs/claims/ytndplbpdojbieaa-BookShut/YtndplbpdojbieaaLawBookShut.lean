/-
  The walk of talkeep.BookShut: it returns true at every input. No condition but those that each theorem names.
-/
import Derived.Test.YtndplbpdojbieaaLawBookZero
namespace Go.Proofs.Ytndplbpdojbieaa
open Go.RowKit
set_option linter.unusedVariables false

theorem sh_good {b : Bk} (g : Good b) {d : Int} (h : dyB d = true) : Good ⟨b.acs, b.ens, d⟩ := ⟨g.acs, .inr h, g.many, g.each, g.keys, g.srt⟩
theorem sh_of {b : Bk} {d : Int} (g : Good b) (h : dyB d = true) (k : ¬ d < b.shut) : shE b d = 0 := by unfold shE; rw [if_pos (bkE_iff.2 g), if_pos h, if_neg k]
theorem sh_plain5 : shE plainB 5 = 0 := by decide +kernel
theorem EtYes.z {w w' : World} {x y : Et} {e : Ending} (h : x = y) (k : EtYes w x e w') : EtYes w y e w' := h ▸ k
/-- One entry posted, if it may be. -/
def mdS (b : Bk) (x : Et) : Bk := if poE b x = 0 then poV b x else b
/-- Entries posted, as far as they may be. -/
def mdL (b : Bk) (l : List Et) : Bk := l.foldl mdS b
theorem mdL_snoc (b : Bk) (l : List Et) (x : Et) : mdL b (l ++ [x]) = mdS (mdL b l) x := by unfold mdL; rw [List.foldl_append]; rfl
/-- What stays when entries are posted to a book that is shut up to a day. -/
structure Stays (b y : Bk) : Prop where
  good : Good y
  acs : y.acs = b.acs
  shut : y.shut = b.shut
  len : b.ens.length ≤ y.ens.length
  bal : ∀ c k, k ≤ b.shut → balS c k y.ens = balS c k b.ens
theorem Stays.step {b y : Bk} {x : Et} (h : Stays b y) : Stays b (mdS y x) := by
  unfold mdS
  by_cases ok : poE y x = 0
  · rw [if_pos ok]
    obtain ⟨g, _, ea, es, _⟩ := Good.post ok
    obtain ⟨_, _, hor⟩ := poE_ok ok
    refine ⟨g, ea.trans h.acs, es.trans h.shut, ?_, fun c k hk => ?_⟩
    · rcases hor with ⟨_, e⟩ | ⟨_, _, _, _, e⟩
      · rw [e]; exact h.len
      · rw [e]; simp only [insE_len]; have := h.len; omega
    · rcases hor with ⟨_, e⟩ | ⟨_, _, hs, _, e⟩
      · rw [e]; exact h.bal c k hk
      · rw [e]; simp only [balS_ins]
        rw [if_neg (by rw [h.shut] at hs; omega), h.bal c k hk]; omega
  · rw [if_neg ok]; exact h
theorem Stays.all {b : Bk} : ∀ (l : List Et) {y : Bk}, Stays b y → Stays b (mdL y l)
  | [], _, h => h
  | x :: r, _, h => Stays.all r (h.step (x := x))
theorem Stays.refl {b : Bk} (g : Good b) : Stays b b := ⟨g, rfl, rfl, Nat.le_refl _, fun _ _ _ => rfl⟩
theorem put3 {w : World} {p : Nat} {q q' : BkA} {b b' : Bk} (h : VBk w p q b) : VBk (((w.setCell ⟨p, 0, none⟩ (.slice q'.aa b'.acs.length q'.ca)).setCell ⟨p, 1, none⟩ (.slice q'.ae b'.ens.length q'.ce)).setCell ⟨p, 2, none⟩ (.int .i64 b'.shut)) p q' b' := by
  obtain ⟨⟨a, c, d, e⟩, f0, f1, f2⟩ := h
  refine ⟨⟨by simpa using a, ?_, ?_, ?_⟩, ?_, ?_, ?_⟩ <;> go_simp
theorem VBk.newAt {w : World} {p : Nat} (hp : w.heap.size = p) (q : BkA) (b : Bk) : VBk (w.alloc (bkO q b)) p q b := by
  subst hp; exact ⟨BBx.new w q b, by simp, by simp, by simp⟩
theorem VBk.other {w : World} {p r i : Nat} {q : BkA} {b : Bk} {v : Value} (h : VBk w p q b) (hr : r ≠ p) : VBk (w.setCell ⟨r, i, Option.none⟩ v) p q b :=
  ⟨h.box.other hr, by simpa using h.f0, by simpa using h.f1, by simpa using h.f2⟩
/-- Where the book of the loop lies. -/
def MdM (w0 : World) (wr : World) (q q' : BkA) (b b' : Bk) : Prop := (q' = q ∧ b' = b) ∨ BkF wr (w0.heap.size + 1 + 1) q' b'
theorem MdM.m {w0 wr : World} {q q' : BkA} {b b' : Bk} (h : MdM w0 wr q q' b b') (hM : BkM w0 q b) (k : Kept w0 wr) : BkM wr q' b' := by
  rcases h with ⟨rfl, rfl⟩ | h
  · exact hM.later k
  · exact h.m
theorem MdM.later {w0 wr w' : World} {q q' : BkA} {b b' : Bk} (h : MdM w0 wr q q' b b') (k : Kept wr w') : MdM w0 w' q q' b b' := by
  rcases h with h | h
  · exact .inl h
  · exact .inr (h.later k)
set_option maxRecDepth 100000 in
set_option maxHeartbeats 8000000 in
theorem made_any (q : BkA) (b : Bk) (a : Option Addr) (l : List Et) (cap : Nat) (w : World) (hM : BkM w q b) (hA : EArg w a l) (hs : EShort l) (hc : l.length ≤ cap) (hcm : cap ≤ maxLen) :
    Calls Try.prog 22 #[bkV q b, .slice a l.length cap] w (PlPost w (mdL b (l.take 40))) := by
  have hK2 := ((Kept.refl w).alloc (bkO q b)).alloc noBk
  have V2 := Lib.hid ((VBk.newAt (w := w) rfl q b).later ((Kept.refl (w.alloc (bkO q b))).alloc noBk))
  have V4 := Lib.hid (VBk.noneAt w q b)
  have HM := Lib.hid hM
  have HA := Lib.hid hA
  have HS := Lib.hid hs
  have hcm2 : cap ≤ 9223372036854775807 := by unfold maxLen at hcm; omega
  obtain ⟨t, ht⟩ : ∃ t, min l.length 40 = t := ⟨_, rfl⟩
  have htl : t ≤ l.length := by omega
  have ht40 : t ≤ 40 := by omega
  have hmin : min (l.length : Int) 40 = (t : Int) := by omega
  have TK := Lib.hid (show l.take 40 = l.take t by
    by_cases h : 40 ≤ l.length
    · rw [show t = 40 by omega]
    · rw [List.take_of_length_le (by omega), List.take_of_length_le (by omega)])
  have g1 : (0 : Int) ≤ (t : Int) := by omega
  have g2 : (t : Int) ≤ (cap : Int) := by omega
  generalize hW : (w.alloc (bkO q b)).alloc noBk = W at *
  have HW := Lib.hid hW
  have HK := Lib.hid hK2
  clear hM hA hs hW hK2 ht
  go_enter Try.func22, Try.ntmps22
  go_wp2_with (with_reducible rw [HW.out])
  have MNX := Lib.hid (fun j (h : j < l.length) => show mdL b (l.take (j + 1)) = mdS (mdL b (l.take j)) l[j] by rw [ens_take h, mdL_snoc])
  go_loopw [15] (fun i wr => ∃ (j : Nat) (q' : BkA) (b' : Bk), j ≤ t ∧ i = .int .i64 j ∧ VBk wr w.heap.size q' b' ∧ VBk wr (w.heap.size + 1) noA noB ∧ MdM w wr q q' b b' ∧ Hid (b' = mdL b (l.take j)) ∧ Kept w wr) (fun i _ => t - (intOf i).toNat)
  case atStart => exact ⟨0, q, b, Nat.zero_le _, rfl, V2.out, V4.out, .inl ⟨rfl, rfl⟩, Lib.hid rfl, HK.out⟩
  case round =>
    obtain ⟨j, q', b', hj, rfl, hV2, hV4, hMd, HBM, hK⟩ := hrel
    by_cases hlt : j < t
    · have hjl : j < l.length := by omega
      obtain ⟨p, off, rfl, hR⟩ := (HA.out.later hK).at hjl
      obtain ⟨ax, capx, c0, c1, c2, h1, h2, hL⟩ := hR.at j hjl
      have plt := hR.1
      have hSX := HS.out _ (List.getElem_mem hjl)
      have NX := Lib.hid (MNX.out j hjl)
      rw [← HBM.out] at NX
      clear hR
      generalize l[j] = x at *
      have kE := (Kept.refl wr).alloc (.cells #[.string x.key, .int .i64 x.day, .slice ax x.lns.length capx] 28)
      have HEx := Lib.hid (show EtM (wr.alloc (.cells #[.string x.key, .int .i64 x.day, .slice ax x.lns.length capx] 28)) x ax capx from ⟨hSX.1, hSX.2.1, hL.later kE, hSX.2.2, h1, h2⟩)
      have HMb := Lib.hid ((hMd.m HM.out hK).later kE)
      have swr : w.heap.size + 1 < wr.heap.size := hV4.box.lt
      obtain ⟨⟨v0, v1, v2, v3⟩, f0, f1, f2⟩ := id hV2
      clear hL h1 h2
      by_cases ok : poE b' x = 0
      · have PY := Lib.hid (post_yes q' b' x ax capx _ HMb.out HEx.out ok)
        obtain ⟨y, hy⟩ : ∃ y, poV b' x = y := ⟨_, rfl⟩
        rw [hy] at PY
        have NXY := Lib.hid (show mdL b (l.take (j + 1)) = y by rw [NX.out]; unfold mdS; rw [if_pos ok, hy])
        clear ok hy NX
        go_wp2_with fail
        refine PY.out.mono ?_
        rintro e w2 ⟨q2, rfl, hF, hK2⟩
        have kk := kE.trans hK2
        have s2 : wr.heap.size < w2.heap.size := by have := hK2.le; simp at this; omega
        have hV22 := hV2.later kk
        clear v0 v1 v2 v3 f0 f1 f2
        obtain ⟨⟨v0, v1, v2, v3⟩, f0, f1, f2⟩ := id hV22
        have hn1 : w.heap.size ≠ w2.heap.size := by omega
        have hn2 : w2.heap.size ≠ w.heap.size := by omega
        have kA := (Kept.refl (((w2.setCell ⟨w.heap.size, 0, none⟩ (.slice q2.aa y.acs.length q2.ca)).setCell ⟨w.heap.size, 1, none⟩ (.slice q2.ae y.ens.length q2.ce)).setCell ⟨w.heap.size, 2, none⟩ (.int .i64 y.shut))).alloc (bkO q2 y)
        have R1 := Lib.hid ((put3 hV22 (q' := q2) (b' := y)).later kA)
        have hr1 : w.heap.size ≠ w.heap.size + 1 := by omega
        have R2 := Lib.hid (((((hV4.later kk).other (r := w.heap.size) (i := 0) (v := .slice q2.aa y.acs.length q2.ca) hr1).other (r := w.heap.size) (i := 1) (v := .slice q2.ae y.ens.length q2.ce) hr1).other (r := w.heap.size) (i := 2) (v := .int .i64 y.shut) hr1).later kA)
        have R3 := Lib.hid (((hF.mono (A := w.heap.size + 1 + 1) (by simp; omega)).set3 (r := w.heap.size) (by omega) (.slice q2.aa y.acs.length q2.ca) (.slice q2.ae y.ens.length q2.ce) (.int .i64 y.shut)).later kA)
        have R4 := Lib.hid (((hK.trans kk).set3 (p := w.heap.size) (Nat.le_refl _) (.slice q2.aa y.acs.length q2.ca) (.slice q2.ae y.ens.length q2.ce) (.int .i64 y.shut)).alloc (bkO q2 y))
        clear hF hK2 kk hV22 hV2 hV4 kA c0 c1 c2 plt kE hMd hK hr1
        go_wp2
        go_roundw
        case rel => exact ⟨j + 1, q2, y, by omega, by go_num, R1.out, R2.out, .inr R3.out, Lib.hid NXY.out.symm, R4.out⟩
        case measure => simp [intOf]; omega
      · have PN := Lib.hid (post_no q' b' x ax capx _ HMb.out HEx.out ok)
        have NXY := Lib.hid (show mdL b (l.take (j + 1)) = b' by rw [NX.out]; unfold mdS; rw [if_neg ok])
        have hne : (poE b' x == 0) = false := by simpa using ok
        clear ok NX
        generalize poE b' x = ek at *
        go_wp2_with fail
        refine PN.out.mono ?_
        rintro e w2 ⟨rfl, hK2⟩
        have kk := (kE.trans hK2).alloc noBk
        clear v0 v1 v2 v3 f0 f1 f2 c0 c1 c2 plt
        go_wp2
        go_roundw
        case rel => exact ⟨j + 1, q', b', by omega, by go_num, hV2.later kk, hV4.later kk, hMd.later kk, Lib.hid NXY.out.symm, hK.trans kk⟩
        case measure => simp [intOf]; omega
    · obtain rfl : j = t := by omega
      clear hlt
      obtain ⟨⟨v0, v1, v2, v3⟩, f0, f1, f2⟩ := id hV2
      obtain ⟨⟨r0, r1, r2, r3⟩, e0, e1, e2⟩ := id hV4
      have FK := Lib.hid (hK.set3 (p := w.heap.size + 1) (by omega) (.slice q'.aa b'.acs.length q'.ca) (.slice q'.ae b'.ens.length q'.ce) (.int .i64 b'.shut))
      have FM := Lib.hid (show BkM (((wr.setCell ⟨w.heap.size + 1, 0, none⟩ (.slice q'.aa b'.acs.length q'.ca)).setCell ⟨w.heap.size + 1, 1, none⟩ (.slice q'.ae b'.ens.length q'.ce)).setCell ⟨w.heap.size + 1, 2, none⟩ (.int .i64 b'.shut)) q' b' by
        rcases hMd with ⟨rfl, rfl⟩ | h
        · exact HM.out.later FK.out
        · exact (h.set3 (r := w.heap.size + 1) (by omega) _ _ _).m)
      have EB := Lib.hid (show mdL b (l.take 40) = b' by rw [TK.out, HBM.out])
      clear hV2 hV4 hMd hK HBM
      go_wp2
      exact bodyPost_ret (v := bkV q' b') (by simp [results, Try.results22, go_sem, r1, r2, r3]) rfl ⟨q', by rw [EB.out], by rw [EB.out]; exact FM.out, FK.out⟩
/-- A balance, or nothing. -/
def baV (b : Bk) (c : ByteArray) (d : Int) : Int := if baE b c d = 0 then balS c d b.ens else 0
theorem bal_any (q : BkA) (b : Bk) (c : ByteArray) (d : Int) (w : World) (hM : BkM w q b) :
    Calls Try.prog 19 #[bkV q b, .string c, .int .i64 d] w (BalPost w (baV b c d) (baE b c d)) := by
  unfold baV
  by_cases h : baE b c d = 0
  · rw [if_pos h, h]; exact bal_yes q b c d w hM h
  · rw [if_neg h]; exact bal_no q b c d w hM h
theorem Stays.ba {b y : Bk} (h : Stays b y) (g : Good b) (c : ByteArray) (d : Int) : baE y c d = baE b c d := by
  unfold baE; rw [if_pos (bkE_iff.2 g), if_pos (bkE_iff.2 h.good), h.acs]
theorem Stays.bv {b y : Bk} (h : Stays b y) (g : Good b) (c : ByteArray) {d : Int} (hd : d ≤ b.shut) : baV y c d = baV b c d := by
  unfold baV; rw [h.ba g, h.bal c d hd]
set_option maxRecDepth 100000 in
set_option maxHeartbeats 8000000 in
theorem bookShut_walk (q : BkA) (b : Bk) (t0 : Int) (a : Option Addr) (l : List Et) (cap : Nat) (c : ByteArray) (k0 : Int) (w : World) (hM : BkM w q b) (hA : EArg w a l) (hs : EShort l) (hc : l.length ≤ cap) (hcm : cap ≤ maxLen) :
    Calls Try.prog 7 #[bkV q b, .int .i64 t0, .slice a l.length cap, .string c, .int .i64 k0] w fun e w' => e = .returned (.bool true) ∧ Below w.heap.size w w' := by
  have hK2 := (Kept.refl w).alloc (bkO q b)
  have HB := Lib.hid (BBx.new w q b)
  have HM := Lib.hid (hM.later hK2)
  have HA := Lib.hid (hA.later hK2)
  have HS := Lib.hid hs
  have hl63 : l.length ≤ 9223372036854775807 := by unfold maxLen at hcm; omega
  have HCC := Lib.hid hc
  have HCM := Lib.hid hcm
  obtain ⟨d, hd⟩ : ∃ d, dyV t0 = d := ⟨_, rfl⟩
  have DD := Lib.hid (hd ▸ dyV_ok t0)
  have ED := Lib.hid hd
  obtain ⟨d0, d1⟩ := (dyB_iff d).1 DD.out
  obtain ⟨kk, hkk⟩ : ∃ kk, wnV k0 (d + 1) = kk := ⟨_, rfl⟩
  have kb := wnV_bd k0 (n := d + 1) (by omega)
  rw [hkk] at kb
  have EKK := Lib.hid hkk
  have DK := Lib.hid (show dyB kk = true from (dyB_iff kk).2 (by omega))
  generalize hW : w.alloc (bkO q b) = W at *
  have HW := Lib.hid hW
  have HK := Lib.hid hK2
  clear hM hA hs hW hK2 hd hkk hc hcm
  go_enter Try.func7, Try.ntmps7
  go_wp2_with fail
  rw [HW.out]
  refine (begun_any W).mono ?_
  rintro e w1 ⟨rfl, hK1⟩
  go_wp2_with fail
  refine (plain_any w1).mono ?_
  rintro e w2 ⟨q2, rfl, hM2, hK3⟩
  have P5 := Lib.hid (shut_yes q2 plainB 5 w2 hM2 sh_plain5)
  go_wp2_with fail
  refine P5.out.mono ?_
  rintro e w3 ⟨q3, rfl, hF3, hK4⟩
  have k5 := Lib.hid ((hK1.trans (hK3.trans hK4)).alloc (bkO q3 ⟨plainB.acs, plainB.ens, 5⟩))
  obtain ⟨b0, b1, b2, b3⟩ := HB.out.later (hK1.trans (hK3.trans hK4))
  have s3 : w.heap.size < w3.heap.size := b0
  clear hM2 hF3 hK1 hK3 hK4
  go_wp2_with fail
  generalize w3.alloc (.cells #[.slice q3.aa plainB.acs.length q3.ca, .slice q3.ae plainB.ens.length q3.ce, .int .i64 5] 25) = w4 at *
  clear b0 b1 b2 b3
  refine (day_any t0 w4).mono ?_
  rintro e w5 ⟨rfl, rfl⟩
  rw [ED.out]
  obtain ⟨b0, b1, b2, b3⟩ := HB.out.later k5.out
  go_wp2_with fail
  clear b0 b1 b2 b3
  by_cases ok : shE b d = 0
  · obtain ⟨gd, _, hns⟩ := shE_ok ok
    have S1 := Lib.hid (shut_yes q b d w4 (HM.out.later k5.out) ok)
    obtain ⟨bx, hbx⟩ : ∃ bx : Bk, (⟨b.acs, b.ens, d⟩ : Bk) = bx := ⟨_, rfl⟩
    rw [hbx] at S1
    have gx : Good bx := hbx ▸ sh_good gd DD.out
    have SH := Lib.hid (show bx.shut = d by rw [← hbx])
    have Z1 := Lib.hid (sh_of gx DD.out (by rw [SH.out]; omega))
    have ZE := Lib.hid (show (⟨bx.acs, bx.ens, d⟩ : Bk) = bx by rw [← hbx])
    have G := Lib.hid gx
    have ST := Lib.hid ((Stays.refl gx).all (l.take 40))
    clear ok gd hns hbx gx
    refine S1.out.mono ?_
    rintro e w5 ⟨q5, rfl, hF5, hK5⟩
    have kX := (Kept.refl w5).alloc (bkO q5 bx)
    have HX := Lib.hid (BBx.new w5 q5 bx)
    have HMX := Lib.hid (hF5.m.later kX)
    have K6 := Lib.hid (k5.out.trans (hK5.trans kX))
    generalize hw6 : w5.alloc (bkO q5 bx) = w6 at *
    have HW6 := Lib.hid hw6
    clear hF5 hK5 kX hw6
    have wr1 : IntKind.i64.wrap (d + 1) = d + 1 := IntWalk.i64_in _ (by omega)
    go_wp2_with fail
    rw [HW6.out]
    refine (wn_any k0 (d + 1) w6 (by omega) (by omega)).mono ?_
    rintro e w7 ⟨rfl, rfl⟩
    rw [EKK.out]
    obtain ⟨x0, x1, x2, x3⟩ := HX.out
    have BA := Lib.hid (bal_any q5 bx c kk w6 HMX.out)
    go_wp2_with fail
    refine BA.out.mono ?_
    rintro e w7 ⟨rfl, hK7⟩
    clear x0 x1 x2 x3
    obtain ⟨x0, x1, x2, x3⟩ := HX.out.later hK7
    have MD := Lib.hid (made_any q5 bx a l cap w7 (HMX.out.later hK7) (HA.out.later (K6.out.trans hK7)) HS.out HCC.out HCM.out)
    go_wp2_with fail
    refine MD.out.mono ?_
    rintro e w8 ⟨q8, rfl, hM8, hK8⟩
    generalize mdL bx (l.take 40) = y at *
    have kY := (Kept.refl w8).alloc (bkO q8 y)
    have HY := Lib.hid (BBx.new w8 q8 y)
    have HMY := Lib.hid (hM8.later kY)
    have K9 := Lib.hid (hK7.trans (hK8.trans kY))
    have BB := Lib.hid (bal_any q8 y c kk _ HMY.out)
    rw [ST.out.ba G.out, ST.out.bv G.out c (by rw [SH.out]; omega)] at BB
    have hyl := ST.out.len
    have hyl2 : ¬ (y.ens.length : Int) < (bx.ens.length : Int) := by omega
    have hyl3 : decide ((y.ens.length : Int) < (bx.ens.length : Int)) = false := decide_eq_false hyl2
    have hyl4 : decide (y.ens.length < bx.ens.length) = false := decide_eq_false (by omega)
    generalize hw9 : w8.alloc (bkO q8 y) = w9 at *
    have HW9 := Lib.hid hw9
    clear x0 x1 x2 x3 hM8 hK7 hK8 kY hw9
    generalize baV bx c kk = vv at *
    generalize baE bx c kk = ek at *
    go_wp2_with fail
    rw [HW9.out]
    refine BB.out.mono ?_
    rintro e w10 ⟨rfl, hK10⟩
    obtain ⟨x0, x1, x2, x3⟩ := HX.out.later (K9.out.trans hK10)
    obtain ⟨y0, y1, y2, y3⟩ := HY.out.later hK10
    have K10 := Lib.hid (K9.out.trans hK10)
    clear hK10
    go_wp2
    clear x0 x1 x2 x3 y0 y1 y2 y3 hyl hyl2
    clear hyl3 hyl4
    go_loopw [95] (fun i wr => ∃ j : Nat, j ≤ l.length ∧ i = .int .i64 j ∧ Kept w10 wr) (fun i _ => l.length - (intOf i).toNat)
    case atStart => exact ⟨0, Nat.zero_le _, rfl, Kept.refl _⟩
    case round =>
      obtain ⟨j, hj, rfl, hK⟩ := hrel
      have hK6 := K10.out.trans hK
      by_cases hlt : j < l.length
      · obtain ⟨p, off, rfl, hR⟩ := (HA.out.later (K6.out.trans hK6)).at hlt
        obtain ⟨ax, capx, c0, c1, c2, h1, h2, hL⟩ := hR.at j hlt
        have plt := hR.1
        have hSX := HS.out _ (List.getElem_mem hlt)
        clear hR
        generalize l[j] = x at *
        have kE := (Kept.refl wr).alloc (.cells #[.string x.key, .int .i64 x.day, .slice ax x.lns.length capx] 28)
        have HEx := Lib.hid (show EtM (wr.alloc (.cells #[.string x.key, .int .i64 x.day, .slice ax x.lns.length capx] 28)) x ax capx from ⟨hSX.1, hSX.2.1, hL.later kE, hSX.2.2, h1, h2⟩)
        have HEB := Lib.hid (EBx.new wr x.key x.day (.slice ax x.lns.length capx) 28)
        have HMb := Lib.hid (HMX.out.later (hK6.trans kE))
        obtain ⟨x0, x1, x2, x3⟩ := HX.out.later hK6
        have s9 : w5.heap.size < wr.heap.size := x0
        clear hL h1 h2
        by_cases ok : poE bx x = 0
        · have PY := Lib.hid (post_yes q5 bx x ax capx _ HMb.out HEx.out ok)
          obtain ⟨_, _, hor⟩ := poE_ok ok
          have MEM := Lib.hid (fun (h : x.day ≤ d) => show x ∈ bx.ens by
            rcases hor with ⟨hm, _⟩ | ⟨_, _, hs, _, _⟩
            · exact hm
            · rw [SH.out] at hs; omega)
          clear ok hor
          obtain ⟨y2, hy2⟩ : ∃ y2, poV bx x = y2 := ⟨_, rfl⟩
          rw [hy2] at PY
          clear hy2
          go_wp2_with fail
          refine PY.out.mono ?_
          rintro e w12 ⟨q12, rfl, hF12, hK12⟩
          have kk12 := kE.trans hK12
          have kZ := (Kept.refl w12).alloc (bkO q12 y2)
          obtain ⟨e0, e1, e2, e3⟩ := HEB.out.later hK12
          have s12 : wr.heap.size < w12.heap.size := e0
          clear c0 c1 c2 plt x0 x1 x2 x3 hF12
          by_cases hday : x.day ≤ d
          · have mem := MEM.out hday
            have hky : kyI x.key bx.ens < bx.ens.length := kyI_lt.2 ⟨x, mem, rfl⟩
            have hyx : bx.ens[kyI x.key bx.ens] = x := G.out.key_inj (List.getElem_mem _) mem (kyI_at hky)
            have GYR := Lib.hid ((get_yes q5 bx x.key _ (HMX.out.later (hK6.trans (kk12.trans kZ))) G.out _ rfl hky).mono fun e w' h => EtYes.z hyx h)
            obtain ⟨x0, x1, x2, x3⟩ := HX.out.later (hK6.trans kk12)
            clear mem hky hyx
            go_wp2_with fail
            refine GYR.out.mono ?_
            rintro e w14 ⟨p14, hp14, rfl, hO14, hK14⟩
            have kF := (hK.trans (kk12.trans (kZ.trans hK14))).alloc (.cells #[.string x.key, .int .i64 x.day, .slice (some ⟨p14, 0, none⟩) x.lns.length x.lns.length] 28)
            go_wp2
            go_roundw
            case rel => exact ⟨j + 1, by omega, by go_num, kF⟩
            case measure => simp [intOf]; omega
          · go_wp2
            go_roundw
            case rel => exact ⟨j + 1, by omega, by go_num, hK.trans (kk12.trans kZ)⟩
            case measure => simp [intOf]; omega
        · have PN := Lib.hid (post_no q5 bx x ax capx _ HMb.out HEx.out ok)
          have hne : (poE bx x == 0) = false := by simpa using ok
          clear ok
          generalize poE bx x = ek2 at *
          go_wp2_with fail
          refine PN.out.mono ?_
          rintro e w12 ⟨rfl, hK12⟩
          go_wp2
          go_roundw
          case rel => exact ⟨j + 1, by omega, by go_num, hK.trans ((kE.trans hK12).alloc noBk)⟩
          case measure => simp [intOf]; omega
      · obtain rfl : j = l.length := by omega
        clear hlt
        obtain ⟨x0, x1, x2, x3⟩ := HX.out.later hK6
        have S9 := Lib.hid (shut_yes q5 bx d wr (HMX.out.later hK6) Z1.out)
        rw [ZE.out] at S9
        go_wp2_with fail
        refine S9.out.mono ?_
        rintro e w12 ⟨q12, rfl, hF12, hK12⟩
        have kZ := (Kept.refl w12).alloc (bkO q12 bx)
        have SB := Lib.hid (sbook_yes q12 q5 bx (w12.alloc (bkO q12 bx)) (hF12.m.later kZ) (HMX.out.later (hK6.trans (hK12.trans kZ))) G.out.a24 G.out.many G.out.lines)
        clear x0 x1 x2 x3
        obtain ⟨x0, x1, x2, x3⟩ := HX.out.later (hK6.trans hK12)
        have s9 : w5.heap.size < w12.heap.size := x0
        clear hF12
        go_wp2_with fail
        refine SB.out.mono ?_
        rintro e w14 ⟨rfl, hK14⟩
        go_wp2
        go_ret
        exact ⟨rfl, HK.out.trans (K6.out.trans (hK6.trans (hK12.trans (kZ.trans hK14))))⟩
  · refine (shut_no q b d w4 (HM.out.later k5.out) ok).mono ?_
    rintro e w5 ⟨rfl, hK5⟩
    have hne : (shE b d != 0) = true := by simpa using ok
    clear ok
    generalize shE b d = ek at *
    go_wp2
    go_ret
    exact ⟨rfl, (HK.out.trans (k5.out.trans hK5)).alloc _⟩
end Go.Proofs.Ytndplbpdojbieaa
