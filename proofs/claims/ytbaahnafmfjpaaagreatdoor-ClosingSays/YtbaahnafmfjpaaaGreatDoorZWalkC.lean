/-
  The reference's Close, where the account is one of equity. No condition but those that each theorem names.
-/
import Derived.Test.YtbaahnafmfjpaaaGreatDoorMgJWalkB
namespace Go.Proofs.YtbaahnafmfjpaaaGreatDoor
open Go.RowKit Go.Maps Go.WideMaps
set_option linter.unusedVariables false

theorem xz_new {w : World} {p : Nat} (hp : w.heap.size = p) (q : BkA) (b : Bk) : VBk (w.alloc (bkO q b)) p q b := by
  subst hp; exact ⟨BBx.new w q b, by simp, by simp, by simp⟩
theorem BkM.shutAt {w : World} {q : BkA} {b : Bk} (h : BkM w q b) (d : Int) : BkM w q ⟨b.acs, b.ens, d⟩ := ⟨h.acs, h.sha, h.la, h.lca, h.ens, h.she, h.le, h.lce⟩
theorem Far.new {B : Nat} {w V : World} (h : Far B w V) {r i : Nat} (hr : w.heap.size ≤ r) (u : Value) : Far B w (V.setCell ⟨r, i, none⟩ u) := by
  refine ⟨by simpa using h.size, fun b o hb hw => ?_, fun b o hb hw => ?_⟩
  · have := h.cell b o hb hw
    have hn : b ≠ r := by omega
    go_simp
  · have := h.free b o hb hw
    simpa using this
theorem Far.alloc {B : Nat} {w V : World} (h : Far B w V) (o : Obj) : Far B w (V.alloc o) := by
  have k := (Kept.refl V).alloc o
  exact ⟨Nat.le_trans h.size k.le, fun b i hb hw => (k.rd.1 b i (Nat.lt_of_lt_of_le hw h.size)).trans (h.cell b i hb hw), fun b i hb hw => (k.rd.2 b i (Nat.lt_of_lt_of_le hw h.size)).trans (h.free b i hb hw)⟩
set_option maxRecDepth 100000 in
set_option maxHeartbeats 8000000 in
theorem rclose_none (q : BkA) (b : Bk) (k : ByteArray) (d : Int) (c : ByteArray) (w : World) (hM : BkM w q b) (hk : k.size ≤ maxLen) (hc : c.size ≤ maxLen) (gd : Good b) (dy : dyB d = true) (hh : hasB c b.acs = true) (kv : kiV b.acs c = 2) (nl : clL (baF b d) b.acs = []) :
    Calls Tryz.prog 8 #[bkV q b, .string k, .int .i64 d, .string c] w (BkNo w 4) := by
  have hB := (BBx.new w q b).later ((Kept.refl (w.alloc (bkO q b))).alloc noBk)
  have hR := VBk.noneAt w q b
  have hK2 := ((Kept.refl w).alloc (bkO q b)).alloc noBk
  have DY := Lib.hid (show inB d 0 292193 = true from dy)
  have HS := Lib.hid (fun V (h : BkM V q b) => rhas_any c b.acs q.aa q.ca V h.an h.acs)
  rw [hh] at HS
  have HH := Lib.hid hh
  have RS := Lib.hid (fun V (h : BkM V q b) => rsums_any q b d V h gd)
  have n24 := gd.a24
  have SB := Lib.hid (fun j => clS_bd (f := baF b d) (fun c => bal_bd gd c d) (b.acs.take j))
  have BF := Lib.hid (fun c => bal_bd gd c d)
  have KV := Lib.hid (fun a ha => kiV_at (inc_nodup (acE_inc gd.acs).1) a ha)
  have GD := Lib.hid gd
  have K2V := Lib.hid kv
  have NL := Lib.hid nl
  clear kv nl
  generalize hW : (w.alloc (bkO q b)).alloc noBk = W at *
  have HW := Lib.hid hW
  have HK := Lib.hid hK2
  have HR := Lib.hid hR
  have HB := Lib.hid hB
  have HM := Lib.hid (hM.later hK2)
  have HM0 := Lib.hid hM
  clear hW hK2 hR
  clear hM dy hh gd
  obtain ⟨b0, b1, b2, b3⟩ := hB
  go_enter Tryz.func8, Tryz.ntmps8
  go_wp2_with fail
  rw [HW.out]
  refine (rday_any _ _).mono ?_
  rintro e w1 ⟨rfl, rfl⟩
  rw [DY.out]
  go_wp2_with fail
  refine (HS.out W HM.out).mono ?_
  rintro e w2 ⟨rfl, hK1⟩
  have K1 := Lib.hid hK1
  clear b0 b1 b2 b3 hK1
  obtain ⟨b0, b1, b2, b3⟩ := HB.out.later K1.out
  go_wp2_with fail
  refine (RS.out w2 (HM.out.later K1.out)).mono ?_
  rintro e w3 ⟨bm, n, hm, rfl, hN, hS, hK3⟩
  have K3 := Lib.hid (K1.out.trans hK3)
  have HN := Lib.hid hN
  have HSm := Lib.hid hS
  clear b0 b1 b2 b3 hK3 hN hS
  obtain ⟨b0, b1, b2, b3⟩ := HB.out.later K3.out
  have hO0 := WBx.new w3 k d (.slice none 0 0) 38 w3.heap.size rfl
  have kO := Lib.hid ((Kept.refl w3).alloc (.cells #[.string k, .int .i64 d, .slice none 0 0] 38))
  have w3s : w3.heap.size < (w3.alloc (.cells #[.string k, .int .i64 d, .slice none 0 0] 38)).heap.size := hO0.box.lt
  have rbo : w.heap.size + 1 < w3.heap.size := (HR.out.later K3.out).box.lt
  go_wp2
  generalize w3.alloc (.cells #[.string k, .int .i64 d, .slice none 0 0] 38) = W4 at *
  clear b0 b1 b2 b3
  generalize hbo : w3.heap.size = bo at *
  have hbo2 : w3.heap.size ≤ bo := by omega
  clear hbo
  have HL0 := Lib.hid (PGr.nil 48 (bo + 1) W4)
  go_loopw [12, 36] (fun s i wr => ∃ (j : Nat) (v : Value), j ≤ b.acs.length ∧ i = .int .i64 j ∧ s = .int .i64 (-(sumL (clL (baF b d) (b.acs.take j)))) ∧ WBx wr bo k d v ∧ PGr 48 (bo + 1) wr v (clL (baF b d) (b.acs.take j)) ∧ Kept w3 wr) (fun _ i _ => b.acs.length - (intOf i).toNat)
  case atStart => exact ⟨0, _, Nat.zero_le _, rfl, rfl, hO0, HL0.out, kO.out⟩
  case round =>
    clear hO0
    obtain ⟨j, v, hj, rfl, rfl, hO, hG, hK⟩ := hrel
    obtain ⟨av, cv, rfl, _, _⟩ := hG.form
    have KW := Lib.hid (K3.out.trans hK)
    by_cases hlt : j < b.acs.length
    · obtain ⟨p, off, hp, hR2⟩ := (HM.out.later KW.out).acs.at hlt
      have c0 := hR2.c0 j hlt
      have c1 := hR2.c1 j hlt
      have plt := hR2.lt
      have SN := Lib.hid (clL_snoc (f := baF b d) hlt)
      have KX := Lib.hid (KV.out _ (List.getElem_mem hlt))
      have hys := HM.out.sha _ (List.getElem_mem hlt)
      have TA := Lib.hid (List.take_succ_eq_append_getElem hlt)
      obtain ⟨s1, s2⟩ := SB.out j
      have ll := clL_len (baF b d) (b.acs.take j)
      rw [List.length_take, Nat.min_eq_left hj] at s1 s2 ll
      obtain ⟨z1, z2⟩ := BF.out (b.acs[j]).1
      have HLT := Lib.hid hlt
      clear hR2
      rw [hp] at *
      clear hp
      generalize b.acs[j] = x at *
      have kA := (Kept.refl wr).alloc (.cells #[.string x.1, .int .i64 x.2] 54)
      have hlk := ((HN.out.later hK).later kA).look hys
      rw [HSm.out x.1] at hlk
      have HO1 := Lib.hid (hO.later kA)
      have HG1 := Lib.hid (hG.later kA)
      have HK1 := Lib.hid (hK.trans kA)
      obtain ⟨⟨y0, y1, y2, y3⟩, g0, g1, g2⟩ := id hO
      clear kA
      by_cases hb : x.1 = c
      · have hb2 : (x.1.toList == c.toList) = true := by rw [hb]; simp
        have e2 : x.2 = 2 := by rw [← KX.out, hb]; exact K2V.out
        have n2 : (x.2 != 2) = false := by rw [e2]; rfl
        have g3 : ¬ 2 < x.2 := by omega
        have SK := Lib.hid (show clL (baF b d) (b.acs.take (j + 1)) = clL (baF b d) (b.acs.take j) by rw [SN.out]; unfold clO; rw [if_neg (fun z => by omega)]; simp)
        clear e2 hb SN hlk
        go_wp2
        go_roundw
        case rel => exact ⟨j + 1, _, HLT.out, by go_num, by rw [SK.out], HO1.out, by rw [SK.out]; exact HG1.out, HK1.out⟩
        case measure => have := HLT.out; simp [intOf]; omega
      · have hb2 : (x.1.toList == c.toList) = false := by rw [beq_eq_false_iff_ne]; exact fun e => hb (ba_ext e)
        clear hb
        by_cases g3 : 2 < x.2
        · by_cases f0 : balS x.1 d b.ens = 0
          · have SK := Lib.hid (show clL (baF b d) (b.acs.take (j + 1)) = clL (baF b d) (b.acs.take j) by rw [SN.out]; unfold clO; rw [if_neg (fun z => z.2 f0)]; simp)
            rw [f0] at hlk
            clear SN z1 z2 f0
            go_wp2
            go_roundw
            case rel => exact ⟨j + 1, _, HLT.out, by go_num, by rw [SK.out], HO1.out, by rw [SK.out]; exact HG1.out, HK1.out⟩
            case measure => have := HLT.out; simp [intOf]; omega
          · have f1 : (balS x.1 d b.ens == 0) = false := by simpa using f0
            have f2 : (balS x.1 d b.ens != 0) = true := by simpa using f0
            have SK := Lib.hid (show clL (baF b d) (b.acs.take (j + 1)) = clL (baF b d) (b.acs.take j) ++ [(x.1, -(balS x.1 d b.ens))] by rw [SN.out]; unfold clO; rw [if_pos ⟨by omega, f0⟩]; rfl)
            have SK2 := Lib.hid (show -(sumL (clL (baF b d) (b.acs.take (j + 1)))) = -(sumL (clL (baF b d) (b.acs.take j))) + balS x.1 d b.ens by rw [SK.out, sumL_append]; simp [sumL]; omega)
            have w1' : IntKind.i64.wrap (-(balS x.1 d b.ens)) = -(balS x.1 d b.ens) := IntWalk.i64_in _ (by omega)
            have w2' : IntKind.i64.wrap (-(sumL (clL (baF b d) (b.acs.take j))) + balS x.1 d b.ens) = -(sumL (clL (baF b d) (b.acs.take j))) + balS x.1 d b.ens := IntWalk.i64_in _ (by omega)
            have HXB := Lib.hid (PBx.new wr x 54)
            have HLK := Lib.hid (fun V (k : Kept w3 V) => (HN.out.later k).look hys)
            have HSX := Lib.hid (HSm.out x.1)
            clear SN f0
            generalize balS x.1 d b.ens = bal at *
            generalize clL (baF b d) (b.acs.take j) = m at *
            generalize sumL m = sm at *
            have kb := (Kept.refl (wr.alloc (.cells #[.string x.1, .int .i64 x.2] 54))).alloc (.cells #[.string x.1, .int .i64 (-bal)] 48)
            have hO1 := HO1.out.later kb
            have hG1 := HG1.out.later kb
            have hK1 := HK1.out.trans kb
            have hX1 := HXB.out.later kb
            have olt := hO.box.lt
            have N0 := Lib.hid (show ((wr.alloc (.cells #[.string x.1, .int .i64 x.2] 54)).alloc (.cells #[.string x.1, .int .i64 (-bal)] 48)).cell? ⟨wr.heap.size + 1, 0, none⟩ = some (.string x.1) by simp)
            have N1 := Lib.hid (show ((wr.alloc (.cells #[.string x.1, .int .i64 x.2] 54)).alloc (.cells #[.string x.1, .int .i64 (-bal)] 48)).cell? ⟨wr.heap.size + 1, 1, none⟩ = some (.int .i64 (-bal)) by simp)
            go_wp2_with (at_builtin; refine app_pr 48 34 pairLine Tryz.underlying34 rfl _ _ rfl (z := (x.1, -bal)) rfl rfl hG1 N0.out N1.out (by omega) (by simp; omega) ?_)
            intro v' w6 hG5 hgr
            have hK5 : Kept w3 w6 := hG1.below (by omega) hK1 hgr
            have hO5 := hO1.grown hgr (fun e => by have := (hG1.own.lt bo e.symm).1; omega)
            have hne : some wr.heap.size ≠ (Value.slice av m.length cv).ownBlock := fun e => by have := (hG.own.lt _ e.symm).2; omega
            have a0 := hgr.cell hX1.c0 hne
            have a1 := hgr.cell hX1.c1 hne
            have alt := Nat.lt_of_lt_of_le hX1.lt hgr.size
            have nbo : wr.heap.size ≠ bo := by omega
            obtain ⟨a5, c5, rfl, _, _⟩ := hG5.form
            rw [show (m ++ [(x.1, -bal)]).length = m.length + 1 by simp] at hG5 ⊢
            have KS := Lib.hid (hK5.setAt (i := 2) hbo2 (.slice a5 (m.length + 1) c5))
            have hlk2 := HLK.out _ KS.out
            rw [HSX.out] at hlk2
            have R1 := Lib.hid (hO5.set2' (u := .slice a5 (m.length + 1) c5))
            have R2 := Lib.hid (hG5.other' (r := bo) (i := 2) (u := .slice a5 (m.length + 1) c5) (Nat.lt_succ_self _))
            obtain ⟨⟨q0, q1, q2, q3⟩, q4, q5, q6⟩ := id hO5
            clear hG hG1 hK hK1 hO hO1 y0 y1 y2 y3 g0 g1 g2 c0 c1 plt hgr N0 N1 hlk hX1 kb hO5 hG5 hK5 hne
            go_wp2
            go_roundw
            case rel => exact ⟨j + 1, _, HLT.out, by go_num, by rw [SK2.out], R1.out, by rw [SK.out]; exact R2.out, KS.out⟩
            case measure => have := HLT.out; simp [intOf]; omega
        · have SK := Lib.hid (show clL (baF b d) (b.acs.take (j + 1)) = clL (baF b d) (b.acs.take j) by rw [SN.out]; unfold clO; rw [if_neg (fun z => by omega)]; simp)
          clear SN hlk
          go_wp2
          go_roundw
          case rel => exact ⟨j + 1, _, HLT.out, by go_num, by rw [SK.out], HO1.out, by rw [SK.out]; exact HG1.out, HK1.out⟩
          case measure => have := HLT.out; simp [intOf]; omega
    · obtain rfl : j = b.acs.length := by omega
      clear hlt
      rw [List.take_length, NL.out] at hG ⊢
      have e0 : sumL ([] : List Pr) = 0 := rfl
      obtain ⟨⟨y0, y1, y2, y3⟩, g0, g1, g2⟩ := id hO
      rw [List.take_length, NL.out] at y3
      obtain ⟨⟨r0, r1, r2, r3⟩, f0, f1, f2⟩ := HR.out.later KW.out
      have FK := Lib.hid ((HK.out.trans (KW.out)).set3 (p := w.heap.size + 1) (by omega) (.slice none 0 0) (.slice none 0 0) (.int .i64 0))
      go_wp2
      exact bodyPost_ret (v := .tuple #[.agg #[.slice none 0 0, .slice none 0 0, .int .i64 0], .int .i64 4]) (by simp [results, Tryz.results8, go_sem, r1, r2, r3]) rfl ⟨rfl, FK.out⟩
set_option maxRecDepth 100000 in
set_option maxHeartbeats 8000000 in
theorem rclose_post (q : BkA) (b : Bk) (k : ByteArray) (d : Int) (c : ByteArray) (w : World) (hM : BkM w q b) (hk : k.size ≤ maxLen) (hc : c.size ≤ maxLen) (gd : Good b) (dy : dyB d = true) (hh : hasB c b.acs = true) (kv : kiV b.acs c = 2) (nl : clL (baF b d) b.acs ≠ []) (Y : Bk) (E : Int) (h1 : poE b (clX b k d c) ≠ 0 → Y = noB ∧ E = poE b (clX b k d c)) (h2 : poE b (clX b k d c) = 0 → d < (poY b (clX b k d c)).shut → Y = noB ∧ E = 9) (h3 : poE b (clX b k d c) = 0 → ¬ d < (poY b (clX b k d c)).shut → Y = ⟨(poY b (clX b k d c)).acs, (poY b (clX b k d c)).ens, d⟩ ∧ E = 0) :
    Calls Tryz.prog 8 #[bkV q b, .string k, .int .i64 d, .string c] w (RpAny w Y E) := by
  have hB := (BBx.new w q b).later ((Kept.refl (w.alloc (bkO q b))).alloc noBk)
  have hR := VBk.noneAt w q b
  have hK2 := ((Kept.refl w).alloc (bkO q b)).alloc noBk
  have DY := Lib.hid (show inB d 0 292193 = true from dy)
  have HS := Lib.hid (fun V (h : BkM V q b) => rhas_any c b.acs q.aa q.ca V h.an h.acs)
  rw [hh] at HS
  have HH := Lib.hid hh
  have RS := Lib.hid (fun V (h : BkM V q b) => rsums_any q b d V h gd)
  have n24 := gd.a24
  have SB := Lib.hid (fun j => clS_bd (f := baF b d) (fun c => bal_bd gd c d) (b.acs.take j))
  have BF := Lib.hid (fun c => bal_bd gd c d)
  have KV := Lib.hid (fun a ha => kiV_at (inc_nodup (acE_inc gd.acs).1) a ha)
  have GD := Lib.hid gd
  have K2V := Lib.hid kv
  have NL := Lib.hid nl
  have PP := Lib.hid (fun V a cap (h : Kept w V) (hx : EtM V (clX b k d c) a cap) => rpost_rob w q b (clX b k d c) a cap V hM h hx gd)
  have EM := Lib.hid (fun V a (cap : Nat) (h : PArg V a (clA (baF b d) c b.acs)) (h1 : (clA (baF b d) c b.acs).length ≤ cap) (h2 : cap ≤ maxLen) => clX_m (b := b) (k := k) (d := d) hk hc hM.sha gd.a24 h h1 h2)
  have H1 := Lib.hid h1
  have H2 := Lib.hid h2
  have H3 := Lib.hid h3
  have e1 : (clX b k d c).key = k := rfl
  have e2 : (clX b k d c).day = d := rfl
  have EZ := Lib.hid (show (clX b k d c).lns = clA (baF b d) c b.acs from rfl)
  rw [← EZ.out] at EM
  clear kv nl h1 h2 h3
  generalize clX b k d c = z at *
  simp only [e1, e2] at PP
  generalize poE b z = ep at *
  generalize poY b z = y at *
  generalize hW : (w.alloc (bkO q b)).alloc noBk = W at *
  have HW := Lib.hid hW
  have HK := Lib.hid hK2
  have HR := Lib.hid hR
  have HB := Lib.hid hB
  have HM := Lib.hid (hM.later hK2)
  have HM0 := Lib.hid hM
  clear hW hK2 hR
  clear hM dy hh gd
  obtain ⟨b0, b1, b2, b3⟩ := hB
  go_enter Tryz.func8, Tryz.ntmps8
  go_wp2_with fail
  rw [HW.out]
  refine (rday_any _ _).mono ?_
  rintro e w1 ⟨rfl, rfl⟩
  rw [DY.out]
  go_wp2_with fail
  refine (HS.out W HM.out).mono ?_
  rintro e w2 ⟨rfl, hK1⟩
  have K1 := Lib.hid hK1
  clear b0 b1 b2 b3 hK1
  obtain ⟨b0, b1, b2, b3⟩ := HB.out.later K1.out
  go_wp2_with fail
  refine (RS.out w2 (HM.out.later K1.out)).mono ?_
  rintro e w3 ⟨bm, n, hm, rfl, hN, hS, hK3⟩
  have K3 := Lib.hid (K1.out.trans hK3)
  have HN := Lib.hid hN
  have HSm := Lib.hid hS
  clear b0 b1 b2 b3 hK3 hN hS
  obtain ⟨b0, b1, b2, b3⟩ := HB.out.later K3.out
  have hO0 := WBx.new w3 k d (.slice none 0 0) 38 w3.heap.size rfl
  have kO := Lib.hid ((Kept.refl w3).alloc (.cells #[.string k, .int .i64 d, .slice none 0 0] 38))
  have w3s : w3.heap.size < (w3.alloc (.cells #[.string k, .int .i64 d, .slice none 0 0] 38)).heap.size := hO0.box.lt
  have rbo : w.heap.size + 1 < w3.heap.size := (HR.out.later K3.out).box.lt
  go_wp2
  generalize w3.alloc (.cells #[.string k, .int .i64 d, .slice none 0 0] 38) = W4 at *
  clear b0 b1 b2 b3
  generalize hbo : w3.heap.size = bo at *
  have hbo2 : w3.heap.size ≤ bo := by omega
  clear hbo
  have HL0 := Lib.hid (PGr.nil 48 (bo + 1) W4)
  go_loopw [12, 36] (fun s i wr => ∃ (j : Nat) (v : Value), j ≤ b.acs.length ∧ i = .int .i64 j ∧ s = .int .i64 (-(sumL (clL (baF b d) (b.acs.take j)))) ∧ WBx wr bo k d v ∧ PGr 48 (bo + 1) wr v (clL (baF b d) (b.acs.take j)) ∧ Kept w3 wr) (fun _ i _ => b.acs.length - (intOf i).toNat)
  case atStart => exact ⟨0, _, Nat.zero_le _, rfl, rfl, hO0, HL0.out, kO.out⟩
  case round =>
    clear hO0
    obtain ⟨j, v, hj, rfl, rfl, hO, hG, hK⟩ := hrel
    obtain ⟨av, cv, rfl, _, _⟩ := hG.form
    have KW := Lib.hid (K3.out.trans hK)
    by_cases hlt : j < b.acs.length
    · obtain ⟨p, off, hp, hR2⟩ := (HM.out.later KW.out).acs.at hlt
      have c0 := hR2.c0 j hlt
      have c1 := hR2.c1 j hlt
      have plt := hR2.lt
      have SN := Lib.hid (clL_snoc (f := baF b d) hlt)
      have KX := Lib.hid (KV.out _ (List.getElem_mem hlt))
      have hys := HM.out.sha _ (List.getElem_mem hlt)
      have TA := Lib.hid (List.take_succ_eq_append_getElem hlt)
      obtain ⟨s1, s2⟩ := SB.out j
      have ll := clL_len (baF b d) (b.acs.take j)
      rw [List.length_take, Nat.min_eq_left hj] at s1 s2 ll
      obtain ⟨z1, z2⟩ := BF.out (b.acs[j]).1
      have HLT := Lib.hid hlt
      clear hR2
      rw [hp] at *
      clear hp
      generalize b.acs[j] = x at *
      have kA := (Kept.refl wr).alloc (.cells #[.string x.1, .int .i64 x.2] 54)
      have hlk := ((HN.out.later hK).later kA).look hys
      rw [HSm.out x.1] at hlk
      have HO1 := Lib.hid (hO.later kA)
      have HG1 := Lib.hid (hG.later kA)
      have HK1 := Lib.hid (hK.trans kA)
      obtain ⟨⟨y0, y1, y2, y3⟩, g0, g1, g2⟩ := id hO
      clear kA
      by_cases hb : x.1 = c
      · have hb2 : (x.1.toList == c.toList) = true := by rw [hb]; simp
        have e2 : x.2 = 2 := by rw [← KX.out, hb]; exact K2V.out
        have n2 : (x.2 != 2) = false := by rw [e2]; rfl
        have g3 : ¬ 2 < x.2 := by omega
        have SK := Lib.hid (show clL (baF b d) (b.acs.take (j + 1)) = clL (baF b d) (b.acs.take j) by rw [SN.out]; unfold clO; rw [if_neg (fun z => by omega)]; simp)
        clear e2 hb SN hlk
        go_wp2
        go_roundw
        case rel => exact ⟨j + 1, _, HLT.out, by go_num, by rw [SK.out], HO1.out, by rw [SK.out]; exact HG1.out, HK1.out⟩
        case measure => have := HLT.out; simp [intOf]; omega
      · have hb2 : (x.1.toList == c.toList) = false := by rw [beq_eq_false_iff_ne]; exact fun e => hb (ba_ext e)
        clear hb
        by_cases g3 : 2 < x.2
        · by_cases f0 : balS x.1 d b.ens = 0
          · have SK := Lib.hid (show clL (baF b d) (b.acs.take (j + 1)) = clL (baF b d) (b.acs.take j) by rw [SN.out]; unfold clO; rw [if_neg (fun z => z.2 f0)]; simp)
            rw [f0] at hlk
            clear SN z1 z2 f0
            go_wp2
            go_roundw
            case rel => exact ⟨j + 1, _, HLT.out, by go_num, by rw [SK.out], HO1.out, by rw [SK.out]; exact HG1.out, HK1.out⟩
            case measure => have := HLT.out; simp [intOf]; omega
          · have f1 : (balS x.1 d b.ens == 0) = false := by simpa using f0
            have f2 : (balS x.1 d b.ens != 0) = true := by simpa using f0
            have SK := Lib.hid (show clL (baF b d) (b.acs.take (j + 1)) = clL (baF b d) (b.acs.take j) ++ [(x.1, -(balS x.1 d b.ens))] by rw [SN.out]; unfold clO; rw [if_pos ⟨by omega, f0⟩]; rfl)
            have SK2 := Lib.hid (show -(sumL (clL (baF b d) (b.acs.take (j + 1)))) = -(sumL (clL (baF b d) (b.acs.take j))) + balS x.1 d b.ens by rw [SK.out, sumL_append]; simp [sumL]; omega)
            have w1' : IntKind.i64.wrap (-(balS x.1 d b.ens)) = -(balS x.1 d b.ens) := IntWalk.i64_in _ (by omega)
            have w2' : IntKind.i64.wrap (-(sumL (clL (baF b d) (b.acs.take j))) + balS x.1 d b.ens) = -(sumL (clL (baF b d) (b.acs.take j))) + balS x.1 d b.ens := IntWalk.i64_in _ (by omega)
            have HXB := Lib.hid (PBx.new wr x 54)
            have HLK := Lib.hid (fun V (k : Kept w3 V) => (HN.out.later k).look hys)
            have HSX := Lib.hid (HSm.out x.1)
            clear SN f0
            generalize balS x.1 d b.ens = bal at *
            generalize clL (baF b d) (b.acs.take j) = m at *
            generalize sumL m = sm at *
            have kb := (Kept.refl (wr.alloc (.cells #[.string x.1, .int .i64 x.2] 54))).alloc (.cells #[.string x.1, .int .i64 (-bal)] 48)
            have hO1 := HO1.out.later kb
            have hG1 := HG1.out.later kb
            have hK1 := HK1.out.trans kb
            have hX1 := HXB.out.later kb
            have olt := hO.box.lt
            have N0 := Lib.hid (show ((wr.alloc (.cells #[.string x.1, .int .i64 x.2] 54)).alloc (.cells #[.string x.1, .int .i64 (-bal)] 48)).cell? ⟨wr.heap.size + 1, 0, none⟩ = some (.string x.1) by simp)
            have N1 := Lib.hid (show ((wr.alloc (.cells #[.string x.1, .int .i64 x.2] 54)).alloc (.cells #[.string x.1, .int .i64 (-bal)] 48)).cell? ⟨wr.heap.size + 1, 1, none⟩ = some (.int .i64 (-bal)) by simp)
            go_wp2_with (at_builtin; refine app_pr 48 34 pairLine Tryz.underlying34 rfl _ _ rfl (z := (x.1, -bal)) rfl rfl hG1 N0.out N1.out (by omega) (by simp; omega) ?_)
            intro v' w6 hG5 hgr
            have hK5 : Kept w3 w6 := hG1.below (by omega) hK1 hgr
            have hO5 := hO1.grown hgr (fun e => by have := (hG1.own.lt bo e.symm).1; omega)
            have hne : some wr.heap.size ≠ (Value.slice av m.length cv).ownBlock := fun e => by have := (hG.own.lt _ e.symm).2; omega
            have a0 := hgr.cell hX1.c0 hne
            have a1 := hgr.cell hX1.c1 hne
            have alt := Nat.lt_of_lt_of_le hX1.lt hgr.size
            have nbo : wr.heap.size ≠ bo := by omega
            obtain ⟨a5, c5, rfl, _, _⟩ := hG5.form
            rw [show (m ++ [(x.1, -bal)]).length = m.length + 1 by simp] at hG5 ⊢
            have KS := Lib.hid (hK5.setAt (i := 2) hbo2 (.slice a5 (m.length + 1) c5))
            have hlk2 := HLK.out _ KS.out
            rw [HSX.out] at hlk2
            have R1 := Lib.hid (hO5.set2' (u := .slice a5 (m.length + 1) c5))
            have R2 := Lib.hid (hG5.other' (r := bo) (i := 2) (u := .slice a5 (m.length + 1) c5) (Nat.lt_succ_self _))
            obtain ⟨⟨q0, q1, q2, q3⟩, q4, q5, q6⟩ := id hO5
            clear hG hG1 hK hK1 hO hO1 y0 y1 y2 y3 g0 g1 g2 c0 c1 plt hgr N0 N1 hlk hX1 kb hO5 hG5 hK5 hne
            go_wp2
            go_roundw
            case rel => exact ⟨j + 1, _, HLT.out, by go_num, by rw [SK2.out], R1.out, by rw [SK.out]; exact R2.out, KS.out⟩
            case measure => have := HLT.out; simp [intOf]; omega
        · have SK := Lib.hid (show clL (baF b d) (b.acs.take (j + 1)) = clL (baF b d) (b.acs.take j) by rw [SN.out]; unfold clO; rw [if_neg (fun z => by omega)]; simp)
          clear SN hlk
          go_wp2
          go_roundw
          case rel => exact ⟨j + 1, _, HLT.out, by go_num, by rw [SK.out], HO1.out, by rw [SK.out]; exact HG1.out, HK1.out⟩
          case measure => have := HLT.out; simp [intOf]; omega
    · obtain rfl : j = b.acs.length := by omega
      clear hlt
      obtain ⟨s1, s2⟩ := SB.out b.acs.length
      have ll := clL_len (baF b d) b.acs
      rw [List.take_length] at hG hO s1 s2 ⊢
      have n0 : ((((clL (baF b d) b.acs).length : Nat) : Int) == 0) = false := by
        rw [beq_eq_false_iff_ne]
        intro h
        exact NL.out (List.eq_nil_of_length_eq_zero (by omega))
      obtain ⟨⟨y0, y1, y2, y3⟩, g0, g1, g2⟩ := id hO
      by_cases s0 : sumL (clL (baF b d) b.acs) = 0
      · have EL := Lib.hid (show clL (baF b d) b.acs = z.lns by rw [EZ.out]; unfold clA; rw [if_pos s0]; simp)
        rw [s0]
        rw [EL.out] at hG hO n0 y3
        clear y0 y1 y2 y3 g0 g1 g2
        obtain ⟨⟨y0, y1, y2, y3⟩, g0, g1, g2⟩ := id hO
        clear s1 s2 s0 ll
        obtain ⟨fa, fc, fe, f1, f2⟩ := hG.form
        obtain ⟨rfl, rfl⟩ : av = fa ∧ cv = fc := by simpa using fe
        have KV9 := Lib.hid (K3.out.trans hK)
        have PA9 := Lib.hid hG.arg
        have PC := Lib.hid (PP.out _ av cv (HK.out.trans KV9.out) (EM.out _ av cv PA9.out f1 f2))
        have LC9 := Lib.hid (show z.lns.length ≤ cv ∧ cv ≤ maxLen from ⟨f1, f2⟩)
        have GB := Lib.hid (fun p off (e : av = some ⟨p, off, none⟩) (hn : z.lns ≠ []) => show bo + 1 ≤ p ∧ p < (wr).heap.size from by
          have h9 := hG.own.lt p (by rw [e]; rfl)
          refine ⟨?_, h9.2⟩
          rcases hG.own.2 with ⟨e1, h0⟩ | ⟨q1, c1, _, e1, hb1, _⟩
          · exact absurd (List.eq_nil_of_length_eq_zero h0) hn
          · obtain ⟨⟨rfl, _⟩, _⟩ : (p = q1 ∧ off = 0) ∧ _ := by rw [e] at e1; simpa using e1
            exact hb1)
        have sV : bo < (wr).heap.size := hO.box.lt
        obtain ⟨⟨y0, y1, y2, y3⟩, g0, g1, g2⟩ := id hO
        obtain ⟨b0, b1, b2, b3⟩ := HB.out.later KV9.out
        go_wp2_with fail
        refine PC.out.mono ?_
        rintro e w7 ⟨q7, rfl, hK7, hR7⟩
        have KO := Lib.hid ((KV9.out.trans hK7).alloc (bkO q7 y))
        have K7 := Lib.hid (KV9.out.trans hK7)
        have PD7 := Lib.hid (PA9.out.later hK7)
        have HO7 := Lib.hid (xz_new (w := w7) rfl q7 y)
        have PA7 := Lib.hid (PA9.out.later (hK7.alloc (bkO q7 y)))
        have s7 : (wr).heap.size ≤ w7.heap.size := hK7.le
        have HR7 := Lib.hid hR7
        clear b0 b1 b2 b3 y0 y1 y2 y3 g0 g1 g2 hK7 hR7
        by_cases pe : ep = 0
        · by_cases sh : d < y.shut
          · have EQ := Lib.hid (H2.out pe sh)
            subst pe
            obtain ⟨⟨v0, v1, v2, v3⟩, m0, m1, m2⟩ := HO7.out
            have kf := KO.out.alloc noBk
            obtain ⟨⟨r0, r1, r2, r3⟩, f0, f1, f2⟩ := HR.out.later KO.out
            have FK := Lib.hid ((HK.out.trans KO.out).set3 (p := w.heap.size + 1) (by omega) (.slice none 0 0) (.slice none 0 0) (.int .i64 0))
            clear kf
            go_wp2
            exact bodyPost_ret (v := .tuple #[.agg #[.slice none 0 0, .slice none 0 0, .int .i64 0], .int .i64 9]) (by simp [results, Tryz.results8, go_sem, r1, r2, r3]) rfl ⟨noA, by rw [EQ.out.1, EQ.out.2]; rfl, by rw [EQ.out.1]; exact noB_mz _, FK.out⟩
          · have EQ := Lib.hid (H3.out pe (Int.not_lt.1 sh))
            subst pe
            obtain ⟨⟨r0, r1, r2, r3⟩, f0, f1, f2⟩ := HR.out.later K7.out
            have rn : w.heap.size + 1 ≠ w7.heap.size := by omega
            have rn2 : w7.heap.size ≠ w.heap.size + 1 := by omega
            have ZN2 := Lib.hid (fun (hn : z.lns ≠ []) p off (e : av = some ⟨p, off, none⟩) => show w.heap.size + 1 ≠ p from by have := (GB.out p off e hn).1; omega)
            have FK := Lib.hid (((HK.out.trans K7.out).set3 (p := w.heap.size + 1) (by omega) (.slice q7.aa y.acs.length q7.ca) (.slice q7.ae y.ens.length q7.ce) (.int .i64 d)).alloc (bkO q7 ⟨y.acs, y.ens, d⟩))
            have ZF := Lib.hid ((((PD7.out.other (i := 0) (v := .slice q7.aa y.acs.length q7.ca) ZN2.out).other (i := 1) (v := .slice q7.ae y.ens.length q7.ce) ZN2.out).other (i := 2) (v := .int .i64 d) ZN2.out).later ((Kept.refl _).alloc (bkO q7 ⟨y.acs, y.ens, d⟩)))
            have FM := Lib.hid ((HR7.out _ FK.out (EM.out _ av cv ZF.out LC9.out.1 LC9.out.2) (((((Far.refl _ w7).set (by omega) _).set (by omega) _).set (by omega) _).alloc (bkO q7 ⟨y.acs, y.ens, d⟩))).shutAt d)
            go_wp2
            exact bodyPost_ret (v := .tuple #[bkV q7 ⟨y.acs, y.ens, d⟩, .int .i64 0]) (by simp [results, Tryz.results8, go_sem, r0, r1, r2, r3]) rfl ⟨q7, by rw [EQ.out.1, EQ.out.2], by rw [EQ.out.1]; exact FM.out, FK.out⟩
        · have EQ := Lib.hid (H1.out pe)
          have pn : (ep != 0) = true := by simpa using pe
          obtain ⟨⟨r0, r1, r2, r3⟩, f0, f1, f2⟩ := HR.out.later KO.out
          have FK := Lib.hid ((HK.out.trans KO.out).set3 (p := w.heap.size + 1) (by omega) (.slice none 0 0) (.slice none 0 0) (.int .i64 0))
          clear pe
          go_wp2
          exact bodyPost_ret (v := .tuple #[.agg #[.slice none 0 0, .slice none 0 0, .int .i64 0], .int .i64 ep]) (by simp [results, Tryz.results8, go_sem, r1, r2, r3]) rfl ⟨noA, by rw [EQ.out.1, EQ.out.2]; rfl, by rw [EQ.out.1]; exact noB_mz _, FK.out⟩
      · have EL := Lib.hid (show clL (baF b d) b.acs ++ [(c, -(sumL (clL (baF b d) b.acs)))] = z.lns by rw [EZ.out]; unfold clA; rw [if_neg s0])
        have LL2 := Lib.hid (show (clL (baF b d) b.acs).length + 1 = z.lns.length by rw [← EL.out]; simp)
        have s3 : (-(sumL (clL (baF b d) b.acs)) != 0) = true := by rw [bne_iff_ne]; omega
        have s4 : (-(sumL (clL (baF b d) b.acs)) == 0) = false := by rw [beq_eq_false_iff_ne]; omega
        generalize clL (baF b d) b.acs = m at *
        generalize -(sumL m) = sm at *
        have kb := (Kept.refl wr).alloc (.cells #[.string c, .int .i64 sm] 48)
        have hO1 := hO.later kb
        have hG1 := hG.later kb
        have hK1 := hK.trans kb
        have olt := hO.box.lt
        have N0 := Lib.hid (show (wr.alloc (.cells #[.string c, .int .i64 sm] 48)).cell? ⟨wr.heap.size, 0, none⟩ = some (.string c) by simp)
        have N1 := Lib.hid (show (wr.alloc (.cells #[.string c, .int .i64 sm] 48)).cell? ⟨wr.heap.size, 1, none⟩ = some (.int .i64 sm) by simp)
        clear s1 s2 s0
        go_wp2_with (at_builtin; refine app_pr 48 34 pairLine Tryz.underlying34 rfl _ _ rfl (z := (c, sm)) rfl rfl hG1 N0.out N1.out (by omega) (by simp; omega) ?_)
        intro v' w6 hG5 hgr
        have hK5 : Kept w3 w6 := hG1.below (by omega) hK1 hgr
        have hO5 := hO1.grown hgr (fun e => by have := (hG1.own.lt bo e.symm).1; omega)
        obtain ⟨a5, c5, rfl, _, _⟩ := hG5.form
        rw [EL.out] at hG5 ⊢
        have KS := hK5.setAt (i := 2) hbo2 (.slice a5 z.lns.length c5)
        have R1 := hO5.set2' (u := .slice a5 z.lns.length c5)
        have R2 := hG5.other' (r := bo) (i := 2) (u := .slice a5 z.lns.length c5) (Nat.lt_succ_self _)
        clear y0 y1 y2 y3 g0 g1 g2
        obtain ⟨⟨q0, q1, q2, q3⟩, q4, q5, q6⟩ := id hO5
        have blt6 : w.heap.size < w6.heap.size := (HB.out.later (K3.out.trans hK5)).lt
        have nbw : w.heap.size ≠ bo := by omega
        obtain ⟨b0, b1, b2, b3⟩ := HB.out.later (K3.out.trans hK5)
        clear hG hG1 hK hK1 hO hO1 hgr N0 N1 kb hO5 hG5 hK5 ll
        go_wp2_with fail
        clear q0 q1 q2 q3 q4 q5 q6 b0 b1 b2 b3
        generalize w6.setCell ⟨bo, 2, none⟩ (.slice a5 z.lns.length c5) = w6s at *
        obtain ⟨fa, fc, fe, f1, f2⟩ := R2.form
        obtain ⟨rfl, rfl⟩ : a5 = fa ∧ c5 = fc := by simpa using fe
        have KV9 := Lib.hid (K3.out.trans KS)
        have PA9 := Lib.hid R2.arg
        have PC := Lib.hid (PP.out _ a5 c5 (HK.out.trans KV9.out) (EM.out _ a5 c5 PA9.out f1 f2))
        have LC9 := Lib.hid (show z.lns.length ≤ c5 ∧ c5 ≤ maxLen from ⟨f1, f2⟩)
        have GB := Lib.hid (fun p off (e : a5 = some ⟨p, off, none⟩) (hn : z.lns ≠ []) => show bo + 1 ≤ p ∧ p < (w6s).heap.size from by
          have h9 := R2.own.lt p (by rw [e]; rfl)
          refine ⟨?_, h9.2⟩
          rcases R2.own.2 with ⟨e1, h0⟩ | ⟨q1, c1, _, e1, hb1, _⟩
          · exact absurd (List.eq_nil_of_length_eq_zero h0) hn
          · obtain ⟨⟨rfl, _⟩, _⟩ : (p = q1 ∧ off = 0) ∧ _ := by rw [e] at e1; simpa using e1
            exact hb1)
        have sV : bo < (w6s).heap.size := R1.box.lt
        refine PC.out.mono ?_
        rintro e w7 ⟨q7, rfl, hK7, hR7⟩
        have KO := Lib.hid ((KV9.out.trans hK7).alloc (bkO q7 y))
        have K7 := Lib.hid (KV9.out.trans hK7)
        have PD7 := Lib.hid (PA9.out.later hK7)
        have HO7 := Lib.hid (xz_new (w := w7) rfl q7 y)
        have PA7 := Lib.hid (PA9.out.later (hK7.alloc (bkO q7 y)))
        have s7 : (w6s).heap.size ≤ w7.heap.size := hK7.le
        have HR7 := Lib.hid hR7
        clear hK7 hR7
        by_cases pe : ep = 0
        · by_cases sh : d < y.shut
          · have EQ := Lib.hid (H2.out pe sh)
            subst pe
            obtain ⟨⟨v0, v1, v2, v3⟩, m0, m1, m2⟩ := HO7.out
            have kf := KO.out.alloc noBk
            obtain ⟨⟨r0, r1, r2, r3⟩, f0, f1, f2⟩ := HR.out.later KO.out
            have FK := Lib.hid ((HK.out.trans KO.out).set3 (p := w.heap.size + 1) (by omega) (.slice none 0 0) (.slice none 0 0) (.int .i64 0))
            clear kf
            go_wp2
            exact bodyPost_ret (v := .tuple #[.agg #[.slice none 0 0, .slice none 0 0, .int .i64 0], .int .i64 9]) (by simp [results, Tryz.results8, go_sem, r1, r2, r3]) rfl ⟨noA, by rw [EQ.out.1, EQ.out.2]; rfl, by rw [EQ.out.1]; exact noB_mz _, FK.out⟩
          · have EQ := Lib.hid (H3.out pe (Int.not_lt.1 sh))
            subst pe
            obtain ⟨⟨r0, r1, r2, r3⟩, f0, f1, f2⟩ := HR.out.later K7.out
            have rn : w.heap.size + 1 ≠ w7.heap.size := by omega
            have rn2 : w7.heap.size ≠ w.heap.size + 1 := by omega
            have ZN2 := Lib.hid (fun (hn : z.lns ≠ []) p off (e : a5 = some ⟨p, off, none⟩) => show w.heap.size + 1 ≠ p from by have := (GB.out p off e hn).1; omega)
            have FK := Lib.hid (((HK.out.trans K7.out).set3 (p := w.heap.size + 1) (by omega) (.slice q7.aa y.acs.length q7.ca) (.slice q7.ae y.ens.length q7.ce) (.int .i64 d)).alloc (bkO q7 ⟨y.acs, y.ens, d⟩))
            have ZF := Lib.hid ((((PD7.out.other (i := 0) (v := .slice q7.aa y.acs.length q7.ca) ZN2.out).other (i := 1) (v := .slice q7.ae y.ens.length q7.ce) ZN2.out).other (i := 2) (v := .int .i64 d) ZN2.out).later ((Kept.refl _).alloc (bkO q7 ⟨y.acs, y.ens, d⟩)))
            have FM := Lib.hid ((HR7.out _ FK.out (EM.out _ a5 c5 ZF.out LC9.out.1 LC9.out.2) (((((Far.refl _ w7).set (by omega) _).set (by omega) _).set (by omega) _).alloc (bkO q7 ⟨y.acs, y.ens, d⟩))).shutAt d)
            go_wp2
            exact bodyPost_ret (v := .tuple #[bkV q7 ⟨y.acs, y.ens, d⟩, .int .i64 0]) (by simp [results, Tryz.results8, go_sem, r0, r1, r2, r3]) rfl ⟨q7, by rw [EQ.out.1, EQ.out.2], by rw [EQ.out.1]; exact FM.out, FK.out⟩
        · have EQ := Lib.hid (H1.out pe)
          have pn : (ep != 0) = true := by simpa using pe
          obtain ⟨⟨r0, r1, r2, r3⟩, f0, f1, f2⟩ := HR.out.later KO.out
          have FK := Lib.hid ((HK.out.trans KO.out).set3 (p := w.heap.size + 1) (by omega) (.slice none 0 0) (.slice none 0 0) (.int .i64 0))
          clear pe
          go_wp2
          exact bodyPost_ret (v := .tuple #[.agg #[.slice none 0 0, .slice none 0 0, .int .i64 0], .int .i64 ep]) (by simp [results, Tryz.results8, go_sem, r1, r2, r3]) rfl ⟨noA, by rw [EQ.out.1, EQ.out.2]; rfl, by rw [EQ.out.1]; exact noB_mz _, FK.out⟩
end Go.Proofs.YtbaahnafmfjpaaaGreatDoor
