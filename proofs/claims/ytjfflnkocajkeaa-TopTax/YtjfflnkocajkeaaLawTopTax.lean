/-
  The walk of taltop.TopTax: it returns true at every input. No condition but those that each theorem names.
-/
import Derived.Test.YtjfflnkocajkeaaUWalkT
import Derived.Test.YtjfflnkocajkeaaMgVWalkC
namespace Go.Proofs.Ytjfflnkocajkeaa
open Go.RowKit
set_option linter.unusedVariables false

theorem isB_self (c : ByteArray) (a : Int) : isB c (c, a) = true := isB_iff.2 rfl
theorem isB_not {c d : ByteArray} (h : d ≠ c) (a : Int) : isB c (d, a) = false := by
  cases e : isB c (d, a)
  · rfl
  · exact absurd (isB_iff.1 e) h
/-- A bill's lines. -/
def taxL (net tax : Int) : List Pr := if 0 < tax then [(c10, net + tax), (c40, -net), (c20, -tax)] else [(c10, net), (c40, -net)]
theorem taxL_ok {net tax : Int} (n1 : 1 ≤ net) (n2 : net ≤ 1000001) (t0 : 0 ≤ tax) (t1 : tax ≤ 1000001) : OkLs (taxL net tax) := by
  unfold taxL
  by_cases h : 0 < tax
  · have q10 : codeB c10 = true := by decide +kernel
    have q20 : codeB c20 = true := by decide +kernel
    have q40 : codeB c40 = true := by decide +kernel
    have h10 : hasB c10 topL = true := by decide +kernel
    have h20 : hasB c20 topL = true := by decide +kernel
    have h40 : hasB c40 topL = true := by decide +kernel
    rw [if_pos h]
    refine ⟨by simp, by simp, fun x hx => ?_, by simp, by simp [sumL]; omega, fun y hy => ?_⟩
    · simp at hx
      rcases hx with rfl | rfl | rfl
      · exact ⟨q10, by simp only []; omega, by simp only []; omega, by simp only []; omega⟩
      · exact ⟨q40, by simp only []; omega, by simp only []; omega, by simp only []; omega⟩
      · exact ⟨q20, by simp only []; omega, by simp only []; omega, by simp only []; omega⟩
    · simp at hy
      rcases hy with rfl | rfl | rfl
      · exact h10
      · exact h40
      · exact h20
  · rw [if_neg h]
    exact mvL_ok (tc := c10) (fr := c40) (by decide +kernel) (by decide +kernel) (by decide) (by decide +kernel) (by decide +kernel) (by omega) (by omega) (by omega)
theorem kv10 : kiV topL c10 = 0 := by decide +kernel
theorem kv20 : kiV topL c20 = 1 := by decide +kernel
theorem kv40 : kiV topL c40 = 3 := by decide +kernel
theorem kv50 : kiV topL c50 = 4 := by decide +kernel
theorem taxL_sums {net tax : Int} (t0 : 0 ≤ tax) : codeS c10 (taxL net tax) = net + tax ∧ codeS c20 (taxL net tax) = -tax ∧ kinL topL 3 (taxL net tax) = -net ∧ kinL topL 4 (taxL net tax) = 0 := by
  have a1 : ∀ a, isB c10 (c10, a) = true := isB_self _
  have a2 : ∀ a, isB c10 (c40, a) = false := isB_not (by decide)
  have a3 : ∀ a, isB c10 (c20, a) = false := isB_not (by decide)
  have b1 : ∀ a, isB c20 (c10, a) = false := isB_not (by decide)
  have b2 : ∀ a, isB c20 (c40, a) = false := isB_not (by decide)
  have b3 : ∀ a, isB c20 (c20, a) = true := isB_self _
  unfold taxL
  by_cases h : 0 < tax
  · rw [if_pos h]
    simp [codeS, kinL, a1, a2, a3, b1, b2, b3, kv10, kv20, kv40]
  · rw [if_neg h]
    have : tax = 0 := by omega
    subst this
    simp [codeS, kinL, a1, a2, b1, b2, kv10, kv40]
theorem kinS_insT {acs : List Pr} {k f t : Int} {x : Et} {l : List Et} : kinS acs k f t (insE x l) = (if inD f t x = true then kinL acs k x.lns else 0) + kinS acs k f t l := by
  rw [kinS_perm (insE_perm x l)]
  unfold kinS
  rw [List.filter_cons]
  cases inD f t x <;> simp [kinE]
/-- What the bills come to so far. -/
structure TaxSt (b : Bk) (A T : Int) (k : Nat) : Prop where
  a : balS c10 99 b.ens = A
  t : balS c20 99 b.ens = -T
  p3 : kinS topL 3 0 99 b.ens = -(A - T)
  p4 : kinS topL 4 0 99 b.ens = 0
  t0 : 0 ≤ T
  t1 : T ≤ A
  a1 : A ≤ 1000001 * (k : Int)
theorem TaxSt.step {b : Bk} {A T net tax : Int} {k : Nat} (h : TaxSt b A T k) (hT : Tp b (fun j => j < k) k) (k30 : k < 30) (n1 : 1 ≤ net) (t0 : 0 ≤ tax) (g1 : net + tax ≤ 1000001) :
    poE b ⟨kyS k, k, taxL net tax⟩ = 0 ∧ Tp (poV b ⟨kyS k, k, taxL net tax⟩) (fun j => j < k + 1) (k + 1) ∧ TaxSt (poV b ⟨kyS k, k, taxL net tax⟩) (A + (net + tax)) (T + tax) (k + 1) := by
  obtain ⟨ok, ev, tp⟩ := hT.post (n := k) (d := k) (l := taxL net tax) (by omega) (by omega) (by omega) (by omega) (by omega) (taxL_ok n1 (by omega) t0 (by omega))
  obtain ⟨s1, s2, s3, s4⟩ := taxL_sums (net := net) t0
  refine ⟨ok, tp.mono (fun j hj => by rcases hj with h | h <;> omega) (Nat.le_refl _), ?_⟩
  have hi : inD 0 99 ⟨kyS k, (k : Int), taxL net tax⟩ = true := inD_iff.2 ⟨show (0 : Int) ≤ (k : Int) by omega, show (k : Int) ≤ 99 by omega⟩
  rw [ev]
  refine ⟨?_, ?_, ?_, ?_, by have := h.t0; omega, by have := h.t1; omega, by have := h.a1; omega⟩
  · simp only [balS_ins]; rw [if_pos (show (k : Int) ≤ 99 by omega), h.a, s1]
  · simp only [balS_ins]; rw [if_pos (show (k : Int) ≤ 99 by omega), h.t, s2]; omega
  · simp only [kinS_insT]; rw [if_pos hi, h.p3, s3]; omega
  · simp only [kinS_insT]; rw [if_pos hi, h.p4, s4]; rfl
theorem Arg.firstU {w : World} {a : Option Addr} {k n : Nat} {g : Nat → Int} (h : Arg w a n g) (hk : k ≤ n) : Arg w a k g := by
  by_cases z : k = 0
  · exact .inl z
  · obtain ⟨p, off, e, hR⟩ := h.at (by omega)
    refine .inr ⟨p, off, e, hR.lt, fun j hj => ?_⟩
    have hj' : j < k := by rw [tab_len] at hj; exact hj
    have := hR.cell j (by rw [tab_len]; omega)
    rw [tab_get] at this
    rw [tab_get]; exact this
set_option maxRecDepth 100000 in
set_option maxHeartbeats 400000 in
theorem topTax_walk (a : Option Addr) (n cap : Nat) (v : Nat → Int) (r0 : Int) (al : Option Addr) (nl capl : Nat) (vl : Nat → Int) (w : World) (hn : n ≤ 4000000000000000000) (hA : Arg w a n v) (hc : n ≤ cap) (hnl : nl ≤ 4000000000000000000) (hAl : Arg w al nl vl) (hcl : nl ≤ capl) (h0 : al = none → capl = 0) :
    Calls Try.prog 11 #[.slice a n cap, .int .i64 r0, .slice al nl capl] w fun e w' => e = .returned (.bool true) ∧ Kept w w' := by
  have HA := Lib.hid hA
  have HL := Lib.hid hAl
  have H0 := Lib.hid h0
  obtain ⟨t, ht⟩ : ∃ t, min n 30 = t := ⟨_, rfl⟩
  have htl : t ≤ n := by omega
  have ht30 : t ≤ 30 := by omega
  have hmin : min (n : Int) 30 = (t : Int) := by omega
  have g1 : (0 : Int) ≤ (t : Int) := by omega
  have g2 : (t : Int) ≤ (cap : Int) := by omega
  obtain ⟨tl, htl2⟩ : ∃ tl, min nl 3 = tl := ⟨_, rfl⟩
  have htl3 : tl ≤ 3 := by omega
  have htl4 : tl ≤ nl := by omega
  have hmin2 : min (nl : Int) 3 = (tl : Int) := by omega
  have g3 : (0 : Int) ≤ (tl : Int) := by omega
  have g4 : (tl : Int) ≤ (capl : Int) := by omega
  clear hA hAl ht htl2 h0
  go_enter Try.func11, Try.ntmps11
  go_wp2_with fail
  refine (tbegun_any _).mono ?_
  rintro e w1 ⟨rfl, hK1⟩
  go_wp2_with fail
  refine (wn_any r0 1000001 _ (by decide) (by decide)).mono ?_
  rintro e w2 ⟨rfl, rfl⟩
  obtain ⟨r1, r2⟩ := wnV_bd r0 (n := 1000001) (by decide)
  generalize wnV r0 1000001 = r at *
  go_wp2_with fail
  refine (tplain_any _).mono ?_
  rintro e w2 ⟨q, rfl, hM, hK2⟩
  have V7 := Lib.hid (uv_new (w := w2) rfl q topB)
  have kX := Lib.hid ((Kept.refl w2).alloc (bkO q topB))
  have HK2 := Lib.hid (hK1.trans hK2)
  have HM := Lib.hid hM
  have ST0 := Lib.hid (show TaxSt topB 0 0 0 from ⟨rfl, rfl, rfl, rfl, by decide, by decide, by decide⟩)
  have TP0 := Lib.hid (Tp.new.mono (Q := fun j => j < 0) (fun j h => h.elim) (Nat.le_refl 0))
  clear hK1 hK2 hM
  go_wp2
  go_loopw [8, 9, 34] (fun s8 s9 i wr => ∃ (k : Nat) (qb : BkA) (b : Bk) (A T : Int), k ≤ t ∧ i = .int .i64 k ∧ s8 = .int .i64 A ∧ s9 = .int .i64 T ∧ VBk wr w2.heap.size qb b ∧ BkU w2 wr w2.heap.size qb b ∧ Hid (Tp b (fun j => j < k) k) ∧ Hid (TaxSt b A T k) ∧ Kept w2 wr) (fun _ _ i _ => t - (intOf i).toNat)
  case atStart => exact ⟨0, q, topB, 0, 0, Nat.zero_le _, rfl, rfl, rfl, V7.out, .inl HM.out, TP0, ST0, kX.out⟩
  case round =>
    obtain ⟨k, qb, b, A, T, hk, rfl, rfl, rfl, hV, hBk, hT, hS, hK⟩ := hrel
    by_cases hlt : k < t
    · obtain ⟨p, off, rfl, hR⟩ := (HA.out.later (HK2.out.trans hK)).at (by omega)
      have c0 := hR.cell k (by rw [tab_len]; omega)
      rw [tab_get] at c0
      have plt := hR.lt
      have i0 : (0 : Int) ≤ (k : Int) := by omega
      have i1 : (k : Int) < (t : Int) := by omega
      have WN := Lib.hid (fun V => wn_any (v k) 1000000 V (by decide) (by decide))
      obtain ⟨x0, x1⟩ := wnV_bd (v k) (n := 1000000) (by decide)
      generalize wnV (v k) 1000000 = x at *
      have u1 : IntKind.i64.wrap (2 + x) = 2 + x := IntWalk.i64_in _ (by omega)
      clear hR
      go_wp2_with fail
      refine (WN.out _).mono ?_
      rintro e w3 ⟨rfl, rfl⟩
      have G1 : 2 ≤ 2 + x := by omega
      have G2 : 2 + x ≤ 1000001 := by omega
      go_wp2_with fail
      generalize 2 + x = g at *
      clear u1 x0 x1 WN c0 plt
      obtain ⟨ok, n1, ng⟩ := net_bd (g := g) (r := r) (by omega) (by omega) (by omega) (by omega)
      have WI := Lib.hid (fun V => within_yes g r 2 V ok)
      obtain ⟨net, hnet⟩ : ∃ net, inV g r 2 = net := ⟨_, rfl⟩
      rw [hnet] at n1 ng WI
      clear ok hnet
      have u2 : IntKind.i64.wrap (g - net) = g - net := IntWalk.i64_in _ (by omega)
      with_reducible refine (WI.out _).mono ?_
      rintro e w4 ⟨rfl, hK4⟩
      obtain ⟨tax, htax⟩ : ∃ tax, g - net = tax := ⟨_, rfl⟩
      have HG := Lib.hid (show g = net + tax by omega)
      rw [htax]
      have t0 : 0 ≤ tax := by omega
      have t1 : net + tax ≤ 1000001 := by omega
      clear htax u2
      have kL := (hK.trans hK4).alloc (.cells #[.int .i64 1] 3)
      have GL := Lib.hid (Gr.lit1 w4 1 (fun _ => 1) rfl)
      have AL := Lib.hid (show Arg (w4.alloc (.cells #[.int .i64 1] 3)) al tl vl from (HL.out.later (HK2.out.trans kL)).firstU htl4)
      have Z0 := Lib.hid (show al = none → tl = 0 ∧ capl = 0 from fun e => ⟨by have := H0.out e; omega, H0.out e⟩)
      go_wp2_with (at_builtin; refine app_arg rfl _ _ rfl rfl rfl GL.out AL.out Z0.out (by omega) (by simp) ?_)
      intro v' w5 hG5 hgr
      have hK5 : Kept w2 w5 := GL.out.below (by have := (hK.trans hK4).le; omega) kL hgr
      have hW5 : Kept wr w5 := GL.out.below (by have := hK4.le; omega) (hK4.alloc _) hgr
      obtain ⟨ad, cp, rfl, hA5⟩ := hG5.arg
      have HA5 := Lib.hid hA5
      have HW5 := Lib.hid hW5
      clear hG5 hgr hK5 hA5 hW5 kL hK4
      go_wp2_with fail
      refine (by_any net ad (1 + tl) cp _ w5 (by omega) HA5.out).mono ?_
      rintro e w6 (⟨er, hne, rfl, hK6⟩ | ⟨pp, g', rfl, hO6, hs6, hb6, n40, hK6⟩)
      case' inl =>
        have hne2 : (er == 0) = false := by simpa using hne
        clear hne
        go_wp2_with fail
      case' inr =>
        have TS := Lib.hid (tsum_any g' (1 + tl) (some ⟨pp, 0, none⟩) (1 + tl) w6 (by omega) hb6 (.inr ⟨pp, 0, rfl, hO6.rd⟩))
        rw [hs6] at TS
        clear hs6 hb6 hO6
        go_wp2_with fail
        refine TS.out.mono ?_
        rintro e w6' ⟨rfl, rfl⟩
        go_wp2_with fail
      all_goals
        have HW6 := Lib.hid (HW5.out.trans hK6)
        clear hK6
        refine (moved_any k k net c10 c40 w6 (by omega) (by omega) (by omega)).mono ?_
        rintro e w7 ⟨p7, hp7, rfl, hO7, hK7⟩
        have HX7 := Lib.hid (WBx.new w7 (kyS k) k (.slice (some ⟨p7, 0, none⟩) 2 2) 31 _ rfl)
        have HW7 := Lib.hid ((HW6.out.trans hK7).alloc (.cells #[.string (kyS k), .int .i64 k, .slice (some ⟨p7, 0, none⟩) 2 2] 31))
        have HO7 := Lib.hid (hO7.later ((Kept.refl w7).alloc (.cells #[.string (kyS k), .int .i64 k, .slice (some ⟨p7, 0, none⟩) 2 2] 31)))
        have wx : wr.heap.size ≤ w7.heap.size := (HW6.out.trans hK7).size
        have wp : wr.heap.size ≤ p7 := by have := HW6.out.size; omega
        clear hO7 hK7 hp7 HW6
        by_cases tx : 0 < tax
        · have tx2 : decide (0 < tax) = true := by simpa using tx
          have u5 : IntKind.i64.wrap (-tax) = -tax := IntWalk.i64_in _ (by omega)
          obtain ⟨⟨y0, y1, y2, y3⟩, f0, f1, f2⟩ := id HX7.out
          go_wp2_with (at_builtin; refine app_full rfl _ _ rfl (p := p7) (hb := w7.heap.size + 1) (l := mvL c10 c40 net) (z := (c20, -tax)) rfl rfl rfl ?_ ?_ ?_ (by decide) ?_)
          · exact (HO7.out.later ((Kept.refl _).alloc _)).row
          intro q8 c8 w8 hO8 hq8 hc8 hcm8 hK8
          have hk8 := ((Kept.refl (w7.alloc (.cells #[.string (kyS k), .int .i64 k, .slice (some ⟨p7, 0, none⟩) 2 2] 31))).alloc (.cells #[.string ⟨#[50, 48]⟩, .int .i64 (-tax)] 51)).trans hK8
          have hX8 := HX7.out.later hk8
          have hW8 := HW7.out.trans hk8
          have hx8 := hX8.box.lt
          have q8w : wr.heap.size ≤ q8 := by omega
          have q8l := hO8.row.lt
          have xq : w7.heap.size ≠ q8 := by omega
          clear hk8 hK8 HX7 HW7 HO7 y0 y1 y2 y3 f0 f1 f2
          obtain ⟨⟨y0, y1, y2, y3⟩, f0, f1, f2⟩ := id hX8
          generalize hbx : w7.heap.size = bx at *
          have qc : w8.cell? ⟨q8, 1, none⟩ = some (.int .i64 net) := by have := hO8.row.c1 0 (by simp [mvL]); simpa [mvL] using this
          have qf : w8.frozen? ⟨q8, 1, none⟩ = false := hO8.free 1 (by simp [mvL])
          have u6 : IntKind.i64.wrap (net + tax) = net + tax := IntWalk.i64_in _ (by omega)
          have LE : (mvL c10 c40 net ++ [(c20, -tax)]).set 0 (c10, net + tax) = taxL net tax := by unfold taxL mvL; rw [if_pos tx]; rfl
          have hO9 := (hO8.other (i := 2) (v := .slice (some ⟨q8, 0, none⟩) 3 c8) xq).amt 0 (net + tax) (by simp [mvL])
          have hX9 := (hX8.set2U (u := .slice (some ⟨q8, 0, none⟩) 3 c8)).box.otherU (i := 1) (u := .int .i64 (net + tax)) (r := q8) (by omega)
          have hW9 := (hW8.setAt (b := bx) (i := 2) (by omega) (.slice (some ⟨q8, 0, none⟩) 3 c8)).setAt (b := q8) (i := 1) (by omega) (.int .i64 (net + tax))
          rw [show ((mvL c10 c40 net ++ [(c20, -tax)])[0]'(by simp [mvL])).1 = c10 from rfl, LE] at hO9
          have HO9 := Lib.hid hO9
          have HX9 := Lib.hid hX9
          have HW9 := Lib.hid hW9
          clear hO9 hX9 hW9 LE hX8 hW8 hO8
          obtain ⟨z0, z1, z2, z3⟩ := id HX9.out
          have HV9 := Lib.hid (hV.later HW9.out)
          obtain ⟨b0, b1, b2, b3⟩ := id HV9.out.box
          have HMB := Lib.hid ((hBk.m hK).later HW9.out)
          obtain ⟨ok, tp, st⟩ := hS.out.step hT.out (by omega) n1 t0 t1
          have PO := Lib.hid (ky_post (c := c8) (n := 3) HMB.out (by omega) (by unfold taxL; rw [if_pos tx]; rfl) (by decide) HO9.out (taxL_ok n1 (by omega) t0 (by omega)).2.2.2.2.2 hc8 hcm8 ok)
          have TP := Lib.hid tp
          have ST := Lib.hid st
          have hx9 : bx < w2.heap.size + 1 + bx := by omega
          clear ok tp st HMB z0 z1 z2 z3 b0 b1 b2 b3
          obtain ⟨z0, z1, z2, z3⟩ := id HX9.out
          obtain ⟨b0, b1, b2, b3⟩ := id HV9.out.box
          go_wp2_with fail
          refine PO.out.mono ?_
          rintro e w10 ⟨q3, rfl, hF, hK10⟩
          have hV10 := HV9.out.later hK10
          have hW10 := HW9.out.trans hK10
          have hFl := HW9.out.size
          have wl := hV.box.lt
          obtain ⟨b', hb'⟩ : ∃ b', poV b ⟨kyS k, k, taxL net tax⟩ = b' := ⟨_, rfl⟩
          rw [hb'] at hF TP ST ⊢
          rw [← HG.out] at ST
          have a0 := hS.out.a1
          have a2 := hS.out.t0
          have a3 := hS.out.t1
          have u7 : IntKind.i64.wrap (A + g) = A + g := IntWalk.i64_in _ (by omega)
          have u8 : IntKind.i64.wrap (T + tax) = T + tax := IntWalk.i64_in _ (by omega)
          have hB := hF.set3 (r := w2.heap.size) (by omega) (.slice q3.aa b'.acs.length q3.ca) (.slice q3.ae b'.ens.length q3.ce) (.int .i64 b'.shut)
          have hKK := (hK.trans hW10).set3 (p := w2.heap.size) (Nat.le_refl _) (.slice q3.aa b'.acs.length q3.ca) (.slice q3.ae b'.ens.length q3.ce) (.int .i64 b'.shut)
          have hVV := uv_put (q' := q3) (b' := b') hV10
          have BB := Lib.hid (show BkU w2 _ w2.heap.size q3 b' from .inr ⟨_, by omega, hB⟩)
          have VV := Lib.hid hVV
          have KK := Lib.hid hKK
          clear hB hKK hVV hF hb' hW10 hFl z0 z1 z2 z3 b0 b1 b2 b3 PO HX9 HO9 a0 a2 a3 hS hT HG
          obtain ⟨⟨b0, b1, b2, b3⟩, f0, f1, f2⟩ := id hV10
          go_wp2_with fail
          go_roundw
          case rel => exact ⟨k + 1, q3, b', A + g, T + tax, by omega, by go_num, rfl, rfl, VV.out, BB.out, TP, ST, KK.out⟩
          case measure => simp [intOf]; omega
        · have tx2 : decide (0 < tax) = false := by simpa using tx
          have LE : mvL c10 c40 net = taxL net tax := by unfold taxL mvL; rw [if_neg tx]
          generalize hbx : w7.heap.size = bx at *
          have HO9 := HO7
          rw [LE] at HO9
          have HX9 := Lib.hid HX7.out.box
          have HW9 := HW7
          clear LE HO7 HX7 HW7
          have HV9 := Lib.hid (hV.later HW9.out)
          obtain ⟨b0, b1, b2, b3⟩ := id HV9.out.box
          have HMB := Lib.hid ((hBk.m hK).later HW9.out)
          obtain ⟨ok, tp, st⟩ := hS.out.step hT.out (by omega) n1 t0 t1
          have PO := Lib.hid (ky_post (c := 2) (n := 2) HMB.out (by omega) (by unfold taxL; rw [if_neg tx]; rfl) (by decide) HO9.out (taxL_ok n1 (by omega) t0 (by omega)).2.2.2.2.2 (Nat.le_refl 2) (by unfold maxLen; decide) ok)
          have TP := Lib.hid tp
          have ST := Lib.hid st
          have hx9 : bx < w2.heap.size + 1 + bx := by omega
          clear ok tp st HMB b0 b1 b2 b3
          obtain ⟨z0, z1, z2, z3⟩ := id HX9.out
          obtain ⟨b0, b1, b2, b3⟩ := id HV9.out.box
          go_wp2_with fail
          refine PO.out.mono ?_
          rintro e w10 ⟨q3, rfl, hF, hK10⟩
          have hV10 := HV9.out.later hK10
          have hW10 := HW9.out.trans hK10
          have hFl := HW9.out.size
          have wl := hV.box.lt
          obtain ⟨b', hb'⟩ : ∃ b', poV b ⟨kyS k, k, taxL net tax⟩ = b' := ⟨_, rfl⟩
          rw [hb'] at hF TP ST ⊢
          rw [← HG.out] at ST
          have a0 := hS.out.a1
          have a2 := hS.out.t0
          have a3 := hS.out.t1
          have u7 : IntKind.i64.wrap (A + g) = A + g := IntWalk.i64_in _ (by omega)
          have u8 : IntKind.i64.wrap (T + tax) = T + tax := IntWalk.i64_in _ (by omega)
          have hB := hF.set3 (r := w2.heap.size) (by omega) (.slice q3.aa b'.acs.length q3.ca) (.slice q3.ae b'.ens.length q3.ce) (.int .i64 b'.shut)
          have hKK := (hK.trans hW10).set3 (p := w2.heap.size) (Nat.le_refl _) (.slice q3.aa b'.acs.length q3.ca) (.slice q3.ae b'.ens.length q3.ce) (.int .i64 b'.shut)
          have hVV := uv_put (q' := q3) (b' := b') hV10
          have BB := Lib.hid (show BkU w2 _ w2.heap.size q3 b' from .inr ⟨_, by omega, hB⟩)
          have VV := Lib.hid hVV
          have KK := Lib.hid hKK
          clear hB hKK hVV hF hb' hW10 hFl z0 z1 z2 z3 b0 b1 b2 b3 PO HX9 HO9 a0 a2 a3 hS hT HG
          obtain ⟨⟨b0, b1, b2, b3⟩, f0, f1, f2⟩ := id hV10
          go_wp2_with fail
          go_roundw
          case rel => exact ⟨k + 1, q3, b', A + g, T + tax, by omega, by go_num, rfl, rfl, VV.out, BB.out, TP, ST, KK.out⟩
          case measure => simp [intOf]; omega
    · obtain rfl : k = t := by omega
      clear hlt
      have hM := hBk.m hK
      have ba1 := hT.out.ba (c := c10) (d := 99) (by decide +kernel) (by decide) (by decide)
      have ba2 := hT.out.ba (c := c20) (d := 99) (by decide +kernel) (by decide) (by decide)
      have tc := tcE_of (f := 0) (t := 99) hT.out.good ⟨by decide, by decide, by decide⟩
      have PV : prV b 0 99 = A - T := by unfold prV; rw [hT.out.acs, hS.out.p3, hS.out.p4]; omega
      have a0 := hS.out.a1
      have a2 := hS.out.t0
      have a3 := hS.out.t1
      have u7 : IntKind.i64.wrap (A - T) = A - T := IntWalk.i64_in _ (by omega)
      have u8 : IntKind.i64.wrap (-T) = -T := IntWalk.i64_in _ (by omega)
      have B1 := Lib.hid (fun V (h : BkM V qb b) => bal_yes qb b c10 99 V h ba1)
      have B2 := Lib.hid (fun V (h : BkM V qb b) => bal_yes qb b c20 99 V h ba2)
      have B3 := Lib.hid (fun V (h : BkM V qb b) => profit_yes qb b 0 99 V h tc)
      rw [hS.out.a] at B1
      rw [hS.out.t] at B2
      rw [PV] at B3
      have HM := Lib.hid hM
      have HV := Lib.hid hV
      have KF := Lib.hid (HK2.out.trans hK)
      obtain ⟨b0, b1, b2, b3⟩ := id hV.box
      clear ba1 ba2 tc PV hM hT hS hBk
      go_wp2_with fail
      refine (B1.out _ HM.out).mono ?_
      rintro e w3 ⟨rfl, hK3⟩
      clear b0 b1 b2 b3
      obtain ⟨b0, b1, b2, b3⟩ := id (HV.out.later hK3).box
      go_wp2_with fail
      refine (B2.out _ (HM.out.later hK3)).mono ?_
      rintro e w4 ⟨rfl, hK4⟩
      have hK5 := hK3.trans hK4
      clear b0 b1 b2 b3
      obtain ⟨b0, b1, b2, b3⟩ := id (HV.out.later hK5).box
      go_wp2_with fail
      refine (B3.out _ (HM.out.later hK5)).mono ?_
      rintro e w6 ⟨rfl, hK6⟩
      go_wp2
      go_ret
      exact ⟨rfl, KF.out.trans (hK5.trans hK6)⟩
end Go.Proofs.Ytjfflnkocajkeaa
