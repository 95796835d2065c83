/-
  The walk of taltop.TopLoan: it returns true at every input. No condition but those that each theorem names.
-/
import Derived.Test.YtjfflnkocajkeaaUMathL
import Derived.Test.YtjfflnkocajkeaaVPost
namespace Go.Proofs.Ytjfflnkocajkeaa
open Go.RowKit
set_option linter.unusedVariables false

set_option maxRecDepth 100000 in
set_option maxHeartbeats 400000 in
theorem topLoan_walk (l0 r0 n0 : Int) (w : World) :
    Calls Try.prog 8 #[.int .i64 l0, .int .i64 r0, .int .i64 n0] w fun e w' => e = .returned (.bool true) ∧ Kept w w' := by
  go_enter Try.func8, Try.ntmps8
  go_wp2_with fail
  refine (tbegun_any _).mono ?_
  rintro e w1 ⟨rfl, hK1⟩
  go_wp2_with fail
  refine (wnL_any l0 1000000000 _ (by decide) (by decide)).mono ?_
  rintro e w2 ⟨rfl, rfl⟩
  obtain ⟨a1, a2⟩ := wnV_bd l0 (n := 1000000000) (by decide)
  generalize wnV l0 1000000000 = lx at *
  have u1 : IntKind.i64.wrap (1 + lx) = 1 + lx := IntWalk.i64_in _ (by omega)
  go_wp2_with fail
  refine (wnL_any r0 200000 _ (by decide) (by decide)).mono ?_
  rintro e w2 ⟨rfl, rfl⟩
  obtain ⟨r1, r2⟩ := wnV_bd r0 (n := 200000) (by decide)
  generalize wnV r0 200000 = r at *
  go_wp2_with fail
  refine (wnL_any n0 40 _ (by decide) (by decide)).mono ?_
  rintro e w2 ⟨rfl, rfl⟩
  obtain ⟨n1, n2⟩ := wnV_bd n0 (n := 40) (by decide)
  generalize wnV n0 40 = nx0 at *
  have u2 : IntKind.i64.wrap (1 + nx0) = 1 + nx0 := IntWalk.i64_in _ (by omega)
  have G1 : 1 ≤ 1 + lx := by omega
  have G2 : 1 + lx ≤ 1000000000 := by omega
  go_wp2_with fail
  generalize 1 + lx = L at *
  obtain ⟨n, hn⟩ : ∃ n : Nat, 1 + nx0 = n := ⟨(1 + nx0).toNat, by omega⟩
  have m1 : 1 ≤ n := by omega
  have m2 : n ≤ 40 := by omega
  rw [hn]
  clear u1 a1 a2 u2 hn n1 n2
  have okl : okL L r = true := (okL_iff L r).2 ⟨by omega, by omega, r1, by omega⟩
  refine (least_yes L r n _ okl m1 m2).mono ?_
  rintro e w2 ⟨pay, hLst, p2, rfl, hK2⟩
  obtain ⟨er0, cn, bl0⟩ := loan_ok G1 G2 r1 (by omega) m1 m2 hLst p2
  have ROW := Lib.hid (fun k hk => loan_row (k := k) G1 r1 (by omega) er0 hk)
  have RY := Lib.hid (fun V => rows_yes L r pay V er0)
  clear okl hLst p2 er0
  go_wp2_with fail
  refine (RY.out _).mono ?_
  rintro e w3 ⟨a, c, rfl, hG, hK3⟩
  have HR := hG.arg
  obtain ⟨m, hm⟩ : ∃ m, cnt r pay 40 L = m := ⟨_, rfl⟩
  rw [hm] at cn bl0 ROW HR ⊢
  have HR := Lib.hid HR
  have BL0 := Lib.hid bl0
  have cn2 : (m : Int) ≤ (n : Int) := by omega
  have cn3 : decide ((n : Int) < (m : Int)) = false := by simpa using cn
  have m40 : m ≤ 40 := by omega
  have K3 := hK1.trans (hK2.trans hK3)
  clear hG hm RY bl0 hK1 hK2 hK3
  go_wp2_with fail
  refine (tplain_any _).mono ?_
  rintro e w4 ⟨q, rfl, hM, hK4⟩
  go_wp2_with fail
  refine (moved_any 99 0 L c10 c20 _ (by omega) (by omega) (by omega)).mono ?_
  rintro e w5 ⟨p, hp, rfl, hO, hK5⟩
  obtain ⟨ok, tp, st⟩ := LoanSt.first G1 G2
  have PO := Lib.hid (ky_post (c := 2) (n := 2) (hM.later hK5) (by decide) rfl (by decide) hO (mvL_ok (tc := c10) (fr := c20) (by decide +kernel) (by decide +kernel) (by decide) (by decide +kernel) (by decide +kernel) (by omega) (by omega) (by omega)).2.2.2.2.2 (Nat.le_refl 2) (by unfold maxLen; decide) ok)
  go_wp2_with fail
  refine PO.out.mono ?_
  rintro e w6 ⟨q3, rfl, hF, hK6⟩
  obtain ⟨b0, hb0⟩ : ∃ b0, poV topB ⟨kyS 99, 0, mvL c10 c20 L⟩ = b0 := ⟨_, rfl⟩
  rw [hb0] at hF tp st ⊢
  have V7 := Lib.hid (uv_new (w := w6) rfl q3 b0)
  have kX := Lib.hid ((Kept.refl w6).alloc (bkO q3 b0))
  have K36 := hK4.trans (hK5.trans hK6)
  have HR6 := Lib.hid (HR.out.later K36)
  have K6 := Lib.hid (K3.trans K36)
  have HM := Lib.hid hF.m
  have ST0 := Lib.hid (show LoanSt b0 (bal r pay L 0) 0 0 from st)
  have TP0 := Lib.hid tp
  clear hM hp hO ok tp st PO hF hb0 K36 K3 HR hK4 hK5 hK6 cn2 cn3
  go_wp2
  go_loopw [11, 68] (fun s11 i wr => ∃ (k : Nat) (qb : BkA) (b : Bk) (I : Int), k ≤ m ∧ i = .int .i64 k ∧ s11 = .int .i64 I ∧ VBk wr w6.heap.size qb b ∧ BkU w6 wr w6.heap.size qb b ∧ Hid (Tp b (fun j => j < k ∨ j = 99) (k + 1)) ∧ Hid (LoanSt b (bal r pay L k) I k) ∧ Kept w6 wr) (fun _ i _ => m - (intOf i).toNat)
  case atStart => exact ⟨0, q3, b0, 0, Nat.zero_le _, rfl, rfl, V7.out, .inl HM.out, TP0, ST0, kX.out⟩
  case round =>
    obtain ⟨k, qb, b, I, hk, rfl, rfl, hV, hBk, hT, hS, hK⟩ := hrel
    clear V7 kX HM ST0 TP0
    by_cases hlt : k < m
    · obtain ⟨p, rfl, hR⟩ := (HR6.out.later hK).at (by omega)
      obtain ⟨x1, x2, i1, i2, y0, y1⟩ := ROW.out k hlt
      have c0 : wr.cell? ⟨p, k * 3, none⟩ = some (.int .i64 (itR r (bal r pay L k))) := hR.c0 k hlt
      have c1 : wr.cell? ⟨p, k * 3 + 1, none⟩ = some (.int .i64 (bal r pay L k - bal r pay L (k + 1))) := hR.c1 k hlt
      have c2 : wr.cell? ⟨p, k * 3 + 2, none⟩ = some (.int .i64 (bal r pay L (k + 1))) := hR.c2 k hlt
      have plt := hR.lt
      obtain ⟨y, hy⟩ : ∃ y, bal r pay L (k + 1) = y := ⟨_, rfl⟩
      have HY := Lib.hid hy
      rw [hy] at y0 y1 c1 c2
      clear hy
      generalize bal r pay L k = x at *
      generalize itR r x = it at *
      obtain ⟨off, hoff⟩ : ∃ off, x - y = off := ⟨_, rfl⟩
      rw [hoff] at c1
      obtain ⟨ok, tp, st⟩ := hS.out.step hT.out (by omega) (by omega) y0 y1 i1 i2
      rw [hoff] at ok tp st
      have ST := Lib.hid st
      have TP := Lib.hid tp
      have OK := Lib.hid ok
      have g0 : (0 : Int) ≤ (k : Int) := by omega
      have g1 : (k : Int) < (m : Int) := by omega
      have o1 : 1 ≤ off := by omega
      have o2 : off ≤ 1000000000 := by omega
      have it2 : it ≤ 1000000000 := by omega
      have y2 : y ≤ 1000000000 := by omega
      have I0 := hS.out.i0
      have I1 := hS.out.i1
      have OKL := Lib.hid (loanL_ok o1 o2 i1 it2)
      clear hR hoff x1 x2 y1 i2 st tp ok
      have u1 : IntKind.i64.wrap ((k : Int) + 1) = (k : Int) + 1 := IntWalk.i64_in _ (by omega)
      have u3 : IntKind.i64.wrap (I + it) = I + it := IntWalk.i64_in _ (by omega)
      have u4 : IntKind.i64.wrap (-y) = -y := IntWalk.i64_in _ (by omega)
      go_wp2_with fail
      refine (moved_any k ((k : Int) + 1) off c20 c10 _ (by omega) (by omega) (by omega)).mono ?_
      rintro e w7 ⟨p7, hp7, rfl, hO7, hK7⟩
      have kR := (Kept.refl wr).alloc (.cells #[.int .i64 it, .int .i64 off, .int .i64 y] 65)
      have kE := (Kept.refl w7).alloc (.cells #[.string (kyS k), .int .i64 ((k : Int) + 1), .slice (some ⟨p7, 0, none⟩) 2 2] 31)
      have hR7 := (RwBx.new wr it off y 65 _ rfl).later hK7
      have HX7 := Lib.hid (WBx.new w7 (kyS k) ((k : Int) + 1) (.slice (some ⟨p7, 0, none⟩) 2 2) 31 _ rfl)
      have HW7 := Lib.hid ((kR.trans hK7).trans kE)
      have HO7 := Lib.hid (hO7.later kE)
      have HR7 := Lib.hid (hR7.later kE)
      have wx : wr.heap.size + 1 ≤ w7.heap.size := by have := hR7.1; omega
      have wp : wr.heap.size + 1 ≤ p7 := by simpa using hp7
      have wl : w6.heap.size < wr.heap.size := hV.box.lt
      clear hO7 hK7 hp7 kR kE c0 c1 c2 plt
      obtain ⟨r0', r1', r2', r3'⟩ := id hR7
      by_cases tx : 0 < it
      · have tx2 : decide (0 < it) = true := by simpa using tx
        obtain ⟨⟨y0', y1', y2', y3'⟩, f0, f1, f2⟩ := id HX7.out
        go_wp2_with (at_builtin; refine app_full rfl _ _ rfl (p := p7) (hb := w7.heap.size + 1) (l := mvL c20 c10 off) (z := (c50, it)) rfl rfl rfl ?_ ?_ ?_ (by decide) ?_)
        · exact (HO7.out.later ((Kept.refl _).alloc _)).row
        intro q8 c8 w8 hO8 hq8 hc8 hcm8 hK8
        have kL := (Kept.refl (w7.alloc (.cells #[.string (kyS k), .int .i64 ((k : Int) + 1), .slice (some ⟨p7, 0, none⟩) 2 2] 31))).alloc (.cells #[.string ⟨#[53, 48]⟩, .int .i64 it] 51)
        have hk8 := kL.trans hK8
        have hX8 := HX7.out.later hk8
        have hW8 := HW7.out.trans hk8
        have hR8 := HR7.out.later hk8
        have hx8 := hX8.box.lt
        have q8w : w7.heap.size + 1 ≤ q8 := by omega
        have q8l := hO8.row.lt
        have xq : w7.heap.size ≠ q8 := by omega
        have rq : wr.heap.size ≠ q8 := by omega
        have qr : q8 ≠ wr.heap.size := by omega
        have rx : wr.heap.size ≠ w7.heap.size := by omega
        clear kL hk8 hK8 HX7 HW7 HO7 HR7 y0' y1' y2' y3' f0 f1 f2 r0' r1' r2' r3'
        obtain ⟨⟨y0', y1', y2', y3'⟩, f0, f1, f2⟩ := id hX8
        obtain ⟨_, r0', r1', r2'⟩ := id hR8
        generalize hbx : w7.heap.size = bx at *
        go_wp2_with fail
        have hO9 := hO8.other (i := 2) (v := .slice (some ⟨q8, 0, none⟩) 3 c8) xq
        have hX9 := (hX8.set2U (u := .slice (some ⟨q8, 0, none⟩) 3 c8)).box
        have hR9 := hR8.other (r := bx) (i := 2) (u := .slice (some ⟨q8, 0, none⟩) 3 c8) (by omega)
        have hW9 := hW8.setAt (b := bx) (i := 2) (by omega) (.slice (some ⟨q8, 0, none⟩) 3 c8)
        clear hO8 hX8 hR8 hW8 y0' y1' y2' y3' f0 f1 f2 r0' r1' r2'
        generalize w8.setCell ⟨bx, 2, none⟩ (.slice (some ⟨q8, 0, none⟩) 3 c8) = W8 at *
        obtain ⟨z0, z1, z2, z3⟩ := id hX9
        obtain ⟨_, r0', r1', r2'⟩ := id hR9
        have qc : W8.cell? ⟨q8, 3, none⟩ = some (.int .i64 (-off)) := by have := hO9.row.c1 1 (by simp [mvL]); simpa [mvL] using this
        have qf : W8.frozen? ⟨q8, 3, none⟩ = false := hO9.free 3 (by simp [mvL])
        have q8l := hO9.row.lt
        have u6 : IntKind.i64.wrap (-off - it) = -off - it := IntWalk.i64_in _ (by omega)
        go_still_tail 10, (by kernel_rfl)
        change wpList _ _ _ _ _ W8.drew
        have kd := (Kept.refl W8).drew
        have hX10 := hX9.later kd
        have hO10 := hO9.later kd
        have hR10 := hR9.later kd
        have hW10 := hW9.trans kd
        clear kd hX9 hO9 hR9 hW9 qc qf q8l z0 z1 z2 z3 r0' r1' r2'
        generalize W8.drew = W9 at *
        have qc : W9.cell? ⟨q8, 3, none⟩ = some (.int .i64 (-off)) := by have := hO10.row.c1 1 (by simp [mvL]); simpa [mvL] using this
        have qf : W9.frozen? ⟨q8, 3, none⟩ = false := hO10.free 3 (by simp [mvL])
        have q8l := hO10.row.lt
        have LE : (mvL c20 c10 off ++ [(c50, it)]).set 1 (c10, -off - it) = loanL off it := by unfold loanL mvL; rw [if_pos tx]; rfl
        have hO11 := hO10.amt 1 (-off - it) (by simp [mvL])
        have hX11 := hX10.otherU (r := q8) (i := 3) (u := .int .i64 (-off - it)) (by omega)
        have hR11 := hR10.other (r := q8) (i := 3) (u := .int .i64 (-off - it)) (by omega)
        have hW11 := hW10.setAt (b := q8) (i := 3) (by omega) (.int .i64 (-off - it))
        rw [show ((mvL c20 c10 off ++ [(c50, it)])[1]'(by simp [mvL])).1 = c10 from rfl, LE] at hO11
        have HO9 := Lib.hid hO11
        have HX9 := Lib.hid hX11
        have HR9 := Lib.hid hR11
        have HW9 := Lib.hid hW11
        have HV9 := Lib.hid (hV.later HW9.out)
        have HMB := Lib.hid ((hBk.m hK).later HW9.out)
        have PO := Lib.hid (ky_post (c := c8) (n := 3) HMB.out (by omega) (by unfold loanL; rw [if_pos tx]; rfl) (by decide) HO9.out OKL.out.2.2.2.2.2 hc8 hcm8 OK.out)
        clear LE hO11 hX11 hR11 hW11 HMB hO10 hW10
        obtain ⟨x0, x1, x2, x3⟩ := id hX10
        obtain ⟨_, r0', r1', r2'⟩ := id hR10
        obtain ⟨z0, z1, z2, z3⟩ := id HX9.out
        obtain ⟨_, s0, s1, s2⟩ := id HR9.out
        obtain ⟨b0', b1, b2, b3⟩ := id HV9.out.box
        have qb1 : q8 ≠ bx := by omega
        have vq : w6.heap.size ≠ q8 := by omega
        have qv : q8 ≠ w6.heap.size := by omega
        clear hX10 hR10
        go_wp2_with fail
        refine PO.out.mono ?_
        rintro e w10 ⟨q3', rfl, hF, hK10⟩
        have hV10 := HV9.out.later hK10
        have hW10 := HW9.out.trans hK10
        have hR10 := HR9.out.later hK10
        have hFl := HW9.out.size
        obtain ⟨b', hb'⟩ : ∃ b', poV b ⟨kyS k, (k : Int) + 1, loanL off it⟩ = b' := ⟨_, rfl⟩
        rw [hb'] at hF TP ST ⊢
        have ob : balS c20 ((k : Int) + 1) b'.ens = -y := ST.out.owed _ (by omega)
        have ba := TP.out.ba (c := c20) (d := (k : Int) + 1) (by decide +kernel) (by omega) (by omega)
        have BA := Lib.hid (fun V (h : BkM V q3' b') => bal_yes q3' b' c20 ((k : Int) + 1) V h ba)
        rw [ob] at BA
        have hB := hF.set3 (r := w6.heap.size) (by omega) (.slice q3'.aa b'.acs.length q3'.ca) (.slice q3'.ae b'.ens.length q3'.ce) (.int .i64 b'.shut)
        have hKK := (hK.trans hW10).set3 (p := w6.heap.size) (Nat.le_refl _) (.slice q3'.aa b'.acs.length q3'.ca) (.slice q3'.ae b'.ens.length q3'.ce) (.int .i64 b'.shut)
        have hVV := uv_put (q' := q3') (b' := b') hV10
        have hRR := ((hR10.other (r := w6.heap.size) (i := 0) (u := .slice q3'.aa b'.acs.length q3'.ca) (by omega)).other (r := w6.heap.size) (i := 1) (u := .slice q3'.ae b'.ens.length q3'.ce) (by omega)).other (r := w6.heap.size) (i := 2) (u := .int .i64 b'.shut) (by omega)
        have BB := Lib.hid (show BkU w6 _ w6.heap.size q3' b' from .inr ⟨_, by omega, hB⟩)
        have VV := Lib.hid hVV
        have KK := Lib.hid hKK
        have RR := Lib.hid hRR
        clear hB hKK hVV hRR hR10 hF hb' hW10 hFl z0 z1 z2 z3 s0 s1 s2 b0' b1 b2 b3 PO HX9 HO9 HR9 HW9 HV9 hS hT ob ba
        obtain ⟨⟨b0', b1, b2, b3⟩, f0, f1, f2⟩ := id hV10
        obtain ⟨⟨v0, v1, v2, v3⟩, _, _, _⟩ := id VV.out
        go_wp2_with fail
        refine (BA.out _ (BB.out.m KK.out)).mono ?_
        rintro e w12 ⟨rfl, hK12⟩
        have BB2 := Lib.hid (BB.out.later hK12)
        have VV2 := Lib.hid (VV.out.later hK12)
        have KK2 := Lib.hid (KK.out.trans hK12)
        have hR12 := RR.out.later hK12
        clear BB VV KK RR hK12 BA b0' b1 b2 b3 f0 f1 f2 v0 v1 v2 v3 hV10
        obtain ⟨_, s0, s1, s2⟩ := id hR12
        go_wp2_with fail
        go_roundw
        case rel => exact ⟨k + 1, q3', b', I + it, by omega, by go_num, rfl, VV2.out, BB2.out, TP, by rw [HY.out]; exact ST, KK2.out⟩
        case measure => simp [intOf]; omega
      · have tx2 : decide (0 < it) = false := by simpa using tx
        have LE : mvL c20 c10 off = loanL off it := by unfold loanL mvL; rw [if_neg tx]
        generalize hbx : w7.heap.size = bx at *
        have HO9 := HO7
        rw [LE] at HO9
        have HX9 := Lib.hid HX7.out.box
        have HR9 := HR7
        have HW9 := HW7
        clear LE HO7 HX7 HW7 HR7
        have HV9 := Lib.hid (hV.later HW9.out)
        have HMB := Lib.hid ((hBk.m hK).later HW9.out)
        have PO := Lib.hid (ky_post (c := 2) (n := 2) HMB.out (by omega) (by unfold loanL; rw [if_neg tx]; rfl) (by decide) HO9.out OKL.out.2.2.2.2.2 (Nat.le_refl 2) (by unfold maxLen; decide) OK.out)
        clear HMB r0' r1' r2' r3'
        obtain ⟨z0, z1, z2, z3⟩ := id HX9.out
        obtain ⟨_, s0, s1, s2⟩ := id HR9.out
        obtain ⟨b0', b1, b2, b3⟩ := id HV9.out.box
        have vx0 : w6.heap.size ≠ bx := by omega
        go_wp2_with fail
        refine PO.out.mono ?_
        rintro e w10 ⟨q3', rfl, hF, hK10⟩
        have hV10 := HV9.out.later hK10
        have hW10 := HW9.out.trans hK10
        have hR10 := HR9.out.later hK10
        have hFl := HW9.out.size
        obtain ⟨b', hb'⟩ : ∃ b', poV b ⟨kyS k, (k : Int) + 1, loanL off it⟩ = b' := ⟨_, rfl⟩
        rw [hb'] at hF TP ST ⊢
        have ob : balS c20 ((k : Int) + 1) b'.ens = -y := ST.out.owed _ (by omega)
        have ba := TP.out.ba (c := c20) (d := (k : Int) + 1) (by decide +kernel) (by omega) (by omega)
        have BA := Lib.hid (fun V (h : BkM V q3' b') => bal_yes q3' b' c20 ((k : Int) + 1) V h ba)
        rw [ob] at BA
        have hB := hF.set3 (r := w6.heap.size) (by omega) (.slice q3'.aa b'.acs.length q3'.ca) (.slice q3'.ae b'.ens.length q3'.ce) (.int .i64 b'.shut)
        have hKK := (hK.trans hW10).set3 (p := w6.heap.size) (Nat.le_refl _) (.slice q3'.aa b'.acs.length q3'.ca) (.slice q3'.ae b'.ens.length q3'.ce) (.int .i64 b'.shut)
        have hVV := uv_put (q' := q3') (b' := b') hV10
        have hRR := ((hR10.other (r := w6.heap.size) (i := 0) (u := .slice q3'.aa b'.acs.length q3'.ca) (by omega)).other (r := w6.heap.size) (i := 1) (u := .slice q3'.ae b'.ens.length q3'.ce) (by omega)).other (r := w6.heap.size) (i := 2) (u := .int .i64 b'.shut) (by omega)
        have BB := Lib.hid (show BkU w6 _ w6.heap.size q3' b' from .inr ⟨_, by omega, hB⟩)
        have VV := Lib.hid hVV
        have KK := Lib.hid hKK
        have RR := Lib.hid hRR
        clear hB hKK hVV hRR hR10 hF hb' hW10 hFl z0 z1 z2 z3 s0 s1 s2 b0' b1 b2 b3 PO HX9 HO9 HR9 HW9 HV9 hS hT ob ba
        obtain ⟨⟨b0', b1, b2, b3⟩, f0, f1, f2⟩ := id hV10
        obtain ⟨⟨v0, v1, v2, v3⟩, _, _, _⟩ := id VV.out
        go_wp2_with fail
        refine (BA.out _ (BB.out.m KK.out)).mono ?_
        rintro e w12 ⟨rfl, hK12⟩
        have BB2 := Lib.hid (BB.out.later hK12)
        have VV2 := Lib.hid (VV.out.later hK12)
        have KK2 := Lib.hid (KK.out.trans hK12)
        have hR12 := RR.out.later hK12
        clear BB VV KK RR hK12 BA b0' b1 b2 b3 f0 f1 f2 v0 v1 v2 v3 hV10
        obtain ⟨_, s0, s1, s2⟩ := id hR12
        go_wp2_with fail
        go_roundw
        case rel => exact ⟨k + 1, q3', b', I + it, by omega, by go_num, rfl, VV2.out, BB2.out, TP, by rw [HY.out]; exact ST, KK2.out⟩
        case measure => simp [intOf]; omega
    · obtain rfl : k = m := by omega
      clear hlt
      have hM := hBk.m hK
      rw [BL0.out] at hS
      have tc := tcE_of (f := 0) (t := 50) hT.out.good ⟨by decide, by decide, by decide⟩
      have tc2 := tcE_of (f := 50) (t := 50) hT.out.good ⟨by decide, by decide, by decide⟩
      have PV : prV b 0 50 = -I := by unfold prV; rw [hT.out.acs, hS.out.p3, hS.out.p4]; omega
      have I0 := hS.out.i0
      have I1 := hS.out.i1
      have u7 : IntKind.i64.wrap (-I) = -I := IntWalk.i64_in _ (by omega)
      have B1 := Lib.hid (fun V (h : BkM V qb b) => sheet_yes qb b 50 V h tc2)
      have B3 := Lib.hid (fun V (h : BkM V qb b) => profit_yes qb b 0 50 V h tc)
      rw [hT.out.acs, hS.out.p0, hS.out.p1, show -(-(0 : Int)) = 0 by omega, show (0 : Int) - I = -I by omega] at B1
      rw [PV] at B3
      have HM := Lib.hid hM
      have HV := Lib.hid hV
      have KF := Lib.hid (K6.out.trans hK)
      obtain ⟨b0', b1, b2, b3⟩ := id hV.box
      clear tc tc2 PV hM hT hS hBk
      go_wp2_with fail
      refine (B1.out _ HM.out).mono ?_
      rintro e w7 ⟨rfl, hK7⟩
      clear b0' b1 b2 b3
      obtain ⟨b0', b1, b2, b3⟩ := id (HV.out.later hK7).box
      go_wp2_with fail
      refine (B3.out _ (HM.out.later hK7)).mono ?_
      rintro e w8 ⟨rfl, hK8⟩
      go_wp2
      go_ret
      exact ⟨rfl, KF.out.trans (hK7.trans hK8)⟩
end Go.Proofs.Ytjfflnkocajkeaa
