/-
  The law SeatsScale returns true: votes that are all so many times as many make no difference; nor do some without votes, behind all. Condition: the row's length is within its capacity.
-/
import Derived.Test.YtpkdknddncnceaaDWalkC
import Derived.Test.YtpkdknddncnceaaDMathB
import Derived.Test.YtpkdknddncnceaaDGrow
import Derived.Test.YtpkdknddncnceaaDWalkF
namespace Go.Proofs.Ytpkdknddncnceaa
open Go.RowKit

theorem scale_ok {v : Nat → Int} {n : Nat} {s k : Int} (h : TotOk s n v) (hv : ∀ i, i < n → v i < 1000) (k0 : 1 ≤ k) (k1 : k ≤ 1000) : TotOk s n (fun j => v j * k) := by
  have w : WtOk (fun j => v j * k) n := by
    intro j hj
    have a := h.wts j hj
    have b := hv j hj
    refine ⟨Int.mul_nonneg a.1 (by omega), ?_⟩
    have : v j * k ≤ 1000 * 1000 := Int.mul_le_mul (by omega) (by omega) (by omega) (by omega)
    show v j * k ≤ 1000000
    omega
  have t := sum_le (fun j => v j * k) n 1000000 (fun j hj => (w j hj).2)
  have n40 := h.n40
  refine ⟨h.n1, n40, h.N0, h.N1, w, ?_, by omega⟩
  rw [sum_mulr]
  exact Int.mul_pos h.T0 (by omega)
theorem behind_ok {v : Nat → Int} {n : Nat} {s : Int} (h : TotOk s n v) (n39 : n ≤ 39) : TotOk s (n + 1) (up v n 0) := by
  have S : sumTo (up v n 0) (n + 1) = sumTo v n := by
    rw [sumTo, up_same, sumTo_congr n (h := v) (fun j hj => up_ne v 0 (by omega))]; omega
  refine ⟨by omega, by omega, h.N0, h.N1, ?_, by rw [S]; exact h.T0, by rw [S]; exact h.T1⟩
  intro j hj
  unfold up
  split
  · omega
  · exact h.wts j (by omega)
theorem qt_scale {v : Nat → Int} {n : Nat} {s k : Int} (k0 : 1 ≤ k) : tab n (qt s (fun j => v j * k) (sumTo (fun j => v j * k) n)) = tab n (qt s v (sumTo v n)) := by
  apply tab_congr
  intro j _
  unfold qt
  rw [sum_mulr, ← Int.mul_assoc]
  exact Int.mul_ediv_mul_of_pos_left _ _ (by omega)
theorem zeros_of_sum (v : Nat → Int) (n : Nat) (s : Int) (h : WtOk v n) (n40 : n ≤ 40) (s0 : 0 ≤ s) (s1 : s ≤ 1000) (he : totE s n v ≠ 0) : totE s n v = 6 ∧ sumTo v n = 0 := by
  by_cases z : sumTo v n = 0
  · refine ⟨?_, z⟩
    unfold totE
    rw [if_neg (by omega), if_neg (by rw [(okWts_iff v n).2 h]; intro q; rcases q with q | q | q
                                      · omega
                                      · omega
                                      · cases q), if_pos z]
  · exfalso
    apply he
    have a := sum_nonneg v n (fun i hi => (h i hi).1)
    have b := sum_le v n 1000000 (fun i hi => (h i hi).2)
    have n1 : 1 ≤ n := by
      by_cases c : n = 0
      · subst c; simp [sumTo] at z
      · omega
    exact (⟨n1, n40, s0, s1, h, by omega, by omega⟩ : TotOk s n v).err
theorem behind_tab {u : Int} {g : Nat → Int} {m s : Nat} (h : TotOk (s : Int) m g) : tab (m + 1) (dl u (up g m 0) (m + 1) s) = tab (m + 1) (up (dl u g m s) m 0) := by
  apply tab_congr
  intro j hj
  have c : ∀ q, q < m → up g m 0 q = g q := fun q hq => up_ne g 0 (by omega)
  rw [dl_behind u (up g m 0) m (up_same _ _ _)]
  by_cases e : j = m
  · subst e
    rw [up_same]
    refine dl_behind0 (fun q hq => ?_) (up_same _ _ _) ?_ s
    · rw [c q hq]; exact (h.wts q hq).1
    · rw [sumTo_congr j c]; exact h.T0
  · rw [up_ne _ _ e]
    exact dl_congr u _ _ m c s j (by omega)
/-- The talkeep sum of a slice that came in. -/
theorem sumArg_any (a : Option Addr) (g : Nat → Int) (n cap : Nat) (w : World) (hn : n ≤ 1000) (hg : ∀ j, j < n → -2000000000000 ≤ g j ∧ g j ≤ 2000000000000) (hA : Arg w a n g) :
    Calls Try.prog 17 #[.slice a n cap] w fun e w' => e = .returned (.int .i64 (sumTo g n)) ∧ w = w' := by
  rcases hA with rfl | ⟨p, off, rfl, hR⟩
  · go_enter Try.func17, Try.ntmps17
    go_wp2
    go_loop [3, 8] (fun s i => i = .int .i64 0 ∧ s = .int .i64 0) (fun _ _ => 0)
    case atStart => exact ⟨rfl, rfl⟩
    case round =>
      obtain ⟨rfl, rfl⟩ := hrel
      go_wp2
      go_ret
      exact ⟨rfl, rfl⟩
  · exact sum_any g p off n cap w hn hg hR
set_option maxRecDepth 100000 in
set_option maxHeartbeats 4000000 in
theorem seatsScale_walk (way N : Int) (a : Option Addr) (n cap : Nat) (v : Nat → Int) (K : Int) (w : World) (hn : n ≤ 4000000000000000000) (hA : Arg w a n v) (hcap : n ≤ cap) :
    Calls Try.prog 11 #[.int .i64 way, .int .i64 N, .slice a n cap, .int .i64 K] w fun e w' => e = .returned (.bool true) ∧ Kept w w' := by
  go_enter Try.func11, Try.ntmps11
  go_wp2_with fail
  have h3 := (Own.lit (w := w) (l := [0, 1]) (t := 3) rfl).rd
  refine (deal_lit 0 1 2 [0, 1] [0, 1] _ _ _ (by decide) (by decide) (by decide) (by decide) (by decide) h3).mono ?_
  rintro e w1 ⟨p1, hp1, rfl, hO1, hK1⟩
  have hKa := ((Kept.refl w).alloc _).trans hK1
  have hQ := (Own.lit (w := w1) (l := [0, 1]) (t := 3) rfl).rd
  clear h3 hK1 hp1
  go_wp2_with fail
  refine (equal_lit [0, 1] 2 _ _ _ _ _ (by decide) (by decide) (hO1.rd.later ((Kept.refl w1).alloc _)) hQ).mono ?_
  rintro e w2 ⟨rfl, hd⟩
  have hK2 := (hKa.alloc _).trans hd.kept
  clear hO1 hKa hd hQ
  have hA2 := hA.later hK2
  clear hA
  go_wp2_with fail
  refine (within_any _ _ _ (by omega) (by omega)).mono ?_
  rintro e w3 ⟨u, u0, u3, rfl, rfl⟩
  go_wp2_with fail
  refine (within_any _ _ _ (by omega) (by omega)).mono ?_
  rintro e w3 ⟨s, s0, s3, rfl, rfl⟩
  obtain ⟨s, rfl⟩ := Int.eq_ofNat_of_zero_le s0
  go_wp2_with fail
  refine (within_any _ _ _ (by omega) (by omega)).mono ?_
  rintro e w3 ⟨k, k0, k3, rfl, rfl⟩
  have h2 : u ≤ 2 := by omega
  go_wp2_with fail
  refine (weights_any _ _ _ v _ hn hcap hA2).mono ?_
  rintro e w3 ⟨m0, ad, cp, g, m40, rfl, hG, hg, hcp, hK⟩
  have hK3 := hK2.trans hK
  have HG := Lib.hid hg
  clear hK2 hA2 hK hg
  have hs : ∃ m : Nat, m ≤ m0 ∧ m ≤ 39 ∧ m = (if m0 ≤ 39 then m0 else 39) := ⟨_, by split <;> omega, by split <;> omega, rfl⟩
  obtain ⟨m, mm, m39, em⟩ := hs
  have hGm : Arg w3 ad m g := by
    rcases hG with h | ⟨p, off, rfl, hR⟩
    · exact .inl (by omega)
    · exact .inr ⟨p, off, rfl, hR.lt, fun j hj => by
        rw [tab_len] at hj
        have := hR.cell j (by rw [tab_len]; omega)
        rw [tab_get] at this ⊢; exact this⟩
  have EM := Lib.hid em
  have HW : Hid (WtOk g m) := fun i hi => by have := HG.out i (by omega); omega
  clear hG em
  go_upto_region 6 with (fail)
  go_cut [11] (fun s11 wx => s11 = .slice ad m cp ∧ wx = w3)
  case first =>
    go_wp2
    all_goals go_meet
    · exact ⟨by rw [show m = 39 by rw [EM.out]; split <;> omega], rfl⟩
    · exact ⟨by rw [show m = m0 by rw [EM.out]; split <;> omega], rfl⟩
  case rest =>
    obtain ⟨rfl, rfl⟩ := hcut
    have HG2 : Hid (∀ i, i < m → g i < 1000) := fun i hi => (HG.out i (by omega)).2
    have mcp : m ≤ cp := by omega
    clear mm hcp EM HG
    clear m40
    by_cases he : totE s m g = 0
    · have ok := totE_tot he
      have n1 := ok.n1
      have OK := Lib.hid ok
      obtain ⟨gp, goff, rfl, hR⟩ := hGm.at n1
      clear he ok hGm
      go_wp2_with fail
      refine (deal_yes u s _ m _ g _ (Arg.of hR) u0 h2 OK.out).mono ?_
      rintro e w4 ⟨p, hp, rfl, hO, hK⟩
      have hK4 := hK3.trans hK
      have hR4 := hR.later hK
      have hp0 : w.heap.size ≤ p := Nat.le_trans hK3.size hp
      clear hK3 hR hK hp
      have kk : ∃ f : Int, f = 1 + k := ⟨_, rfl⟩
      obtain ⟨f, hf⟩ := kk
      rw [← hf]
      have f1 : 1 ≤ f := by omega
      have f2 : f ≤ 1000 := by omega
      clear hf k0 k3
      have OK2 := Lib.hid (scale_ok OK.out HG2.out f1 f2)
      have OK3 := Lib.hid (behind_ok OK.out m39)
      have ES := Lib.hid (dl_scale u g m f (by omega) s)
      have EB := Lib.hid (behind_tab (u := u) OK.out)
      have EQ := Lib.hid (qt_scale (v := g) (n := m) (s := (s : Int)) f1)
      go_wp2_with fail
      go_loopw [14, 70] (fun vv i wr => ∃ j : Nat, j ≤ m ∧ i = .int .i64 j ∧ Gr w4.heap.size wr vv j (fun t => g t * f) ∧ Kept w4 wr) (fun _ i _ => (m - intOf i).toNat)
      case atStart => exact ⟨0, by omega, rfl, Gr.nil _ _ _, Kept.refl _⟩
      case round =>
        obtain ⟨j, hj, rfl, hG, hK⟩ := hrel
        by_cases hlt : j < m
        · have hc := (hR4.later hK).cell j (by rw [tab_len]; exact hlt)
          rw [tab_get] at hc
          have gb := OK.out.wts j hlt
          have gb2 := HG2.out j hlt
          have m0 : 0 ≤ g j * f := Int.mul_nonneg gb.1 (by omega)
          have m1 : g j * f ≤ 1000 * 1000 := Int.mul_le_mul (by omega) (by omega) (by omega) (by omega)
          have CG := Lib.hid (fun t => show up (fun t => g t * f) j (g j * f) t = g t * f by unfold up; split <;> simp_all)
          go_wp2_with (at_builtin; refine app_one rfl _ _ rfl (B := w4.heap.size) (z := g j * f) rfl rfl (hG.alloc _) (by simp) (by omega) (by have := hK.size; simp; omega) ?_)
          intro v' w5 hG' hgrow _
          have hK5 := (hG.alloc _).below (Nat.le_refl _) (hK.alloc _) hgrow
          have hG5 := hG'.congr (h := fun t => g t * f) (fun t _ => CG.out t)
          clear hgrow hG hc hG' hK CG
          go_wp2
          go_roundw
          case rel => exact ⟨j + 1, by omega, by go_num, hG5, hK5⟩
          case measure => simp [intOf]; omega
        · obtain rfl : j = m := by omega
          obtain ⟨q, c, rfl, hq⟩ := hG.form n1
          have hM := hG.toOwn.rd
          have hKe := hK4.trans hK
          have hRe := hR4.later hK
          have hXe := hO.rd.later hK
          clear hlt hG hK hK4 hR4 hO
          generalize hYY : dl u g j s = x at *
          have HYY := Lib.hid hYY
          clear hYY
          go_wp2_with fail
          refine (deal_yes u s _ j _ (fun t => g t * f) _ (Arg.of hM) u0 h2 OK2.out).mono ?_
          rintro e w6 ⟨yp, hyp, rfl, hY, hK⟩
          rw [ES.out] at hY
          have hK6 := hKe.trans hK
          have hR6 := hRe.later hK
          have hX6 := hXe.later hK
          have hM6 := hM.later hK
          have hY6 := hY.rd
          clear hKe hRe hXe hM hY hK hyp hq
          go_wp2_with fail
          refine (clone_any gp goff j _ g _ n1 (by omega) hR6).mono ?_
          rintro e w7 ⟨cq, cc, hcq, rfl, hC, hK⟩
          have HKs := Lib.hid hK
          have sz := hK.size
          clear hK hcq
          go_wp2_with (at_builtin; refine app_one rfl _ _ rfl (B := w6.heap.size) (z := 0) rfl rfl (hC.alloc _) (by simp) (by omega) (by simp; omega) ?_)
          intro v' w8 hG8 hgrow _
          have hKg := (hC.alloc _).below (Nat.le_refl _) (HKs.out.alloc _) hgrow
          obtain ⟨zq, zc, rfl, _⟩ := hG8.form (by omega)
          have hZ := hG8.toOwn.rd
          have hK8 := hK6.trans hKg
          have hR8 := hR6.later hKg
          have hX8 := hX6.later hKg
          have hM8 := hM6.later hKg
          have hY8 := hY6.later hKg
          clear hK6 hR6 hX6 hM6 hY6 hKg hgrow hC hG8 HKs sz
          go_wp2_with fail
          refine (deal_yes u s _ (j + 1) _ (up g j 0) _ (Arg.of hZ) u0 h2 OK3.out).mono ?_
          rintro e w9 ⟨zp, hzp, rfl, hZZ, hK⟩
          rw [EB.out] at hZZ
          have hK9 := hK8.trans hK
          have hR9 := hR8.later hK
          have hX9 := hX8.later hK
          have hM9 := hM8.later hK
          have hY9 := hY8.later hK
          have hZ9 := hZZ.rd
          clear hK8 hR8 hX8 hM8 hY8 hK hzp hZZ hZ
          go_wp2_with fail
          refine (quotas_yes s _ j _ g _ (Arg.of hR9) OK.out).mono ?_
          rintro e wa ⟨q1, hq1, rfl, hQ1, hK⟩
          have hKa := hK9.trans hK
          have hXa := hX9.later hK
          have hMa := hM9.later hK
          have hYa := hY9.later hK
          have hZa := hZ9.later hK
          clear hK9 hR9 hX9 hM9 hY9 hK hZ9 hq1
          go_wp2_with fail
          refine (quotas_yes s _ j _ (fun t => g t * f) _ (Arg.of hMa) OK2.out).mono ?_
          rintro e wb ⟨q2, hq2, rfl, hQ2, hK⟩
          rw [EQ.out] at hQ2
          have hKb := hKa.trans hK
          have hXb := hXa.later hK
          have hYb := hYa.later hK
          have hZb := hZa.later hK
          have hP1 := hQ1.rd.later hK
          have hP2 := hQ2.rd
          generalize qt (s : Int) g (sumTo g j) = qq at *
          clear hKa hXa hMa hYa hZa hK hq2 hQ1 hQ2
          go_wp2_with fail
          refine (equal_yes x p 0 _ yp 0 _ j _ (by omega) hXb hYb).mono ?_
          rintro e wc ⟨rfl, hd⟩
          have hKc := hKb.trans hd.kept
          have hXc := hXb.later hd.kept
          have hZc := hZb.later hd.kept
          have hP1c := hP1.later hd.kept
          have hP2c := hP2.later hd.kept
          clear hKb hXb hYb hZb hP1 hP2 hd
          go_wp2_with fail
          refine (clone_any p 0 j _ x _ n1 (by omega) hXc).mono ?_
          rintro e we ⟨cq2, cc2, hcq, rfl, hC, hK⟩
          have HKs := Lib.hid hK
          have sz := hK.size
          clear hK hcq
          go_wp2_with (at_builtin; refine app_oneG rfl _ _ rfl (B := wc.heap.size) (z := 0) rfl rfl (hC.alloc _) (by simp) (by omega) (by simp; omega) ?_)
          intro v' wf hG8 hgrow _
          have hKg := (hC.alloc _).below (Nat.le_refl _) (HKs.out.alloc _) hgrow
          obtain ⟨eq, ec, rfl, _⟩ := hG8.form (by omega)
          have hE := hG8.toOwn.rd
          have hKf := hKc.trans hKg
          have hZf := hZc.later hKg
          have hP1f := hP1c.later hKg
          have hP2f := hP2c.later hKg
          clear hKc hXc hZc hP1c hP2c hKg hgrow hC hG8 HKs sz
          go_wp2_with fail
          refine (equal_yes (up x j 0) eq 0 _ zp 0 _ (j + 1) _ (by omega) hE hZf).mono ?_
          rintro e wg ⟨rfl, hd⟩
          have hKg := hKf.trans hd.kept
          have hP1g := hP1f.later hd.kept
          have hP2g := hP2f.later hd.kept
          clear hKf hZf hP1f hP2f hd hE
          go_wp2_with fail
          refine (equal_yes qq q1 0 _ q2 0 _ j _ (by omega) hP1g hP2g).mono ?_
          rintro e wh ⟨rfl, hd⟩
          have hKh := hKg.trans hd.kept
          clear hKg hP1g hP2g hd
          go_wp2
          go_ret
          exact ⟨rfl, hKh⟩
    · have Z := zeros_of_sum g m s HW.out (by omega) (by omega) (by omega) he
      have D := Lib.hid (show dealE u s m g = 6 by rw [dealE_tot u0 h2]; exact Z.1)
      have SZ := Lib.hid Z.2
      clear Z he
      go_wp2_with fail
      refine (deal_no u s _ m _ g _ (by omega) hGm (by rw [D.out]; decide)).mono ?_
      rintro e w4 ⟨rfl, rfl⟩
      rw [D.out]
      go_wp2_with fail
      refine (sumArg_any _ g m _ _ (by omega) (fun j hj => by have := HW.out j hj; omega) hGm).mono ?_
      rintro e w4 ⟨rfl, rfl⟩
      rw [SZ.out]
      go_wp2
      go_ret
      exact ⟨rfl, hK3⟩

end Go.Proofs.Ytpkdknddncnceaa
