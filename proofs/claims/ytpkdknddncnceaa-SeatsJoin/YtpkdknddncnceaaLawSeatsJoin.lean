/-
  The law SeatsJoin returns true: of Jefferson two who join have no fewer seats than both had; of Adams no more. No condition.
-/
import Derived.Test.YtpkdknddncnceaaDWalkC
import Derived.Test.YtpkdknddncnceaaDMathB
import Derived.Test.YtpkdknddncnceaaDGrow
namespace Go.Proofs.Ytpkdknddncnceaa
open Go.RowKit

theorem join_ok {v : Nat → Int} {n i k : Nat} {s a b : Int} (h : TotOk s n v) (hi : i < n) (hk : k < n) (ik : i ≠ k) (e : a + b = v i + v k) (a0 : 0 ≤ a) (a1 : a ≤ 1000000) (b0 : 0 ≤ b) (b1 : b ≤ 1000000) : TotOk s n (up (up v i a) k b) := by
  have S : sumTo (up (up v i a) k b) n = sumTo v n := by
    rw [sumTo_up _ n k hk, sumTo_up _ n i hi, up_ne _ _ (fun e => ik e.symm)]; omega
  refine ⟨h.n1, h.n40, h.N0, h.N1, ?_, by rw [S]; exact h.T0, by rw [S]; exact h.T1⟩
  intro j hj
  unfold up
  split
  · omega
  · split
    · omega
    · exact h.wts j hj
set_option maxRecDepth 100000 in
set_option maxHeartbeats 4000000 in
theorem seatsJoin_walk (N : Int) (a : Option Addr) (n cap : Nat) (v : Nat → Int) (I B : Int) (w : World) (hn : n ≤ 4000000000000000000) (hA : Arg w a n v) :
    Calls Try.prog 9 #[.int .i64 N, .slice a n cap, .int .i64 I, .int .i64 B] w fun e w' => e = .returned (.bool true) ∧ Kept w w' := by
  go_enter Try.func9, Try.ntmps9
  go_wp2_with fail
  have h3 := (Own.lit (w := w) (l := [3, 3]) (t := 3) rfl).rd
  refine (deal_lit 0 2 2 [3, 3] [1, 1] _ _ _ (by decide) (by decide) (by decide) (by decide) (by decide) h3).mono ?_
  rintro e w1 ⟨p1, hp1, rfl, hO1, hK1⟩
  have hKa := ((Kept.refl w).alloc _).trans hK1
  have hQ := (Own.lit (w := w1) (l := [1, 1]) (t := 3) rfl).rd
  clear h3 hK1 hp1
  go_wp2_with fail
  refine (equal_lit [1, 1] 2 _ _ _ _ _ (by decide) (by decide) (hO1.rd.later ((Kept.refl w1).alloc _)) hQ).mono ?_
  rintro e w2 ⟨rfl, hd⟩
  have hK2 := (hKa.alloc _).trans hd.kept
  clear hO1 hKa hd hQ
  have hA2 := hA.later hK2
  clear hA
  go_wp2_with fail
  refine (within_any _ _ _ (by omega) (by omega)).mono ?_
  rintro e w3 ⟨s, s0, s3, rfl, rfl⟩
  obtain ⟨s, rfl⟩ := Int.eq_ofNat_of_zero_le s0
  by_cases he : totE s n v = 0
  · have ok := totE_tot he
    have n40 := ok.n40
    have n1 := ok.n1
    have OK := Lib.hid ok
    clear he ok
    go_wp2_with fail
    refine (deal_yes 0 s _ n _ v _ hA2 (by decide) (by decide) OK.out).mono ?_
    rintro e w3 ⟨p, hp, rfl, hO, hK⟩
    have hK3 := hK2.trans hK
    have hA3 := hA2.later hK
    clear hK2 hA2 hK hp
    go_wp2_with fail
    refine (deal_yes 2 s _ n _ v _ hA3 (by decide) (by decide) OK.out).mono ?_
    rintro e w4 ⟨q, hq, rfl, hO2, hK⟩
    have hK4 := hK3.trans hK
    have HX := Lib.hid (hO.later hK).rd
    have HY := Lib.hid hO2.rd
    have hA4 := hA3.later hK
    obtain ⟨vp, off, rfl, hR⟩ := hA4.at n1
    have F1 := Lib.hid (dl_fr (way := 0) (fun q hq => (OK.out.wts q hq).1) OK.out.T0 s)
    have F2 := Lib.hid (dl_fr (way := 2) (fun q hq => (OK.out.wts q hq).1) OK.out.T0 s)
    have BX := Lib.hid (fun j => dl_nn 0 v n s j)
    have BY := Lib.hid (fun j => dl_nn 2 v n s j)
    generalize dl 0 v n s = x at *
    generalize dl 2 v n s = y at *
    clear hK3 hA3 hK hq hO hO2 hA4
    by_cases two : n < 2
    · have t1 : decide (n < 2) = true := by simpa using two
      have t2 : decide ((n : Int) < 2) = true := by simp; omega
      go_wp2
      go_ret
      exact ⟨rfl, hK4⟩
    · have t1 : decide (n < 2) = false := by simpa using two
      have t2 : decide ((n : Int) < 2) = false := by simp; omega
      clear two
      go_wp2_with fail
      refine (within_any _ _ _ (by omega) (by omega)).mono ?_
      rintro e w5 ⟨i, i0, i3, rfl, rfl⟩
      obtain ⟨i, rfl⟩ := Int.eq_ofNat_of_zero_le i0
      go_wp2_with fail
      refine (within_any _ _ _ (by omega) (by omega)).mono ?_
      rintro e w5 ⟨k, k0, k3, rfl, rfl⟩
      obtain ⟨k, rfl⟩ := Int.eq_ofNat_of_zero_le k0
      by_cases ik : i = k
      · subst ik
        have eb : ((i : Int) == (i : Int)) = true := by simp
        go_wp2_with fail
        go_quiet (fail)
        go_wp2
        go_ret
        exact ⟨rfl, hK4.drewN _⟩
      have eb : ((i : Int) == (k : Int)) = false := by rw [beq_eq_false_iff_ne]; omega
      rcases (show i < k ∨ k < i by omega) with hik | hik
      · skip
        have hlt : i < k := hik
        have hIn : i < n := by omega
        have hKn : k < n := by omega
        have d1 : decide ((i : Int) < (k : Int)) = true := by simp; omega
        have d2 : decide ((k : Int) < (i : Int)) = false := by simp; omega
        have d3 : decide ((i : Int) ≤ (k : Int)) = true := by simp; omega
        have d4 : decide ((k : Int) ≤ (i : Int)) = false := by simp; omega
        have hc1 := hR.cell i (by rw [tab_len]; exact hIn)
        have hc2 := hR.cell k (by rw [tab_len]; exact hKn)
        rw [tab_get] at hc1 hc2
        have i1 : (i : Int) < (n : Int) := by omega
        have k1 : (k : Int) < (n : Int) := by omega
        have vi := OK.out.wts i hIn
        have vk := OK.out.wts k hKn
        have wr : IntKind.i64.wrap (v i + v k) = v i + v k := IntWalk.i64_in _ (by have := OK.out.wts i (by omega); have := OK.out.wts k (by omega); omega)
        by_cases big : 1000000 < v i + v k
        · have bd : decide (1000000 < v i + v k) = true := by simpa using big
          clear big hik
          go_wp2_with fail
          go_quiet (fail)
          clear wr
          go_wp2
          go_ret
          exact ⟨rfl, hK4.drewN _⟩
        · have bd : decide (1000000 < v i + v k) = false := by simpa using big
          have sm : v i + v k ≤ 1000000 := by omega
          clear big hik
          go_wp2_with fail
          go_quiet (fail)
          clear wr
          have hRq := hR.drewN nq
          have hK5 := hK4.drewN nq
          have hPx := HX.out.drewN nq
          have hPy := HY.out.drewN nq
          clear hR hK4 HX HY hc1 hc2
          generalize World.drewN w4 nq = w5 at *
          go_wp2_with fail
          refine (clone_any vp off n _ v _ (by omega) (by omega) hRq).mono ?_
          rintro e w6 ⟨f, fc, hf, rfl, hF, hK⟩
          have hR6 := hRq.later hK
          have hK6 := hK5.trans hK
          have hX6 := hPx.later hK
          have hY6 := hPy.later hK
          have hFO := hF.toOwn
          have hvf : vp < f := by have := hRq.lt; omega
          have hpf : p < f := by have := hPx.lt; omega
          have hqf : q < f := by have := hPy.lt; omega
          have hf0 : w.heap.size ≤ f := Nat.le_trans hK5.size hf
          clear hK hF hRq hK5 hPx hPy hf
          go_wp2_with fail
          refine (clone_any vp off n _ v _ (by omega) (by omega) hR6).mono ?_
          rintro e w7 ⟨b, bc, hb, rfl, hB, hK⟩
          have hR7 := hR6.later hK
          have hK7 := hK6.trans hK
          have hX7 := hX6.later hK
          have hY7 := hY6.later hK
          have hF7 := hFO.later hK
          have hBO := hB.toOwn
          have hfb : f < b := by have := hFO.lt; omega
          have hb0 : w.heap.size ≤ b := Nat.le_trans hK6.size hb
          clear hK hB hR6 hK6 hX6 hY6 hFO hb
          have hc1 := hR7.cell i (by rw [tab_len]; exact hIn)
          have hc2 := hR7.cell k (by rw [tab_len]; exact hKn)
          have e1 := hF7.cell i (by rw [tab_len]; exact hIn)
          have e2 := hF7.cell k (by rw [tab_len]; exact hKn)
          have g1 := hF7.free i (by rw [tab_len]; exact hIn)
          have g2 := hF7.free k (by rw [tab_len]; exact hKn)
          rw [tab_get] at hc1 hc2 e1 e2
          have NF := Lib.hid ((hF7.set i (v i + v k) (by rw [tab_len]; exact hIn)).set k 0 (by rw [List.length_set, tab_len]; exact hKn))
          have NX := Lib.hid ((hX7.other (r := f) (i := i) (v := .int .i64 (v i + v k)) (by omega)).other (r := f) (i := k) (v := .int .i64 0) (by omega))
          have NY := Lib.hid ((hY7.other (r := f) (i := i) (v := .int .i64 (v i + v k)) (by omega)).other (r := f) (i := k) (v := .int .i64 0) (by omega))
          have NR := Lib.hid ((hR7.other (r := f) (i := i) (v := .int .i64 (v i + v k)) (by omega)).other (r := f) (i := k) (v := .int .i64 0) (by omega))
          have NB := Lib.hid ((hBO.other (r := f) (i := i) (v := .int .i64 (v i + v k)) (by omega)).other (r := f) (i := k) (v := .int .i64 0) (by omega))
          have NK := Lib.hid ((hK7.setAt (i := i) hf0 (.int .i64 (v i + v k))).setAt (i := k) hf0 (.int .i64 0))
          have ne1 : vp ≠ f := by omega
          have ne2 : f ≠ vp := by omega
          have ne3 : i ≠ k := by omega
          have ne4 : k ≠ i := by omega
          clear hR7 hK7 hX7 hY7 hF7 hBO
          go_wp2_with fail
          go_cut [15] (fun s15 wx => s15 = .slice (some ⟨f, 0, none⟩) n fc ∧ Own wx f (tab n (up (up v i (v i + v k)) k 0)) ∧ Rd wx p 0 (tab n x) ∧ Rd wx q 0 (tab n y) ∧ Rd wx vp off (tab n v) ∧ Own wx b (tab n v) ∧ Kept w wx)
          case first =>
            go_region
            all_goals go_wp2
            all_goals go_meet
            all_goals exact ⟨rfl, by have := NF.out; rw [tab_set, tab_set] at this; exact this.drew, NX.out.drewN 1, NY.out.drewN 1, NR.out.drewN 1, NB.out.drew, NK.out.drew⟩
          case rest =>
            clear NF NX NY NR NB NK hc1 hc2 e1 e2 g1 g2
            obtain ⟨rfl, hF, hX, hY, hR, hB, hK⟩ := hcut
            have hc1 := hR.cell i (by rw [tab_len]; exact hIn)
            have hc2 := hR.cell k (by rw [tab_len]; exact hKn)
            have e1 := hB.cell i (by rw [tab_len]; exact hIn)
            have e2 := hB.cell k (by rw [tab_len]; exact hKn)
            have g1 := hB.free i (by rw [tab_len]; exact hIn)
            have g2 := hB.free k (by rw [tab_len]; exact hKn)
            rw [tab_get] at hc1 hc2 e1 e2
            have NB := Lib.hid ((hB.set i 0 (by rw [tab_len]; exact hIn)).set k (v i + v k) (by rw [List.length_set, tab_len]; exact hKn))
            have NX := Lib.hid ((hX.other (r := b) (i := i) (v := .int .i64 0) (by omega)).other (r := b) (i := k) (v := .int .i64 (v i + v k)) (by omega))
            have NY := Lib.hid ((hY.other (r := b) (i := i) (v := .int .i64 0) (by omega)).other (r := b) (i := k) (v := .int .i64 (v i + v k)) (by omega))
            have NF := Lib.hid ((hF.other (r := b) (i := i) (v := .int .i64 0) (by omega)).other (r := b) (i := k) (v := .int .i64 (v i + v k)) (by omega))
            have NK := Lib.hid ((hK.setAt (i := i) hb0 (.int .i64 0)).setAt (i := k) hb0 (.int .i64 (v i + v k)))
            have ne5 : vp ≠ b := by omega
            have ne6 : b ≠ vp := by omega
            clear hR hK hX hY hF hB
            go_wp2_with fail
            go_cut [16] (fun s16 wx => s16 = .slice (some ⟨b, 0, none⟩) n bc ∧ Own wx b (tab n (up (up v i 0) k (v i + v k))) ∧ Rd wx p 0 (tab n x) ∧ Rd wx q 0 (tab n y) ∧ Own wx f (tab n (up (up v i (v i + v k)) k 0)) ∧ Kept w wx)
            case first =>
              go_region
              all_goals go_wp2
              all_goals go_meet
              all_goals exact ⟨rfl, by have := NB.out; rw [tab_set, tab_set] at this; exact this.drew, NX.out.drewN 1, NY.out.drewN 1, NF.out.drew, NK.out.drew⟩
            case rest =>
              clear NF NX NY NB NK hc1 hc2 e1 e2 g1 g2
              obtain ⟨rfl, hB, hX, hY, hF, hK⟩ := hcut
              have OF := Lib.hid (join_ok OK.out hIn hKn (show i ≠ k by omega) (show v i + v k + 0 = v i + v k by omega) (by omega) sm (by omega) (by omega))
              have OB := Lib.hid (join_ok OK.out hIn hKn (show i ≠ k by omega) (show 0 + (v i + v k) = v i + v k by omega) (by omega) (by omega) (by omega) sm)
              have I1 := Lib.hid (Fr.front (fun q hq => (OK.out.wts q hq).1) (fun q hq => (OF.out.wts q hq).1) F1.out.1 (dl_fr (way := 0) (fun q hq => (OF.out.wts q hq).1) OF.out.T0 s).1
                (by rw [F1.out.2, (dl_fr (way := 0) (fun q hq => (OF.out.wts q hq).1) OF.out.T0 s).2]) hIn hKn hlt (by rw [up_ne _ _ (by omega), up_same]) (by rw [up_same]) (fun j _ ji jk => by rw [up_ne _ _ jk, up_ne _ _ ji]))
              have I2 := Lib.hid (Fr.back (fun q hq => (OK.out.wts q hq).1) (fun q hq => (OB.out.wts q hq).1) F2.out.1 (dl_fr (way := 2) (fun q hq => (OB.out.wts q hq).1) OB.out.T0 s).1
                (by rw [F2.out.2, (dl_fr (way := 2) (fun q hq => (OB.out.wts q hq).1) OB.out.T0 s).2]) hIn hKn hlt (by rw [up_ne _ _ (by omega), up_same]) (by rw [up_same]) (fun j _ ji jk => by rw [up_ne _ _ jk, up_ne _ _ ji]))
              go_wp2_with fail
              refine (deal_yes 0 s _ n _ _ _ (Arg.of hF.rd) (by decide) (by decide) OF.out).mono ?_
              rintro e w8 ⟨g, hg, rfl, hG, hK8⟩
              have hB8 := hB.later hK8
              have hX8 := hX.later hK8
              have hY8 := hY.later hK8
              have hKw := hK.trans hK8
              clear hB hX hY hF hK hK8 hg
              go_wp2_with fail
              refine (deal_yes 2 s _ n _ _ _ (Arg.of hB8.rd) (by decide) (by decide) OB.out).mono ?_
              rintro e w9 ⟨h, hh, rfl, hH, hK9⟩
              have hKe := hKw.trans hK9
              have z1 := (hG.rd.later hK9).cell i (by rw [tab_len]; exact hIn)
              have z2 := hH.rd.cell k (by rw [tab_len]; exact hKn)
              have z3 := (hX8.later hK9).cell i (by rw [tab_len]; exact hIn)
              have z4 := (hX8.later hK9).cell k (by rw [tab_len]; exact hKn)
              have z5 := (hY8.later hK9).cell i (by rw [tab_len]; exact hIn)
              have z6 := (hY8.later hK9).cell k (by rw [tab_len]; exact hKn)
              rw [tab_get] at z1 z2 z3 z4 z5 z6
              rw [Nat.zero_add] at z1 z2 z3 z4 z5 z6
              have bx1 := BX.out i
              have bx2 := BX.out k
              have by1 := BY.out i
              have by2 := BY.out k
              have J1 : decide (x i + x k ≤ dl 0 (up (up v i (v i + v k)) k 0) n s i) = true := by have := I1.out; simpa using this
              have J2 : decide (dl 2 (up (up v i 0) k (v i + v k)) n s k ≤ y i + y k) = true := by have := I2.out; simpa using this
              generalize dl 0 (up (up v i (v i + v k)) k 0) n s i = X1 at *
              generalize dl 2 (up (up v i 0) k (v i + v k)) n s k = X2 at *
              have r1 : IntKind.i64.wrap (x i + x k) = x i + x k := IntWalk.i64_in _ (by omega)
              have r2 : IntKind.i64.wrap (y i + y k) = y i + y k := IntWalk.i64_in _ (by omega)
              clear hB8 hX8 hY8 hKw hK9 hh hG hH I1 I2
              go_wp2_with fail
              go_quiet (fail)
              clear r1 r2
              go_wp2
              go_ret
              exact ⟨ret_bool (by simp), hKe.drewN _⟩
      · skip
        have hlt : k < i := hik
        have hIn : k < n := by omega
        have hKn : i < n := by omega
        have d1 : decide ((k : Int) < (i : Int)) = true := by simp; omega
        have d2 : decide ((i : Int) < (k : Int)) = false := by simp; omega
        have d3 : decide ((k : Int) ≤ (i : Int)) = true := by simp; omega
        have d4 : decide ((i : Int) ≤ (k : Int)) = false := by simp; omega
        have hc1 := hR.cell k (by rw [tab_len]; exact hIn)
        have hc2 := hR.cell i (by rw [tab_len]; exact hKn)
        rw [tab_get] at hc1 hc2
        have i1 : (k : Int) < (n : Int) := by omega
        have k1 : (i : Int) < (n : Int) := by omega
        have vi := OK.out.wts k hIn
        have vk := OK.out.wts i hKn
        have wr : IntKind.i64.wrap (v i + v k) = v i + v k := IntWalk.i64_in _ (by have := OK.out.wts i (by omega); have := OK.out.wts k (by omega); omega)
        by_cases big : 1000000 < v i + v k
        · have bd : decide (1000000 < v i + v k) = true := by simpa using big
          clear big hik
          go_wp2_with fail
          go_quiet (fail)
          clear wr
          go_wp2
          go_ret
          exact ⟨rfl, hK4.drewN _⟩
        · have bd : decide (1000000 < v i + v k) = false := by simpa using big
          have sm : v k + v i ≤ 1000000 := by omega
          clear big hik
          go_wp2_with fail
          go_quiet (fail)
          clear wr
          have hRq := hR.drewN nq
          have hK5 := hK4.drewN nq
          have hPx := HX.out.drewN nq
          have hPy := HY.out.drewN nq
          clear hR hK4 HX HY hc1 hc2
          generalize World.drewN w4 nq = w5 at *
          go_wp2_with fail
          refine (clone_any vp off n _ v _ (by omega) (by omega) hRq).mono ?_
          rintro e w6 ⟨f, fc, hf, rfl, hF, hK⟩
          have hR6 := hRq.later hK
          have hK6 := hK5.trans hK
          have hX6 := hPx.later hK
          have hY6 := hPy.later hK
          have hFO := hF.toOwn
          have hvf : vp < f := by have := hRq.lt; omega
          have hpf : p < f := by have := hPx.lt; omega
          have hqf : q < f := by have := hPy.lt; omega
          have hf0 : w.heap.size ≤ f := Nat.le_trans hK5.size hf
          clear hK hF hRq hK5 hPx hPy hf
          go_wp2_with fail
          refine (clone_any vp off n _ v _ (by omega) (by omega) hR6).mono ?_
          rintro e w7 ⟨b, bc, hb, rfl, hB, hK⟩
          have hR7 := hR6.later hK
          have hK7 := hK6.trans hK
          have hX7 := hX6.later hK
          have hY7 := hY6.later hK
          have hF7 := hFO.later hK
          have hBO := hB.toOwn
          have hfb : f < b := by have := hFO.lt; omega
          have hb0 : w.heap.size ≤ b := Nat.le_trans hK6.size hb
          clear hK hB hR6 hK6 hX6 hY6 hFO hb
          have hc1 := hR7.cell k (by rw [tab_len]; exact hIn)
          have hc2 := hR7.cell i (by rw [tab_len]; exact hKn)
          have e1 := hF7.cell k (by rw [tab_len]; exact hIn)
          have e2 := hF7.cell i (by rw [tab_len]; exact hKn)
          have g1 := hF7.free k (by rw [tab_len]; exact hIn)
          have g2 := hF7.free i (by rw [tab_len]; exact hKn)
          rw [tab_get] at hc1 hc2 e1 e2
          have NF := Lib.hid ((hF7.set k (v k + v i) (by rw [tab_len]; exact hIn)).set i 0 (by rw [List.length_set, tab_len]; exact hKn))
          have NX := Lib.hid ((hX7.other (r := f) (i := k) (v := .int .i64 (v k + v i)) (by omega)).other (r := f) (i := i) (v := .int .i64 0) (by omega))
          have NY := Lib.hid ((hY7.other (r := f) (i := k) (v := .int .i64 (v k + v i)) (by omega)).other (r := f) (i := i) (v := .int .i64 0) (by omega))
          have NR := Lib.hid ((hR7.other (r := f) (i := k) (v := .int .i64 (v k + v i)) (by omega)).other (r := f) (i := i) (v := .int .i64 0) (by omega))
          have NB := Lib.hid ((hBO.other (r := f) (i := k) (v := .int .i64 (v k + v i)) (by omega)).other (r := f) (i := i) (v := .int .i64 0) (by omega))
          have NK := Lib.hid ((hK7.setAt (i := k) hf0 (.int .i64 (v k + v i))).setAt (i := i) hf0 (.int .i64 0))
          have ne1 : vp ≠ f := by omega
          have ne2 : f ≠ vp := by omega
          have ne3 : k ≠ i := by omega
          have ne4 : i ≠ k := by omega
          clear hR7 hK7 hX7 hY7 hF7 hBO
          go_wp2_with fail
          go_cut [15] (fun s15 wx => s15 = .slice (some ⟨f, 0, none⟩) n fc ∧ Own wx f (tab n (up (up v k (v k + v i)) i 0)) ∧ Rd wx p 0 (tab n x) ∧ Rd wx q 0 (tab n y) ∧ Rd wx vp off (tab n v) ∧ Own wx b (tab n v) ∧ Kept w wx)
          case first =>
            go_region
            all_goals go_wp2
            all_goals go_meet
            all_goals exact ⟨rfl, by have := NF.out; rw [tab_set, tab_set] at this; exact this.drew, NX.out.drewN 1, NY.out.drewN 1, NR.out.drewN 1, NB.out.drew, NK.out.drew⟩
          case rest =>
            clear NF NX NY NR NB NK hc1 hc2 e1 e2 g1 g2
            obtain ⟨rfl, hF, hX, hY, hR, hB, hK⟩ := hcut
            have hc1 := hR.cell k (by rw [tab_len]; exact hIn)
            have hc2 := hR.cell i (by rw [tab_len]; exact hKn)
            have e1 := hB.cell k (by rw [tab_len]; exact hIn)
            have e2 := hB.cell i (by rw [tab_len]; exact hKn)
            have g1 := hB.free k (by rw [tab_len]; exact hIn)
            have g2 := hB.free i (by rw [tab_len]; exact hKn)
            rw [tab_get] at hc1 hc2 e1 e2
            have NB := Lib.hid ((hB.set k 0 (by rw [tab_len]; exact hIn)).set i (v k + v i) (by rw [List.length_set, tab_len]; exact hKn))
            have NX := Lib.hid ((hX.other (r := b) (i := k) (v := .int .i64 0) (by omega)).other (r := b) (i := i) (v := .int .i64 (v k + v i)) (by omega))
            have NY := Lib.hid ((hY.other (r := b) (i := k) (v := .int .i64 0) (by omega)).other (r := b) (i := i) (v := .int .i64 (v k + v i)) (by omega))
            have NF := Lib.hid ((hF.other (r := b) (i := k) (v := .int .i64 0) (by omega)).other (r := b) (i := i) (v := .int .i64 (v k + v i)) (by omega))
            have NK := Lib.hid ((hK.setAt (i := k) hb0 (.int .i64 0)).setAt (i := i) hb0 (.int .i64 (v k + v i)))
            have ne5 : vp ≠ b := by omega
            have ne6 : b ≠ vp := by omega
            clear hR hK hX hY hF hB
            go_wp2_with fail
            go_cut [16] (fun s16 wx => s16 = .slice (some ⟨b, 0, none⟩) n bc ∧ Own wx b (tab n (up (up v k 0) i (v k + v i))) ∧ Rd wx p 0 (tab n x) ∧ Rd wx q 0 (tab n y) ∧ Own wx f (tab n (up (up v k (v k + v i)) i 0)) ∧ Kept w wx)
            case first =>
              go_region
              all_goals go_wp2
              all_goals go_meet
              all_goals exact ⟨rfl, by have := NB.out; rw [tab_set, tab_set] at this; exact this.drew, NX.out.drewN 1, NY.out.drewN 1, NF.out.drew, NK.out.drew⟩
            case rest =>
              clear NF NX NY NB NK hc1 hc2 e1 e2 g1 g2
              obtain ⟨rfl, hB, hX, hY, hF, hK⟩ := hcut
              have OF := Lib.hid (join_ok OK.out hIn hKn (show k ≠ i by omega) (show v k + v i + 0 = v k + v i by omega) (by omega) sm (by omega) (by omega))
              have OB := Lib.hid (join_ok OK.out hIn hKn (show k ≠ i by omega) (show 0 + (v k + v i) = v k + v i by omega) (by omega) (by omega) (by omega) sm)
              have I1 := Lib.hid (Fr.front (fun q hq => (OK.out.wts q hq).1) (fun q hq => (OF.out.wts q hq).1) F1.out.1 (dl_fr (way := 0) (fun q hq => (OF.out.wts q hq).1) OF.out.T0 s).1
                (by rw [F1.out.2, (dl_fr (way := 0) (fun q hq => (OF.out.wts q hq).1) OF.out.T0 s).2]) hIn hKn hlt (by rw [up_ne _ _ (by omega), up_same]) (by rw [up_same]) (fun j _ ji jk => by rw [up_ne _ _ jk, up_ne _ _ ji]))
              have I2 := Lib.hid (Fr.back (fun q hq => (OK.out.wts q hq).1) (fun q hq => (OB.out.wts q hq).1) F2.out.1 (dl_fr (way := 2) (fun q hq => (OB.out.wts q hq).1) OB.out.T0 s).1
                (by rw [F2.out.2, (dl_fr (way := 2) (fun q hq => (OB.out.wts q hq).1) OB.out.T0 s).2]) hIn hKn hlt (by rw [up_ne _ _ (by omega), up_same]) (by rw [up_same]) (fun j _ ji jk => by rw [up_ne _ _ jk, up_ne _ _ ji]))
              go_wp2_with fail
              refine (deal_yes 0 s _ n _ _ _ (Arg.of hF.rd) (by decide) (by decide) OF.out).mono ?_
              rintro e w8 ⟨g, hg, rfl, hG, hK8⟩
              have hB8 := hB.later hK8
              have hX8 := hX.later hK8
              have hY8 := hY.later hK8
              have hKw := hK.trans hK8
              clear hB hX hY hF hK hK8 hg
              go_wp2_with fail
              refine (deal_yes 2 s _ n _ _ _ (Arg.of hB8.rd) (by decide) (by decide) OB.out).mono ?_
              rintro e w9 ⟨h, hh, rfl, hH, hK9⟩
              have hKe := hKw.trans hK9
              have z1 := (hG.rd.later hK9).cell k (by rw [tab_len]; exact hIn)
              have z2 := hH.rd.cell i (by rw [tab_len]; exact hKn)
              have z3 := (hX8.later hK9).cell k (by rw [tab_len]; exact hIn)
              have z4 := (hX8.later hK9).cell i (by rw [tab_len]; exact hKn)
              have z5 := (hY8.later hK9).cell k (by rw [tab_len]; exact hIn)
              have z6 := (hY8.later hK9).cell i (by rw [tab_len]; exact hKn)
              rw [tab_get] at z1 z2 z3 z4 z5 z6
              rw [Nat.zero_add] at z1 z2 z3 z4 z5 z6
              have bx1 := BX.out k
              have bx2 := BX.out i
              have by1 := BY.out k
              have by2 := BY.out i
              have J1 : decide (x k + x i ≤ dl 0 (up (up v k (v k + v i)) i 0) n s k) = true := by have := I1.out; simpa using this
              have J2 : decide (dl 2 (up (up v k 0) i (v k + v i)) n s i ≤ y k + y i) = true := by have := I2.out; simpa using this
              generalize dl 0 (up (up v k (v k + v i)) i 0) n s k = X1 at *
              generalize dl 2 (up (up v k 0) i (v k + v i)) n s i = X2 at *
              have r1 : IntKind.i64.wrap (x k + x i) = x k + x i := IntWalk.i64_in _ (by omega)
              have r2 : IntKind.i64.wrap (y k + y i) = y k + y i := IntWalk.i64_in _ (by omega)
              clear hB8 hX8 hY8 hKw hK9 hh hG hH I1 I2
              go_wp2_with fail
              go_quiet (fail)
              clear r1 r2
              go_wp2
              go_ret
              exact ⟨ret_bool (by simp), hKe.drewN _⟩
  · have nb : (totE s n v != 0) = true := by rw [bne_iff_ne]; exact he
    have HE := Lib.hid he
    have D0 := Lib.hid (dealE_tot (way := 0) (N := (s : Int)) (n := n) (v := v) (by decide) (by decide))
    have D2 := Lib.hid (dealE_tot (way := 2) (N := (s : Int)) (n := n) (v := v) (by decide) (by decide))
    clear he
    go_wp2_with fail
    refine (deal_no 0 s _ n _ v _ hn hA2 (by rw [D0.out]; exact HE.out)).mono ?_
    rintro e w3 ⟨rfl, rfl⟩
    rw [D0.out]
    go_wp2_with fail
    refine (deal_no 2 s _ n _ v _ hn hA2 (by rw [D2.out]; exact HE.out)).mono ?_
    rintro e w3 ⟨rfl, rfl⟩
    rw [D2.out]
    generalize totE (s : Int) n v = E at *
    go_wp2
    go_ret
    exact ⟨ret_bool (by simp), hK2⟩

end Go.Proofs.Ytpkdknddncnceaa
