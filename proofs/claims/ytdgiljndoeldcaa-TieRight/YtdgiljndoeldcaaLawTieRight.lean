/-
  The law TieRight: for all items and a number it answers true; nothing that was there is turned. No condition but those that each theorem names.
-/
import Derived.Test.YtdgiljndoeldcaaGMapB
namespace Go.Proofs.Ytdgiljndoeldcaa
open Go.RowKit Go.Sort
set_option linter.unusedVariables false

/-- What was seen so far. -/
def seenL (X : Nat → Int) : Nat → List (Int × Bool)
  | 0 => []
  | j + 1 => (X j, decide (0 ≤ X j)) :: seenL X j
theorem seen_in {X : Nat → Int} {k : Int} : ∀ {j : Nat}, bget k (seenL X j) = true → ∃ i, i < j ∧ X i = k
  | 0, h => by cases h
  | j + 1, h => by
    unfold seenL at h
    rw [bget] at h
    by_cases c : X j = k
    · exact ⟨j, by omega, c⟩
    · rw [if_neg c] at h
      obtain ⟨i, hi, e⟩ := seen_in h
      exact ⟨i, by omega, e⟩
theorem seen_no {a b : List Mv} {h : Int} {X : Nat → Int} (f : TieFit a b h X) {j : Nat} (hj : j < a.length) (h0 : X j ≠ -1) : bget (X j) (seenL X j) = false := by
  cases e : bget (X j) (seenL X j) with
  | false => rfl
  | true =>
    obtain ⟨i, hi, ei⟩ := seen_in e
    exact absurd (f.once j i hj (by omega) (by omega) ei.symm) h0
abbrev rtA : List Mv := [(5, 7)]
abbrev rtB : List Mv := [(9, 7), (6, 7)]
set_option maxRecDepth 100000 in
set_option maxHeartbeats 16000000 in
theorem tieRight_walk (a : Option Addr) (l : List Mv) (cap : Nat) (b : Option Addr) (m : List Mv) (cap' : Nat) (h : Int) (w : World) (hA : JArg eP w a l) (hc : l.length ≤ cap) (hn : cap ≤ maxLen) (z : a = none → cap = 0) (hB : JArg eP w b m) (hc' : m.length ≤ cap') (hn' : cap' ≤ maxLen) (z' : b = none → cap' = 0) :
    Calls Try.prog 8 #[.slice a l.length cap, .slice b m.length cap', .int .i64 h] w fun e w' => e = .returned (.bool true) ∧ Below w.heap.size w w' := by
  obtain ⟨W1, hW1⟩ : ∃ W1, W1 = (w.alloc (.cells #[.int .i64 5, .int .i64 7] 31)).alloc (.cells #[.int .i64 9, .int .i64 7, .int .i64 6, .int .i64 7] 31) := ⟨_, rfl⟩
  have KA : Kept w W1 := by rw [hW1]; exact ((Kept.refl w).alloc _).alloc _
  have F0 : Calls Try.prog 23 #[.slice (some ⟨w.heap.size, 0, none⟩) 1 1, .slice (some ⟨w.heap.size + 1, 0, none⟩) 2 2, .int .i64 4] W1 (TiePost W1 [1]) := by
    rw [hW1]
    obtain ⟨q1, q2⟩ := lit2 (w := w) rtA rtB #[.int .i64 5, .int .i64 7] #[.int .i64 9, .int .i64 7, .int .i64 6, .int .i64 7] rfl rfl
    exact tie_is _ _ rtA rtB 1 2 1 2 4 _ [1] rfl rfl q1 q2 (ti_ok (by decide +kernel)) (by decide +kernel)
  have F0 := Lib.hid F0
  have HW1 := Lib.hid hW1
  clear hW1
  have HA := Lib.hid hA
  have HB := Lib.hid hB
  have hl : l.length ≤ maxLen := Nat.le_trans hc hn
  have hl' : m.length ≤ maxLen := Nat.le_trans hc' hn'
  clear hA hB z z' hc hc' hn hn'
  go_enter Try.func8, Try.ntmps8
  go_wp2_with fail
  rw [← HW1.out]
  refine F0.out.mono ?_
  rintro e w1 ⟨g, rfl, hg, hO, hK0⟩
  have hK1 := KA.trans hK0
  have EQ := Lib.hid (iequal_yes [1] (some ⟨g, 0, none⟩) (some ⟨w1.heap.size, 0, none⟩) 1 1 1 (w1.alloc (.cells #[.int .i64 1] 3)) (by decide) rfl ((own_argT hO).later ((Kept.refl w1).alloc _)) (JArg.lit eI _ _ _ rfl rfl))
  have kE := hK1.alloc (.cells #[.int .i64 1] 3)
  clear F0 KA HW1 hO hK0 hK1 hg
  go_wp2_with fail
  refine EQ.out.mono ?_
  rintro e w2 ⟨rfl, hK2⟩
  have hK12 := kE.trans hK2
  clear EQ kE hK2
  by_cases er : tiE l m h = 0
  · have ok := ti_ok er
    have l40 : l.length ≤ 40 := ok.oa.len
    have m40 : m.length ≤ 40 := ok.ob.len
    have T1 := Lib.hid (tie_yes a b l m cap cap' h w2 (HA.out.later hK12) (HB.out.later hK12) ok)
    have FT := Lib.hid (tie_fit l m h)
    have ITA := Lib.hid ok.oa.it
    have ITB := Lib.hid ok.ob.it
    unfold tieL at T1
    have TLn := Lib.hid (tab_len l.length (tieX l m h))
    generalize tieX l m h = X at *
    clear ok er
    go_wp2_with fail
    refine T1.out.mono ?_
    rintro e w3 ⟨g1, rfl, hg1, hO1, hK3⟩
    have hK13 := hK12.trans hK3
    rw [TLn.out]
    have HO1 := Lib.hid hO1
    have M0 := Lib.hid (BMp.made w3)
    have kM := (Kept.refl w3).alloc (.map #[] 0)
    clear T1 hK12 hK3 hO1
    have hmm := @run_makeMap Try.prog
    go_upto_region 8 with fail
    clear hmm
    generalize hmb : w3.heap.size = mb at *
    have HMB := Lib.hid hmb
    clear hmb
    generalize w3.alloc (.map #[] 0) = w4 at *
    go_wp2
    go_loopw [46] (fun i wr => ∃ j : Nat, j ≤ l.length ∧ i = .int .i64 j ∧ BMp wr mb j (seenL X j) ∧ Kept w3 wr) (fun i _ => l.length - (intOf i).toNat)
    case atStart => exact ⟨0, Nat.zero_le _, rfl, M0.out, kM⟩
    case round =>
      obtain ⟨j, hj, rfl, hM, hKr⟩ := hrel
      have mbw : w3.heap.size ≤ mb := by have := HMB.out; omega
      by_cases hlt : j < l.length
      · have hO := HO1.out.later hKr
        have x0 := hO.cell j (by rw [tab_len]; exact hlt)
        rw [tab_get] at x0
        have hK := hK13.trans hKr
        have j1 : (j : Int) < (l.length : Int) := by omega
        have SJ : seenL X (j + 1) = (X j, decide (0 ≤ X j)) :: seenL X j := rfl
        rcases FT.out.val j hlt with e | ⟨y, hy, e, fit⟩
        · have HMd := Lib.hid (fun q => hM.later ((Kept.refl wr).drewN q))
          have HKd := Lib.hid (fun q => hKr.drewN q)
          have kb1 : decide (X j < -1) = false := by rw [e]; decide
          have kb2 : decide ((m.length : Int) ≤ X j) = false := by rw [e]; simp; omega
          have kb3 : decide (0 ≤ X j) = false := by rw [e]; decide
          rw [kb3] at SJ
          have HSJ := Lib.hid SJ
          have kc1 : -1000 ≤ X j := by omega
          have kc2 : X j ≤ 1000 := by omega
          clear hM hO hK SJ e
          generalize X j = kk at *
          go_wp2_with fail
          go_quiet (fail)
          have hM3 := HMd.out nq
          have hK3 := HKd.out nq
          generalize wr.drewN nq = wq at *
          go_wp2_with (at_mapUpdate; refine put_b (k := kk) (y := false) rfl _ _ _ rfl rfl hM3 (by omega) rfl rfl kc1 kc2 ?_)
          intro w6 hM6 hg6
          have hK6 := hK3.grew hg6 (fun j e => by cases e; exact mbw)
          rw [← HSJ.out] at hM6
          go_wp2
          go_roundw
          case rel => exact ⟨j + 1, by omega, by go_num, hM6, hK6⟩
          case measure => simp [intOf]; omega
        · have ne : X j ≠ -1 := by rw [e]; omega
          have SN := seen_no FT.out hlt ne
          rw [e] at x0 SJ SN
          have ITa := ITA.out _ (List.getElem_mem hlt)
          have ITb := ITB.out _ (List.getElem_mem hy)
          obtain ⟨p, off, rfl, hR⟩ := (HA.out.later hK).at hlt
          obtain ⟨p2, off2, rfl, hQ⟩ := (HB.out.later hK).at hy
          have v0 := hR.c0 j hlt
          have v1 := hR.c1 j hlt
          have u0 := hQ.c0 y hy
          have u1 := hQ.c1 y hy
          unfold tieF fitB at fit
          rw [itN_get l j hlt, itN_get m y hy] at fit
          simp only [Bool.and_eq_true, decide_eq_true_eq] at fit
          have LK := fun (q : Nat) => (hM.later ((Kept.refl wr).drewN q)).look (k := (y : Int)) (by omega) (by omega)
          rw [SN] at LK
          clear hR hQ ne SN
          generalize l[j] = x at *
          generalize m[y] = x' at *
          obtain ⟨f1, f2⟩ := fit
          have g1 : (x'.2 != x.2) = false := by simp [f1]
          have g2 : ¬ (h < x'.1 - x.1) := by omega
          have g3 : ¬ (h < x.1 - x'.1) := by omega
          have g2' : x'.1 - x.1 ≤ h := by omega
          have g3' : x.1 - x'.1 ≤ h := by omega
          have w1' : IntKind.i64.wrap (x'.1 - x.1) = x'.1 - x.1 := IntWalk.i64_in _ (by omega)
          have w2' : IntKind.i64.wrap (x.1 - x'.1) = x.1 - x'.1 := IntWalk.i64_in _ (by omega)
          have y1 : (y : Int) < (m.length : Int) := by omega
          have y2 : ¬ ((m.length : Int) ≤ (y : Int)) := by omega
          have y3 : ¬ ((y : Int) < -1) := by omega
          have y4 : (0 : Int) ≤ (y : Int) := by omega
          have HMd := Lib.hid (fun q => hM.later ((Kept.refl wr).drewN q))
          have HKd := Lib.hid (fun q => hKr.drewN q)
          have sd : decide ((0 : Int) ≤ (y : Int)) = true := by simp
          rw [sd] at SJ
          have HSJ := Lib.hid SJ
          clear hM hO hK SJ sd f1 f2 ITa ITb
          go_wp2_with fail
          go_quiet (fail)
          have hM3 := HMd.out nq
          have hK3 := HKd.out nq
          clear LK v0 v1 u0 u1 x0
          generalize wr.drewN nq = wq at *
          go_wp2_with (at_mapUpdate; refine put_b (k := (y : Int)) (y := true) rfl _ _ _ rfl rfl hM3 (by omega) rfl rfl (by omega) (by omega) ?_)
          intro w6 hM6 hg6
          have hK6 := hK3.grew hg6 (fun j e => by cases e; exact mbw)
          rw [← HSJ.out] at hM6
          go_wp2
          go_roundw
          case rel => exact ⟨j + 1, by omega, by go_num, hM6, hK6⟩
          case measure => simp [intOf]; omega
      · obtain rfl : j = l.length := by omega
        clear hlt
        go_wp2
        go_ret
        exact ⟨rfl, hK13.trans hKr⟩
  · have T1 := Lib.hid (tie_no a b l m cap cap' h w2 hl hl' (HA.out.later hK12) (HB.out.later hK12) er)
    have nb : (tiE l m h != 0) = true := by rw [bne_iff_ne]; exact er
    generalize tiE l m h = q at *
    clear er
    go_wp2_with fail
    refine T1.out.mono ?_
    rintro e w3 ⟨rfl, hK3⟩
    go_wp2
    go_ret
    exact ⟨rfl, hK12.trans hK3⟩
end Go.Proofs.Ytdgiljndoeldcaa
