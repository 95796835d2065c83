/-
  The law TieMost: for all items, a number and another matching it answers true; nothing that was there is turned. No condition but those that each theorem names.
-/
import Derived.Test.YtdgiljndoeldcaaGMapB
namespace Go.Proofs.Ytdgiljndoeldcaa
open Go.RowKit Go.Sort
set_option linter.unusedVariables false

/-- The other matching so far. -/
structure PrS (l m : List Mv) (h : Int) (j : Nat) (P : List (Nat × Nat)) : Prop where
  sub : (P.map Prod.fst).Sublist (List.range j)
  nd : (P.map Prod.snd).Nodup
  fit : ∀ p ∈ P, p.2 < m.length ∧ tieF l m h p.1 p.2 = true
theorem PrS.start (l m : List Mv) (h : Int) : PrS l m h 0 [] := ⟨List.Sublist.refl _, List.nodup_nil, fun p hp => by cases hp⟩
theorem PrS.skip {l m : List Mv} {h : Int} {j : Nat} {P : List (Nat × Nat)} (s : PrS l m h j P) : PrS l m h (j + 1) P :=
  ⟨s.sub.trans (by rw [List.range_succ]; exact List.sublist_append_left ..), s.nd, s.fit⟩
theorem PrS.take {l m : List Mv} {h : Int} {j : Nat} {P : List (Nat × Nat)} (s : PrS l m h j P) {y : Nat} (hy : y < m.length) (f : tieF l m h j y = true) (no : y ∉ P.map Prod.snd) : PrS l m h (j + 1) (P ++ [(j, y)]) := by
  refine ⟨?_, ?_, fun p hp => ?_⟩
  · rw [List.map_append, List.range_succ]
    exact s.sub.append (List.Sublist.refl _)
  · rw [List.map_append]
    exact List.nodup_append.2 ⟨s.nd, by simp, fun a ha b hb e => by
      simp at hb
      subst hb
      exact no (e ▸ ha)⟩
  · rcases List.mem_append.1 hp with q | q
    · exact s.fit p q
    · simp at q; subst q; exact ⟨hy, f⟩
theorem PrS.most {l m : List Mv} {h : Int} {j : Nat} {P : List (Nat × Nat)} (s : PrS l m h j P) (hj : j ≤ l.length) : (P.length : Int) ≤ tdI (tieL l m h) := by
  have sub : (P.map Prod.fst).Sublist (List.range l.length) := s.sub.trans (List.range_sublist.2 hj)
  exact tie_most (mt_range (mt_pairs sub s.nd (fun p hp => ⟨List.mem_range.2 (s.fit p hp).1, (s.fit p hp).2⟩)))
/-- What is used. -/
def usedL (P : List (Nat × Nat)) : List (Int × Bool) := P.reverse.map fun p => ((p.2 : Int), true)
theorem used_snoc (P : List (Nat × Nat)) (j y : Nat) : usedL (P ++ [(j, y)]) = ((y : Int), true) :: usedL P := by
  unfold usedL; rw [List.reverse_append]; rfl
theorem bget_used (y : Nat) : ∀ Q : List (Nat × Nat), bget (y : Int) (Q.map fun p => ((p.2 : Int), true)) = true ↔ y ∈ Q.map Prod.snd
  | [] => by simp [bget]
  | p :: r => by
    rw [List.map_cons, bget, List.map_cons, List.mem_cons]
    by_cases c : p.2 = y
    · rw [if_pos (by rw [c])]; exact ⟨fun _ => .inl c.symm, fun _ => rfl⟩
    · rw [if_neg (by omega), bget_used y r]
      exact ⟨fun k => .inr k, fun k => by
        rcases k with k | k
        · exact absurd k.symm c
        · exact k⟩
theorem used_in (P : List (Nat × Nat)) (y : Nat) : bget (y : Int) (usedL P) = true ↔ y ∈ P.map Prod.snd := by
  unfold usedL
  rw [bget_used, List.map_reverse, List.mem_reverse]
abbrev mtA : List Mv := [(5, 1), (3, 1)]
abbrev mtB : List Mv := [(2, 1), (6, 1)]
/-- Loop of the count. -/
theorem tdI_step {s : List Int} {j : Nat} (hj : j < s.length) : tdI (s.take (j + 1)) = tdI (s.take j) + (if 0 ≤ s[j] then 1 else 0) := by
  rw [take_snocP s j hj, tdI_app, tdI, tdI]; omega
set_option maxRecDepth 100000 in
set_option maxHeartbeats 16000000 in
theorem tieMost_walk (a : Option Addr) (l : List Mv) (cap : Nat) (b : Option Addr) (m : List Mv) (cap' : Nat) (h : Int) (c : Option Addr) (o : List Int) (cap2 : Nat) (w : World) (hA : JArg eP w a l) (hc : l.length ≤ cap) (hn : cap ≤ maxLen) (z : a = none → cap = 0) (hB : JArg eP w b m) (hc' : m.length ≤ cap') (hn' : cap' ≤ maxLen) (z' : b = none → cap' = 0) (hC : JArg eI w c o) (hc2 : o.length ≤ cap2) (hn2 : cap2 ≤ maxLen) (z2 : c = none → cap2 = 0) :
    Calls Try.prog 9 #[.slice a l.length cap, .slice b m.length cap', .int .i64 h, .slice c o.length cap2] w fun e w' => e = .returned (.bool true) ∧ Below w.heap.size w w' := by
  obtain ⟨W1, hW1⟩ : ∃ W1, W1 = (w.alloc (.cells #[.int .i64 5, .int .i64 1, .int .i64 3, .int .i64 1] 31)).alloc (.cells #[.int .i64 2, .int .i64 1, .int .i64 6, .int .i64 1] 31) := ⟨_, rfl⟩
  have KA : Kept w W1 := by rw [hW1]; exact ((Kept.refl w).alloc _).alloc _
  have F0 : Calls Try.prog 23 #[.slice (some ⟨w.heap.size, 0, none⟩) 2 2, .slice (some ⟨w.heap.size + 1, 0, none⟩) 2 2, .int .i64 3] W1 (TiePost W1 [1, 0]) := by
    rw [hW1]
    obtain ⟨q1, q2⟩ := lit2 (w := w) mtA mtB #[.int .i64 5, .int .i64 1, .int .i64 3, .int .i64 1] #[.int .i64 2, .int .i64 1, .int .i64 6, .int .i64 1] rfl rfl
    exact tie_is _ _ mtA mtB 2 2 2 2 3 _ [1, 0] rfl rfl q1 q2 (ti_ok (by decide +kernel)) (by decide +kernel)
  have F0 := Lib.hid F0
  have HW1 := Lib.hid hW1
  clear hW1
  have HA := Lib.hid hA
  have HB := Lib.hid hB
  have HC := Lib.hid hC
  have hl : l.length ≤ maxLen := Nat.le_trans hc hn
  have hl' : m.length ≤ maxLen := Nat.le_trans hc' hn'
  have o2 : o.length ≤ cap2 := hc2
  have o3 : cap2 ≤ 9223372036854775807 := hn2
  clear hA hB hC z z' z2 hc hc' hn hn' hc2 hn2
  go_enter Try.func9, Try.ntmps9
  go_wp2_with fail
  rw [← HW1.out]
  refine F0.out.mono ?_
  rintro e w1 ⟨g, rfl, hg, hO, hK0⟩
  have hK1 := KA.trans hK0
  have EQ := Lib.hid (iequal_yes [1, 0] (some ⟨g, 0, none⟩) (some ⟨w1.heap.size, 0, none⟩) 2 2 2 (w1.alloc (.cells #[.int .i64 1, .int .i64 0] 3)) (by decide) rfl ((own_argT hO).later ((Kept.refl w1).alloc _)) (JArg.lit eI _ _ _ rfl rfl))
  have kE := hK1.alloc (.cells #[.int .i64 1, .int .i64 0] 3)
  clear F0 KA HW1 hO hK0 hK1 hg
  go_wp2_with fail
  refine EQ.out.mono ?_
  rintro e w2 ⟨rfl, hK2⟩
  have hK12 := kE.trans hK2
  clear EQ kE hK2
  by_cases er : tiE l m h = 0
  · have ok := ti_ok er
    have l40 : l.length ≤ 40 := ok.oa.len
    have m40 : m.length ≤ 40 := ok.ob.len
    have T1 := Lib.hid (tie_yes a b l m cap cap' h w2 (HA.out.later hK12) (HB.out.later hK12) ok)
    have ITA := Lib.hid ok.oa.it
    have ITB := Lib.hid ok.ob.it
    have TLn := Lib.hid (tieL_len l m h)
    have MO := Lib.hid (fun (j : Nat) (P : List (Nat × Nat)) (s : PrS l m h j P) (hj : j ≤ l.length) => s.most hj)
    generalize tieL l m h = s at *
    clear ok er
    go_wp2_with fail
    refine T1.out.mono ?_
    rintro e w3 ⟨g1, rfl, hg1, hO1, hK3⟩
    have hK13 := hK12.trans hK3
    have HO1 := Lib.hid hO1
    have M0 := Lib.hid (BMp.made w3)
    have kM := (Kept.refl w3).alloc (.map #[] 0)
    clear T1 hK12 hK3 hO1 hg1
    have hmm := @run_makeMap Try.prog
    go_upto_region 8 with fail
    clear hmm
    generalize hmb : w3.heap.size = mb at *
    have HMB := Lib.hid hmb
    clear hmb
    generalize w3.alloc (.map #[] 0) = w4 at *
    obtain ⟨r, hr1, hr2, hcase⟩ : ∃ r : Nat, r ≤ l.length ∧ r ≤ o.length ∧ ((((l.length : Int) < (o.length : Int)) ∧ r = l.length) ∨ (¬ ((l.length : Int) < (o.length : Int)) ∧ r = o.length)) := by
      by_cases cc : (l.length : Int) < (o.length : Int)
      · exact ⟨l.length, by omega, by omega, .inl ⟨cc, rfl⟩⟩
      · exact ⟨o.length, by omega, by omega, .inr ⟨cc, rfl⟩⟩
    have HRR := Lib.hid hcase
    rcases hcase with ⟨cc, hr⟩ | ⟨cc, hr⟩
    all_goals clear hr
    all_goals go_wp2
    all_goals
      go_loopw [14, 59] (fun v i wr => ∃ (j : Nat) (P : List (Nat × Nat)), j ≤ r ∧ i = .int .i64 j ∧ v = .int .i64 (P.length : Nat) ∧ P.length ≤ j ∧ Hid (PrS l m h j P) ∧ BMp wr mb P.length (usedL P) ∧ Kept w3 wr) (fun _ i _ => r - (intOf i).toNat)
      case atStart => exact ⟨0, [], Nat.zero_le _, rfl, rfl, Nat.le_refl _, Lib.hid (PrS.start l m h), M0.out, kM⟩
      case round =>
        obtain ⟨j, P, hj, rfl, rfl, pj, HP, hM, hKr⟩ := hrel
        have mbw : w3.heap.size ≤ mb := by have := HMB.out; omega
        by_cases hlt : j < r
        · have hK := hK13.trans hKr
          obtain ⟨p3, off3, rfl, hS⟩ := (HC.out.later hK).at (j := j) (by omega)
          have o0 := hS.i j (by omega)
          have lb1 : (j : Int) < (l.length : Int) := by omega
          have lb2 : (j : Int) < (o.length : Int) := by omega
          have jl : j < l.length := by omega
          have SK := Lib.hid (HP.out.skip)
          clear hS
          generalize o[j]'(by omega) = kk at *
          by_cases v1 : kk < 0
          · have kb1 : decide (kk < 0) = true := by simpa using v1
            clear v1
            go_wp2
            go_roundw
            case rel => exact ⟨j + 1, P, by omega, by go_num, rfl, by omega, SK, hM, hKr⟩
            case measure => simp [intOf]; omega
          · have kb1 : decide (kk < 0) = false := by simpa using v1
            by_cases v2 : (m.length : Int) ≤ kk
            · have kb2 : decide ((m.length : Int) ≤ kk) = true := by simpa using v2
              clear v1 v2
              go_wp2
              go_roundw
              case rel => exact ⟨j + 1, P, by omega, by go_num, rfl, by omega, SK, hM, hKr⟩
              case measure => simp [intOf]; omega
            · have kb2 : decide ((m.length : Int) ≤ kk) = false := by simpa using v2
              obtain ⟨y, rfl⟩ : ∃ y : Nat, kk = y := ⟨kk.toNat, by omega⟩
              have hy : y < m.length := by omega
              have y1 : (y : Int) < (m.length : Int) := by omega
              have y4 : (0 : Int) ≤ (y : Int) := by omega
              have ITa := ITA.out _ (List.getElem_mem jl)
              have ITb := ITB.out _ (List.getElem_mem hy)
              obtain ⟨p, off, rfl, hR⟩ := (HA.out.later hK).at jl
              obtain ⟨p2, off2, rfl, hQ⟩ := (HB.out.later hK).at hy
              have a0 := hR.c0 j jl
              have a1 := hR.c1 j jl
              have u0 := hQ.c0 y hy
              have u1 := hQ.c1 y hy
              have FI := Lib.hid (show tieF l m h j y = fitB h l[j] m[y] by unfold tieF; rw [itN_get l j jl, itN_get m y hy])
              have LK := fun (q : Nat) => (hM.later ((Kept.refl wr).drewN q)).look (k := (y : Int)) (by omega) (by omega)
              have US := Lib.hid (used_in P y)
              have TK := Lib.hid (fun (f : tieF l m h j y = true) (no : y ∉ P.map Prod.snd) => HP.out.take hy f no)
              have HMd := Lib.hid (fun q => hM.later ((Kept.refl wr).drewN q))
              have HKd := Lib.hid (fun q => hKr.drewN q)
              have HKe := Lib.hid (fun q => hK.drewN q)
              clear hR hQ v1 v2 SK HP hM hKr hK
              generalize l[j] = x at *
              generalize m[y] = x' at *
              generalize bget (y : Int) (usedL P) = us at *
              have w1' : IntKind.i64.wrap (x'.1 - x.1) = x'.1 - x.1 := IntWalk.i64_in _ (by omega)
              have w2' : IntKind.i64.wrap (x.1 - x'.1) = x.1 - x'.1 := IntWalk.i64_in _ (by omega)
              by_cases g0 : us = true
              · subst g0
                clear TK FI US
                go_wp2_with fail
                go_quiet (fail)
                go_wp2
                go_ret
                exact ⟨rfl, HKe.out nq⟩
              · have g0' : us = false := by simpa using g0
                subst g0'
                by_cases g1 : x'.2 = x.2
                · have b1 : (x'.2 != x.2) = false := by simp [g1]
                  by_cases g2 : h < x'.1 - x.1
                  · have b2 : decide (h < x'.1 - x.1) = true := by simpa using g2
                    clear TK FI US g0 g1
                    go_wp2_with fail
                    go_quiet (fail)
                    go_wp2
                    go_ret
                    exact ⟨rfl, HKe.out nq⟩
                  · have b2 : decide (h < x'.1 - x.1) = false := by simpa using g2
                    by_cases g3 : h < x.1 - x'.1
                    · have b3 : decide (h < x.1 - x'.1) = true := by simpa using g3
                      clear TK FI US g0 g1 g2
                      go_wp2_with fail
                      go_quiet (fail)
                      go_wp2
                      go_ret
                      exact ⟨rfl, HKe.out nq⟩
                    · have b3 : decide (h < x.1 - x'.1) = false := by simpa using g3
                      have fb : fitB h x x' = true := by
                        unfold fitB
                        rw [Bool.and_eq_true]
                        exact ⟨decide_eq_true g1.symm, decide_eq_true (by omega)⟩
                      have S2 := Lib.hid (TK.out (by rw [FI.out]; exact fb) (fun k => by have := US.out.2 k; cases this))
                      have UE := Lib.hid (used_snoc P j y)
                      clear TK FI US g0 g1 g2 g3 fb
                      go_wp2_with fail
                      go_quiet (fail)
                      have hM3 := HMd.out nq
                      have hK3 := HKd.out nq
                      clear LK a0 a1 u0 u1 o0 HMd HKd HKe
                      generalize wr.drewN nq = wq at *
                      go_wp2_with (at_mapUpdate; refine put_b (k := (y : Int)) (y := true) rfl _ _ _ rfl rfl hM3 (by omega) rfl rfl (by omega) (by omega) ?_)
                      intro w6 hM6 hg6
                      have hK6 := hK3.grew hg6 (fun j e => by cases e; exact mbw)
                      rw [← UE.out] at hM6
                      have u5 : IntKind.i64.wrap ((P.length : Int) + 1) = (P.length : Int) + 1 := IntWalk.i64_in _ (by omega)
                      have pl : (P ++ [(j, y)]).length = P.length + 1 := by simp
                      have HPL := Lib.hid pl
                      clear pl
                      go_wp2
                      go_roundw
                      case rel => exact ⟨j + 1, P ++ [(j, y)], by omega, by go_num, by rw [HPL.out]; rfl, by rw [HPL.out]; omega, S2, by rw [HPL.out]; exact hM6, hK6⟩
                      case measure => simp [intOf]; omega
                · have b1 : (x'.2 != x.2) = true := by simpa using g1
                  clear TK FI US g0 g1
                  go_wp2_with fail
                  go_quiet (fail)
                  go_wp2
                  go_ret
                  exact ⟨rfl, HKe.out nq⟩
        · obtain rfl : j = r := by omega
          have LE := MO.out j P HP.out hr1
          have nb : decide ((j : Int) < (l.length : Int)) = false ∨ decide ((j : Int) < (o.length : Int)) = false := by
            rcases HRR.out with ⟨_, e⟩ | ⟨_, e⟩
            · exact .inl (by simp; omega)
            · exact .inr (by simp; omega)
          first
            | (have nc : ¬ ((j : Int) < (l.length : Int)) := by
                 have := HRR.out
                 omega)
            | (have nc : ¬ ((j : Int) < (o.length : Int)) := by
                 have := HRR.out
                 omega)
          have hK := hK13.trans hKr
          have OW := Lib.hid (HO1.out.later hKr)
          have sl : s.length ≤ 40 := by rw [TLn.out]; exact l40
          have kw := Lib.hid hK
          clear hlt hM hKr HP nb hK
          generalize P.length = np at *
          go_wp2
          go_loopw [17, 125] (fun v i wq => ∃ k : Nat, k ≤ s.length ∧ i = .int .i64 k ∧ v = .int .i64 (tdI (s.take k)) ∧ wr = wq) (fun _ i _ => s.length - (intOf i).toNat)
          case atStart => exact ⟨0, Nat.zero_le _, rfl, rfl, rfl⟩
          case round =>
            obtain ⟨k, hk, rfl, rfl, rfl⟩ := hrel
            by_cases hlt : k < s.length
            · have c0 := OW.out.cell k hlt
              have SN := Lib.hid (tdI_step hlt)
              have tb := tdI_bd (s.take k)
              rw [List.length_take] at tb
              have wr1 : IntKind.i64.wrap (tdI (s.take k) + 1) = tdI (s.take k) + 1 := IntWalk.i64_in _ (by omega)
              have i1 : (k : Int) < (s.length : Int) := by omega
              generalize s[k] = sk at *
              generalize tdI (s.take k) = td at *
              by_cases cz : 0 ≤ sk
              · rw [if_pos cz] at SN
                go_wp2
                go_roundw
                case rel => exact ⟨k + 1, by omega, by go_num, by rw [SN.out], trivial⟩
                case measure => simp [intOf]; omega
              · rw [if_neg cz, Int.add_zero] at SN
                go_wp2
                go_roundw
                case rel => exact ⟨k + 1, by omega, by go_num, by rw [SN.out], trivial⟩
                case measure => simp [intOf]; omega
            · obtain rfl : k = s.length := by omega
              rw [List.take_length]
              have le : decide ((np : Int) ≤ tdI s) = true := by simpa using LE
              clear hlt
              go_wp2
              go_ret
              exact ⟨by simp, kw.out⟩
  · have T1 := Lib.hid (tie_no a b l m cap cap' h w2 hl hl' (HA.out.later hK12) (HB.out.later hK12) er)
    have nb : (tiE l m h != 0) = true := by rw [bne_iff_ne]; exact er
    generalize tiE l m h = q at *
    clear er
    go_wp2_with fail
    refine T1.out.mono ?_
    rintro e w3 ⟨rfl, hK3⟩
    go_wp2
    go_ret
    exact ⟨rfl, hK12.trans hK3⟩
end Go.Proofs.Ytdgiljndoeldcaa
