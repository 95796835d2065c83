/-
  The law AgeSays: for all items, an amount, a day and bounds it answers true; nothing that was there is turned. No condition but those that each theorem names.
-/
import Derived.Test.YtdgiljndoeldcaaGRefP
import Derived.Test.YtdgiljndoeldcaaLawAgeTwice
import Derived.Test.YtdgiljndoeldcaaLawAgeSum
namespace Go.Proofs.Ytdgiljndoeldcaa
open Go.RowKit Go.Sort
set_option linter.unusedVariables false

/-- The first error, as the reference finds it. -/
def WaSt (F : Int) (bs : List Int) (j : Nat) (W : Int) : Prop := (W ≠ 0 ∧ F = W) ∨ (W = 0 ∧ bdF (bdP bs j) (bs.drop j) = F)
theorem WaSt.same {F : Int} {bs : List Int} {j : Nat} {W : Int} (h : WaSt F bs j W) (n : W ≠ 0) : WaSt F bs (j + 1) W := by
  rcases h with h | h
  · exact .inl h
  · exact absurd h.1 n
theorem WaSt.done {F : Int} {bs : List Int} {W : Int} (h : WaSt F bs bs.length W) : F = W := by
  rcases h with h | h
  · exact h.2
  · have := h.2
    rw [List.drop_length] at this
    rw [h.1, ← this]; rfl
theorem bdF_cons {F : Int} {bs : List Int} {j : Nat} (hj : j < bs.length) (h : WaSt F bs j 0) : F = if 0 ≤ bs[j] ∧ bs[j] ≤ 292193 then (if bdP bs j < bs[j] then bdF (bdP bs (j + 1)) (bs.drop (j + 1)) else 3) else 1 := by
  rcases h with h | h
  · exact absurd rfl h.1
  · rw [← h.2, List.drop_eq_getElem_cons hj, bdP_succ bs j hj]; rfl
theorem lit00 : itE [(0, 0)] = 1 := by decide +kernel
set_option maxRecDepth 100000 in
set_option maxHeartbeats 8000000 in
theorem ageSays_no (a b : Option Addr) (l : List Mv) (bs : List Int) (cap cap' : Nat) (n today : Int) (w : World) (hA : JArg eP w a l) (hB : JArg eI w b bs) (hl : l.length ≤ maxLen) (hb : bs.length ≤ maxLen) (er : itE l ≠ 0) :
    Calls Try.prog 3 #[.slice a l.length cap, .int .i64 n, .int .i64 today, .slice b bs.length cap'] w fun e w' => e = .returned (.bool true) ∧ Below w.heap.size w w' := by
  have ep : pyE l n = itE l := by unfold pyE; rw [if_neg er]
  have ea : aeE l today bs = itE l := by unfold aeE; rw [if_neg er]
  have P1 := Lib.hid (pay_no a l cap n w hl hA (by rw [ep]; exact er))
  have A1 := Lib.hid (fun (W : World) (k : Kept w W) => ages_no a b l bs cap cap' today W hl hb (hA.later k) (hB.later k) (by rw [ea]; exact er))
  have R1 := Lib.hid (fun (W : World) (k : Kept w W) => ritems_any a l cap W hl (hA.later k))
  have C1 := Lib.hid (fun (W : World) (k : Kept w W) => acheck_any a l cap W hl (hA.later k))
  have C2 := Lib.hid (fun (W : World) => show Calls Try.prog 18 #[.slice (some ⟨W.heap.size, 0, none⟩) 1 1] (W.alloc (.cells #[.int .i64 0, .int .i64 0] 31)) _ from acheck_any (some ⟨W.heap.size, 0, none⟩) [(0, 0)] 1 (W.alloc (.cells #[.int .i64 0, .int .i64 0] 31)) (by decide) (JArg.lit eP _ _ _ rfl rfl))
  rw [lit00] at C2
  rw [ep] at P1
  rw [ea] at A1
  have nb : (itE l != 0) = true := by rw [bne_iff_ne]; exact er
  have n2 : (itE l != itE l) = false := by simp
  have n3 : (itE l == itE l) = true := by simp
  generalize itE l = x at *
  clear hA hB er ep ea
  go_enter Try.func3, Try.ntmps3
  go_wp2_with fail
  refine P1.out.mono ?_
  rintro e w1 ⟨rfl, hK1⟩
  go_wp2_with fail
  refine (A1.out _ hK1).mono ?_
  rintro e w2 ⟨rfl, hK2⟩
  have hK12 := hK1.trans hK2
  go_wp2_with fail
  refine (R1.out _ hK12).mono ?_
  rintro e w3 ⟨rfl, hK3⟩
  have hK13 := hK12.trans hK3
  go_wp2_with fail
  refine (C1.out _ hK13).mono ?_
  rintro e w4 ⟨rfl, hK4⟩
  have hK14 := hK13.trans hK4
  have D2 := Lib.hid (C2.out w4)
  have kB := hK14.alloc (.cells #[.int .i64 0, .int .i64 0] 31)
  clear C2 hK1 hK2 hK12 hK3 hK13 hK4
  go_wp2_with fail
  refine D2.out.mono ?_
  rintro e w5 ⟨rfl, hK5⟩
  go_wp2
  go_ret
  exact ⟨rfl, kB.trans hK5⟩
set_option maxRecDepth 100000 in
set_option maxHeartbeats 16000000 in
theorem ageSays_yy (a b : Option Addr) (l : List Mv) (bs : List Int) (cap cap' : Nat) (n today : Int) (w : World) (hA : JArg eP w a l) (hB : JArg eI w b bs) (z : a = none → cap = 0) (hl : l.length ≤ maxLen) (hb : bs.length ≤ maxLen) (ok : ItOk l) (hp : 0 ≤ n ∧ n ≤ 1000000000000) (ha : aeE l today bs = 0) :
    Calls Try.prog 3 #[.slice a l.length cap, .int .i64 n, .int .i64 today, .slice b bs.length cap'] w fun e w' => e = .returned (.bool true) ∧ Below w.heap.size w w' := by
  have l40 : l.length ≤ 40 := ok.len
  have bl2 : bs.length ≤ 9223372036854775807 := hb
  have ie := itE_iff.2 ok
  have R1 := Lib.hid (fun (W : World) (k : Kept w W) => ritems_any a l cap W hl (hA.later k))
  have C1 := Lib.hid (fun (W : World) (k : Kept w W) => acheck_any a l cap W hl (hA.later k))
  have C2 := Lib.hid (fun (W : World) => show Calls Try.prog 18 #[.slice (some ⟨W.heap.size, 0, none⟩) 1 1] (W.alloc (.cells #[.int .i64 0, .int .i64 0] 31)) _ from acheck_any (some ⟨W.heap.size, 0, none⟩) [(0, 0)] 1 (W.alloc (.cells #[.int .i64 0, .int .i64 0] 31)) (by decide) (JArg.lit eP _ _ _ rfl rfl))
  rw [lit00] at C2
  rw [ie] at R1 C1
  have HB := Lib.hid hB
  have HA := Lib.hid hA
  have EA := Lib.hid (show aeE l today bs = if 0 ≤ today ∧ today ≤ 292193 then (if 40 < bs.length then 2 else bdF (-1) bs) else 1 from by unfold aeE bdE; rw [if_pos ie])
  have P1 := Lib.hid (pay_yes a l cap n w hA z ok hp.1 hp.2)
  have Q1 := Lib.hid (fun (W : World) (k : Kept w W) => rpay_any a l cap n W (hA.later k) ok hp.1 hp.2)
  have PL := Lib.hid (payl_ok ok hp.1).1.len
  obtain ⟨p1, p2⟩ := hp
  have q1 : decide (n < 0) = false := by simpa using p1
  have q2 : decide (1000000000000 < n) = false := by simpa using p2
  unfold PayPost PayM at P1
  generalize payL (srtD l) n = pm at *
  generalize payR (srtD l) n = pr at *
  have ok2 := aeE_ok ha
  have b40 : bs.length ≤ 40 := ok2.bd.len
  have A1 := Lib.hid (fun (W : World) (k : Kept w W) => ages_yes a b l bs cap cap' today W (hA.later k) (hB.later k) ha)
  have d0 := ok2.d0
  have d1 := ok2.d1
  have BD := Lib.hid ok2.bd
  have IT := Lib.hid ok.it
  have AL := Lib.hid (show tab (bs.length + 1) (agF bs today l l.length) = agL bs today l by unfold tab agL agF; rw [List.take_length])
  have LN := Lib.hid (agL_len bs today l)
  generalize agL bs today l = res at *
  rw [ha] at EA
  clear hA hB ok ie z ha
  go_enter Try.func3, Try.ntmps3
  go_wp2_with fail
  refine P1.out.mono ?_
  rintro e w1 ⟨ax, cx, rfl, hX, hK1⟩
  have HX := Lib.hid hX.arg
  clear P1 hX
  go_wp2_with fail
  refine (A1.out _ hK1).mono ?_
  rintro e w2 ⟨g1, rfl, hg1, hY, hK2⟩
  have HY := Lib.hid hY
  clear hY hg1
  have hK12 := hK1.trans hK2
  go_wp2_with fail
  refine (R1.out _ hK12).mono ?_
  rintro e w3 ⟨rfl, hK3⟩
  have hK13 := hK12.trans hK3
  go_wp2_with fail
  refine (C1.out _ hK13).mono ?_
  rintro e w4 ⟨rfl, hK4⟩
  have hK14 := hK13.trans hK4
  have D2 := Lib.hid (C2.out w4)
  have kB := hK14.alloc (.cells #[.int .i64 0, .int .i64 0] 31)
  have k4B := (Kept.refl w4).alloc (.cells #[.int .i64 0, .int .i64 0] 31)
  go_wp2_with fail
  refine D2.out.mono ?_
  rintro e w5 ⟨rfl, hK5⟩
  have hK15 := kB.trans hK5
  have hK25 := ((hK3.trans hK4).trans k4B).trans hK5
  have HX5 := Lib.hid ((HX.out.later hK2).later hK25)
  have HY5 := Lib.hid (HY.out.later hK25)
  clear A1 R1 C1 C2 D2 hK1 hK2 hK12 hK3 hK13 hK4 hK14 kB k4B hK5 hK25
  go_wp2_with fail
  refine (Q1.out _ hK15).mono ?_
  rintro e w6 ⟨ap, cp, rfl, hP, hK6⟩
  have EQ := Lib.hid (itequal_yes pm ax ap pm.length cx cp w6 (by have := PL.out; omega) rfl (HX5.out.later hK6) hP)
  have hK16 := hK15.trans hK6
  have HY6 := Lib.hid (HY5.out.later hK6)
  have pp : (pr != pr) = false := by simp
  clear Q1 hP hK15 HX HX5
  go_wp2_with fail
  refine EQ.out.mono ?_
  rintro e w7 ⟨rfl, hK7⟩
  have hK := hK16.trans hK7
  have HYZ := Lib.hid (HY6.out.later hK7)
  clear HY HY5 HY6
  clear EQ hK16 hK6 hK7
  go_wp2_with fail
  refine (gday_any _ _).mono ?_
  rintro e w8 ⟨rfl, rfl⟩
  rw [(inG_yes d0 d1)]
  have EF := Lib.hid (show bdF (-1) bs = 0 from by
    have := EA.out
    rw [if_pos ⟨d0, d1⟩, if_neg (by omega)] at this
    exact this.symm)
  go_wp2
  go_loopw [14, 117] (fun v i wr => ∃ (j : Nat) (W : Int), j ≤ bs.length ∧ i = .int .i64 j ∧ v = .int .i64 W ∧ Hid (WaSt 0 bs j W) ∧ Kept w7 wr) (fun _ i _ => bs.length - (intOf i).toNat)
  case atStart => exact ⟨0, 0, Nat.zero_le _, rfl, rfl, Lib.hid (by exact .inr ⟨rfl, EF.out⟩), Kept.refl _⟩
  case round =>
    obtain ⟨j, W, hj, rfl, rfl, HW, hKr⟩ := hrel
    by_cases hlt : j < bs.length
    · obtain ⟨p, off, rfl, hR⟩ := (HB.out.later (hK.trans hKr)).at hlt
      have c0 := hR.i j hlt
      have j1 : (j : Int) < (bs.length : Int) := by omega
      by_cases w0 : W = 0
      · subst w0
        have ST := Lib.hid (bdF_cons hlt HW.out)
        by_cases r1 : 0 ≤ bs[j] ∧ bs[j] ≤ 292193
        · have I2 := Lib.hid (inG_yes r1.1 r1.2)
          by_cases k0 : j = 0
          · subst k0
            have c00 : wr.cell? ⟨p, off, none⟩ = some (.int .i64 bs[0]) := by rw [← Nat.add_zero off]; exact c0
            have ep : bdP bs 0 = -1 := rfl
            have HX2 := Lib.hid (show WaSt 0 bs (0 + 1) 0 from by
              have := ST.out
              rw [if_pos r1, ep, if_pos (by omega)] at this
              exact .inr ⟨rfl, this.symm⟩)
            clear hR ST HW ep r1
            generalize bs[0] = x at *
            go_wp2_with fail
            refine (gday_any _ _).mono ?_
            rintro e w9 ⟨rfl, rfl⟩
            rw [I2.out]
            go_wp2
            go_roundw
            case rel => exact ⟨0 + 1, 0, by omega, by go_num, rfl, HX2, hKr⟩
            case measure => simp [intOf]; omega
          · obtain ⟨q, rfl⟩ : ∃ q, j = q + 1 := ⟨j - 1, by omega⟩
            have hq : q < bs.length := by omega
            have ep := bdP_succ bs q hq
            have c1 := hR.i q hq
            have q1 : (q : Int) < (bs.length : Int) := by omega
            by_cases r4 : bs[q] < bs[q + 1]
            · have HX2 := Lib.hid (show WaSt 0 bs (q + 1 + 1) 0 from by
                have := ST.out
                rw [if_pos r1, ep, if_pos r4] at this
                exact .inr ⟨rfl, this.symm⟩)
              have r5 : decide (bs[q + 1] ≤ bs[q]) = false := by simp; omega
              clear hR ST HW ep r1 r4
              generalize bs[q + 1] = x at *
              generalize bs[q] = y at *
              go_wp2_with fail
              refine (gday_any _ _).mono ?_
              rintro e w9 ⟨rfl, rfl⟩
              rw [I2.out]
              go_wp2
              go_roundw
              case rel => exact ⟨q + 1 + 1, 0, by omega, by go_num, rfl, HX2, hKr⟩
              case measure => simp [intOf]; omega
            · have HX2 := Lib.hid (show WaSt 0 bs (q + 1 + 1) 3 from by
                have := ST.out
                rw [if_pos r1, ep, if_neg r4] at this
                exact .inl ⟨by decide, this⟩)
              have r5 : decide (bs[q + 1] ≤ bs[q]) = true := by simp; omega
              clear hR ST HW ep r1 r4
              generalize bs[q + 1] = x at *
              generalize bs[q] = y at *
              go_wp2_with fail
              refine (gday_any _ _).mono ?_
              rintro e w9 ⟨rfl, rfl⟩
              rw [I2.out]
              go_wp2
              go_roundw
              case rel => exact ⟨q + 1 + 1, 3, by omega, by go_num, rfl, HX2, hKr⟩
              case measure => simp [intOf]; omega
        · have I2 := Lib.hid (inG_no r1)
          have HX2 := Lib.hid (show WaSt 0 bs (j + 1) 1 from by
            have := ST.out
            rw [if_neg r1] at this
            exact .inl ⟨by decide, this⟩)
          clear hR ST HW r1
          generalize bs[j] = x at *
          go_wp2_with fail
          refine (gday_any _ _).mono ?_
          rintro e w9 ⟨rfl, rfl⟩
          rw [I2.out]
          go_wp2
          go_roundw
          case rel => exact ⟨j + 1, 1, by omega, by go_num, rfl, HX2, hKr⟩
          case measure => simp [intOf]; omega
      · have HX2 := Lib.hid (HW.out.same w0)
        have wb : (W == 0) = false := by rw [beq_eq_false_iff_ne]; exact w0
        clear hR HW w0
        go_wp2
        go_roundw
        case rel => exact ⟨j + 1, W, by omega, by go_num, rfl, HX2, hKr⟩
        case measure => simp [intOf]; omega
    · obtain rfl : j = bs.length := by omega
      have FW := HW.out.done
      have hKz := hK.trans hKr
      obtain rfl : W = 0 := FW.symm
      have HYr := Lib.hid (HYZ.out.later hKr)
      have mk : (Instr.makeSlice 23 (.int .i64 ((bs.length : Int) + 1)) (.int .i64 ((bs.length : Int) + 1))).run Try.prog wr = .ok (.slice (some ⟨wr.heap.size, 0, none⟩) (bs.length + 1) (bs.length + 1)) (wr.alloc (.cells (zs (bs.length + 1)) 3)) := make_ints (bs.length + 1) (by omega) wr
      clear hlt HW hKr FW
      go_wp2
      have hO := Own.made (w := wr) (n := bs.length + 1) (t := 3) rfl
      have kM := (Kept.refl wr).alloc (.cells (zs (bs.length + 1)) 3)
      rw [tab_zero] at hO
      have gg := HYr.out.lt
      generalize hg2 : wr.heap.size = g2 at *
      have gw : wr.heap.size ≤ g2 := by omega
      have HG2 := Lib.hid hg2
      clear mk hg2
      generalize wr.alloc (.cells (zs (bs.length + 1)) 3) = w9 at *
      generalize wr = wo at *
      go_loopw [161] (fun i wq => ∃ j : Nat, j ≤ l.length ∧ i = .int .i64 j ∧ Own wq g2 (tab (bs.length + 1) (agF bs today l j)) ∧ Kept wo wq) (fun i _ => l.length - (intOf i).toNat)
      case atStart => exact ⟨0, Nat.zero_le _, rfl, hO, kM⟩
      case round =>
        clear hO kM
        obtain ⟨j, hj, rfl, hOr, hKr⟩ := hrel
        by_cases hlt : j < l.length
        · obtain ⟨p, off, rfl, hR⟩ := (HA.out.later (hKz.trans hKr)).at hlt
          have c0 := hR.c0 j hlt
          have c1 := hR.c1 j hlt
          have plt := hR.lt
          have X := IT.out l[j] (List.getElem_mem hlt)
          have SU := Lib.hid (agF_succ bs today l j hlt)
          have blt : bkD bs today l[j] < bs.length + 1 := by have := bkD_le bs today l[j]; omega
          have BB := agK_bd bs today (bkD bs today l[j]) (l := l.take j) (fun x hx => IT.out x (List.mem_of_mem_take hx))
          have BL : ((l.take j).length : Int) ≤ 40 := by rw [List.length_take]; omega
          have LL := Lib.hid (fun (t : Nat) (ht : t < bs.length) => show t < bkD bs today l[j] ↔ bs[t] < ageD today l[j] from loI_lt BD.out.inc ht)
          have EA2 := Lib.hid (show ageD today l[j] = max 0 (today - (l[j]).1) from rfl)
          change 0 ≤ agF bs today l j (bkD bs today l[j]) ∧ agF bs today l j (bkD bs today l[j]) ≤ _ at BB
          have j1 : (j : Int) < (l.length : Int) := by omega
          generalize ageD today l[j] = ag at *
          generalize bkD bs today l[j] = q at *
          generalize l[j] = x at *
          have kB := (Kept.refl wr).alloc (.cells #[.int .i64 x.1, .int .i64 x.2] 31)
          have hOA := Lib.hid (hOr.later kB)
          have hKA := Lib.hid (hKr.trans kB)
          have HBA := Lib.hid (HB.out.later ((hKz.trans hKr).trans kB))
          have bx0 : (wr.alloc (.cells #[.int .i64 x.1, .int .i64 x.2] 31)).cell? ⟨wr.heap.size, 0, none⟩ = some (.int .i64 x.1) := by simp
          have bx1 : (wr.alloc (.cells #[.int .i64 x.1, .int .i64 x.2] 31)).cell? ⟨wr.heap.size, 1, none⟩ = some (.int .i64 x.2) := by simp
          have bxne : wr.heap.size ≠ g2 := by have := hOr.lt; omega
          have wsub : IntKind.i64.wrap (today - x.1) = today - x.1 := IntWalk.i64_in _ (by omega)
          have wsum : IntKind.i64.wrap (agF bs today l j q + x.2) = agF bs today l j q + x.2 := IntWalk.i64_in _ (by omega)
          clear hOr hKr hR X BB BL kB
          go_upto_region 32 with fail
          generalize wr.alloc (.cells #[.int .i64 x.1, .int .i64 x.2] 31) = wa at *
          generalize wr.heap.size = bx at *
          clear c0 c1 plt
          go_wp2
          go_loopw [22] (fun i wq => ∃ t : Nat, t ≤ q ∧ i = .int .i64 t ∧ Drew wa wq) (fun i _ => bs.length - (intOf i).toNat)
          case atStart => exact ⟨0, Nat.zero_le _, rfl, Drew.refl _⟩
          case round =>
            obtain ⟨t, ht, rfl, hD⟩ := hrel
            have kd := hD.kept
            have bx0' : wr.cell? ⟨bx, 0, none⟩ = some (.int .i64 x.1) := by obtain ⟨m, rfl⟩ := hD; exact bx0
            by_cases htl : t < bs.length
            · obtain ⟨p3, off3, rfl, hS⟩ := (HBA.out.later kd).at htl
              have s0 := hS.i t htl
              have LT := Lib.hid (LL.out t htl)
              have t1 : (t : Int) < (bs.length : Int) := by omega
              clear hS
              generalize bs[t] = bt at *
              by_cases c : bt < ag
              · have tq := LT.out.2 c
                have cb : decide (bt < max 0 (today - x.1)) = true := by rw [← EA2.out]; simpa using c
                clear c
                go_wp2_with fail
                go_quiet (fail)
                go_wp2
                go_roundw
                case rel => exact ⟨t + 1, by omega, by go_num, hD.drewN nq⟩
                case measure => simp [intOf]; omega
              · have tq : t = q := by
                  have : ¬ t < q := fun k => c (LT.out.1 k)
                  omega
                subst tq
                have cb : decide (bt < max 0 (today - x.1)) = false := by rw [← EA2.out]; simpa using c
                clear c LT
                go_wp2_with fail
                go_quiet (fail)
                have ke := (Kept.refl wr).drewN nq
                have hO5 := hOA.out.later (kd.trans ke)
                have hK5 := hKA.out.trans (kd.trans ke)
                have b1 : (wr.drewN nq).cell? ⟨bx, 1, none⟩ = some (.int .i64 x.2) := by obtain ⟨m, rfl⟩ := hD; exact bx1
                have S1 := hO5.drew.set t (agF bs today l j t + x.2) (by rw [tab_len]; exact blt)
                rw [tab_set, SU.out] at S1
                have HS := Lib.hid S1
                have g0 := hO5.cell t (by rw [tab_len]; exact blt)
                have gf := hO5.free t (by rw [tab_len]; exact blt)
                rw [tab_get] at g0
                have HK5 := Lib.hid hK5
                have qi2 : (t : Int) < (bs.length : Int) + 1 := by omega
                clear S1 hO5 hK5 ke SU bx0 bx1 bx0' hOA hKA
                generalize agF bs today l j t = sq at *
                generalize wr.drewN nq = wd at *
                go_wp2
                go_region
                all_goals go_wp2
                all_goals
                  go_roundw
                  case rel => exact ⟨j + 1, by omega, by go_num, HS.out, HK5.out.drew.setAt gw _⟩
                  case measure => simp [intOf]; omega
            · obtain rfl : t = q := by omega
              have nb2 : decide ((t : Int) < (bs.length : Int)) = false := by simp; omega
              have nb3 : decide (t < bs.length) = false := by simp; omega
              clear htl
              go_wp2_with fail
              go_quiet (fail)
              have ke := (Kept.refl wr).drewN nq
              have hO5 := hOA.out.later (kd.trans ke)
              have hK5 := hKA.out.trans (kd.trans ke)
              have b1 : (wr.drewN nq).cell? ⟨bx, 1, none⟩ = some (.int .i64 x.2) := by obtain ⟨m, rfl⟩ := hD; exact bx1
              have S1 := hO5.drew.set t (agF bs today l j t + x.2) (by rw [tab_len]; exact blt)
              rw [tab_set, SU.out] at S1
              have HS := Lib.hid S1
              have g0 := hO5.cell t (by rw [tab_len]; exact blt)
              have gf := hO5.free t (by rw [tab_len]; exact blt)
              rw [tab_get] at g0
              have HK5 := Lib.hid hK5
              have qi2 : (t : Int) < (bs.length : Int) + 1 := by omega
              clear S1 hO5 hK5 ke SU bx0 bx1 bx0' hOA hKA
              generalize agF bs today l j t = sq at *
              generalize wr.drewN nq = wd at *
              go_wp2
              go_region
              all_goals go_wp2
              all_goals
                go_roundw
                case rel => exact ⟨j + 1, by omega, by go_num, HS.out, HK5.out.drew.setAt gw _⟩
                case measure => simp [intOf]; omega
        · obtain rfl : j = l.length := by omega
          rw [AL.out] at hOr
          have EQ := Lib.hid (iequal_yes res (some ⟨g1, 0, none⟩) (some ⟨g2, 0, none⟩) (bs.length + 1) (bs.length + 1) (bs.length + 1) wr (by rw [LN.out]; omega) LN.out (own_arg (HYr.out.later hKr)) (own_arg hOr))
          have hKq := hKz.trans hKr
          rw [LN.out]
          clear hlt hOr
          go_wp2_with fail
          refine EQ.out.mono ?_
          rintro e wz ⟨rfl, hKe⟩
          go_wp2
          go_ret
          exact ⟨rfl, hKq.trans hKe⟩
set_option maxRecDepth 100000 in
set_option maxHeartbeats 16000000 in
theorem ageSays_yn (a b : Option Addr) (l : List Mv) (bs : List Int) (cap cap' : Nat) (n today : Int) (w : World) (hA : JArg eP w a l) (hB : JArg eI w b bs) (z : a = none → cap = 0) (hl : l.length ≤ maxLen) (hb : bs.length ≤ maxLen) (ok : ItOk l) (hp : 0 ≤ n ∧ n ≤ 1000000000000) (ha : aeE l today bs ≠ 0) :
    Calls Try.prog 3 #[.slice a l.length cap, .int .i64 n, .int .i64 today, .slice b bs.length cap'] w fun e w' => e = .returned (.bool true) ∧ Below w.heap.size w w' := by
  have l40 : l.length ≤ 40 := ok.len
  have bl2 : bs.length ≤ 9223372036854775807 := hb
  have ie := itE_iff.2 ok
  have R1 := Lib.hid (fun (W : World) (k : Kept w W) => ritems_any a l cap W hl (hA.later k))
  have C1 := Lib.hid (fun (W : World) (k : Kept w W) => acheck_any a l cap W hl (hA.later k))
  have C2 := Lib.hid (fun (W : World) => show Calls Try.prog 18 #[.slice (some ⟨W.heap.size, 0, none⟩) 1 1] (W.alloc (.cells #[.int .i64 0, .int .i64 0] 31)) _ from acheck_any (some ⟨W.heap.size, 0, none⟩) [(0, 0)] 1 (W.alloc (.cells #[.int .i64 0, .int .i64 0] 31)) (by decide) (JArg.lit eP _ _ _ rfl rfl))
  rw [lit00] at C2
  rw [ie] at R1 C1
  have HB := Lib.hid hB
  have HA := Lib.hid hA
  have EA := Lib.hid (show aeE l today bs = if 0 ≤ today ∧ today ≤ 292193 then (if 40 < bs.length then 2 else bdF (-1) bs) else 1 from by unfold aeE bdE; rw [if_pos ie])
  have P1 := Lib.hid (pay_yes a l cap n w hA z ok hp.1 hp.2)
  have Q1 := Lib.hid (fun (W : World) (k : Kept w W) => rpay_any a l cap n W (hA.later k) ok hp.1 hp.2)
  have PL := Lib.hid (payl_ok ok hp.1).1.len
  obtain ⟨p1, p2⟩ := hp
  have q1 : decide (n < 0) = false := by simpa using p1
  have q2 : decide (1000000000000 < n) = false := by simpa using p2
  unfold PayPost PayM at P1
  generalize payL (srtD l) n = pm at *
  generalize payR (srtD l) n = pr at *
  have A1 := Lib.hid (fun (W : World) (k : Kept w W) => ages_no a b l bs cap cap' today W hl hb (hA.later k) (hB.later k) ha)
  have HF := Lib.hid ha
  generalize aeE l today bs = F at *
  clear hA hB ok ie z ha
  go_enter Try.func3, Try.ntmps3
  go_wp2_with fail
  refine P1.out.mono ?_
  rintro e w1 ⟨ax, cx, rfl, hX, hK1⟩
  have HX := Lib.hid hX.arg
  clear P1 hX
  go_wp2_with fail
  refine (A1.out _ hK1).mono ?_
  rintro e w2 ⟨rfl, hK2⟩
  have hK12 := hK1.trans hK2
  go_wp2_with fail
  refine (R1.out _ hK12).mono ?_
  rintro e w3 ⟨rfl, hK3⟩
  have hK13 := hK12.trans hK3
  go_wp2_with fail
  refine (C1.out _ hK13).mono ?_
  rintro e w4 ⟨rfl, hK4⟩
  have hK14 := hK13.trans hK4
  have D2 := Lib.hid (C2.out w4)
  have kB := hK14.alloc (.cells #[.int .i64 0, .int .i64 0] 31)
  have k4B := (Kept.refl w4).alloc (.cells #[.int .i64 0, .int .i64 0] 31)
  go_wp2_with fail
  refine D2.out.mono ?_
  rintro e w5 ⟨rfl, hK5⟩
  have hK15 := kB.trans hK5
  have hK25 := ((hK3.trans hK4).trans k4B).trans hK5
  have HX5 := Lib.hid ((HX.out.later hK2).later hK25)
  clear A1 R1 C1 C2 D2 hK1 hK2 hK12 hK3 hK13 hK4 hK14 kB k4B hK5 hK25
  go_wp2_with fail
  refine (Q1.out _ hK15).mono ?_
  rintro e w6 ⟨ap, cp, rfl, hP, hK6⟩
  have EQ := Lib.hid (itequal_yes pm ax ap pm.length cx cp w6 (by have := PL.out; omega) rfl (HX5.out.later hK6) hP)
  have hK16 := hK15.trans hK6
  have pp : (pr != pr) = false := by simp
  clear Q1 hP hK15 HX HX5
  go_wp2_with fail
  refine EQ.out.mono ?_
  rintro e w7 ⟨rfl, hK7⟩
  have hK := hK16.trans hK7
  clear EQ hK16 hK6 hK7
  go_wp2_with fail
  refine (gday_any _ _).mono ?_
  rintro e w8 ⟨rfl, rfl⟩
  by_cases td : 0 ≤ today ∧ today ≤ 292193
  · rw [inG_yes td.1 td.2]
    by_cases big : 40 < bs.length
    · have EF := Lib.hid (show F = 2 from by rw [EA.out, if_pos td, if_pos big])
      have bb : decide ((40 : Int) < (bs.length : Int)) = true := by simp; omega
      go_wp2
      go_loopw [14, 117] (fun v i wr => ∃ (j : Nat) (W : Int), j ≤ bs.length ∧ i = .int .i64 j ∧ v = .int .i64 W ∧ Hid (WaSt F bs j W) ∧ Kept w7 wr) (fun _ i _ => bs.length - (intOf i).toNat)
      case atStart => exact ⟨0, 2, Nat.zero_le _, rfl, rfl, Lib.hid (by exact .inl ⟨by decide, EF.out⟩), Kept.refl _⟩
      case round =>
        obtain ⟨j, W, hj, rfl, rfl, HW, hKr⟩ := hrel
        by_cases hlt : j < bs.length
        · obtain ⟨p, off, rfl, hR⟩ := (HB.out.later (hK.trans hKr)).at hlt
          have c0 := hR.i j hlt
          have j1 : (j : Int) < (bs.length : Int) := by omega
          by_cases w0 : W = 0
          · subst w0
            have ST := Lib.hid (bdF_cons hlt HW.out)
            by_cases r1 : 0 ≤ bs[j] ∧ bs[j] ≤ 292193
            · have I2 := Lib.hid (inG_yes r1.1 r1.2)
              by_cases k0 : j = 0
              · subst k0
                have c00 : wr.cell? ⟨p, off, none⟩ = some (.int .i64 bs[0]) := by rw [← Nat.add_zero off]; exact c0
                have ep : bdP bs 0 = -1 := rfl
                have HX2 := Lib.hid (show WaSt F bs (0 + 1) 0 from by
                  have := ST.out
                  rw [if_pos r1, ep, if_pos (by omega)] at this
                  exact .inr ⟨rfl, this.symm⟩)
                clear hR ST HW ep r1
                generalize bs[0] = x at *
                go_wp2_with fail
                refine (gday_any _ _).mono ?_
                rintro e w9 ⟨rfl, rfl⟩
                rw [I2.out]
                go_wp2
                go_roundw
                case rel => exact ⟨0 + 1, 0, by omega, by go_num, rfl, HX2, hKr⟩
                case measure => simp [intOf]; omega
              · obtain ⟨q, rfl⟩ : ∃ q, j = q + 1 := ⟨j - 1, by omega⟩
                have hq : q < bs.length := by omega
                have ep := bdP_succ bs q hq
                have c1 := hR.i q hq
                have q1 : (q : Int) < (bs.length : Int) := by omega
                by_cases r4 : bs[q] < bs[q + 1]
                · have HX2 := Lib.hid (show WaSt F bs (q + 1 + 1) 0 from by
                    have := ST.out
                    rw [if_pos r1, ep, if_pos r4] at this
                    exact .inr ⟨rfl, this.symm⟩)
                  have r5 : decide (bs[q + 1] ≤ bs[q]) = false := by simp; omega
                  clear hR ST HW ep r1 r4
                  generalize bs[q + 1] = x at *
                  generalize bs[q] = y at *
                  go_wp2_with fail
                  refine (gday_any _ _).mono ?_
                  rintro e w9 ⟨rfl, rfl⟩
                  rw [I2.out]
                  go_wp2
                  go_roundw
                  case rel => exact ⟨q + 1 + 1, 0, by omega, by go_num, rfl, HX2, hKr⟩
                  case measure => simp [intOf]; omega
                · have HX2 := Lib.hid (show WaSt F bs (q + 1 + 1) 3 from by
                    have := ST.out
                    rw [if_pos r1, ep, if_neg r4] at this
                    exact .inl ⟨by decide, this⟩)
                  have r5 : decide (bs[q + 1] ≤ bs[q]) = true := by simp; omega
                  clear hR ST HW ep r1 r4
                  generalize bs[q + 1] = x at *
                  generalize bs[q] = y at *
                  go_wp2_with fail
                  refine (gday_any _ _).mono ?_
                  rintro e w9 ⟨rfl, rfl⟩
                  rw [I2.out]
                  go_wp2
                  go_roundw
                  case rel => exact ⟨q + 1 + 1, 3, by omega, by go_num, rfl, HX2, hKr⟩
                  case measure => simp [intOf]; omega
            · have I2 := Lib.hid (inG_no r1)
              have HX2 := Lib.hid (show WaSt F bs (j + 1) 1 from by
                have := ST.out
                rw [if_neg r1] at this
                exact .inl ⟨by decide, this⟩)
              clear hR ST HW r1
              generalize bs[j] = x at *
              go_wp2_with fail
              refine (gday_any _ _).mono ?_
              rintro e w9 ⟨rfl, rfl⟩
              rw [I2.out]
              go_wp2
              go_roundw
              case rel => exact ⟨j + 1, 1, by omega, by go_num, rfl, HX2, hKr⟩
              case measure => simp [intOf]; omega
          · have HX2 := Lib.hid (HW.out.same w0)
            have wb : (W == 0) = false := by rw [beq_eq_false_iff_ne]; exact w0
            clear hR HW w0
            go_wp2
            go_roundw
            case rel => exact ⟨j + 1, W, by omega, by go_num, rfl, HX2, hKr⟩
            case measure => simp [intOf]; omega
        · obtain rfl : j = bs.length := by omega
          have FW := HW.out.done
          have hKz := hK.trans hKr
          have ne := HF.out
          subst FW
          have nb2 : (F != 0) = true := by rw [bne_iff_ne]; exact ne
          have nb3 : (F == F) = true := by simp
          clear hlt HW ne
          go_wp2
          go_ret
          exact ⟨rfl, hKz⟩
    · have EF := Lib.hid (show bdF (-1) bs = F from by rw [EA.out, if_pos td, if_neg big])
      have bb : decide ((40 : Int) < (bs.length : Int)) = false := by simp; omega
      go_wp2
      go_loopw [14, 117] (fun v i wr => ∃ (j : Nat) (W : Int), j ≤ bs.length ∧ i = .int .i64 j ∧ v = .int .i64 W ∧ Hid (WaSt F bs j W) ∧ Kept w7 wr) (fun _ i _ => bs.length - (intOf i).toNat)
      case atStart => exact ⟨0, 0, Nat.zero_le _, rfl, rfl, Lib.hid (by exact .inr ⟨rfl, EF.out⟩), Kept.refl _⟩
      case round =>
        obtain ⟨j, W, hj, rfl, rfl, HW, hKr⟩ := hrel
        by_cases hlt : j < bs.length
        · obtain ⟨p, off, rfl, hR⟩ := (HB.out.later (hK.trans hKr)).at hlt
          have c0 := hR.i j hlt
          have j1 : (j : Int) < (bs.length : Int) := by omega
          by_cases w0 : W = 0
          · subst w0
            have ST := Lib.hid (bdF_cons hlt HW.out)
            by_cases r1 : 0 ≤ bs[j] ∧ bs[j] ≤ 292193
            · have I2 := Lib.hid (inG_yes r1.1 r1.2)
              by_cases k0 : j = 0
              · subst k0
                have c00 : wr.cell? ⟨p, off, none⟩ = some (.int .i64 bs[0]) := by rw [← Nat.add_zero off]; exact c0
                have ep : bdP bs 0 = -1 := rfl
                have HX2 := Lib.hid (show WaSt F bs (0 + 1) 0 from by
                  have := ST.out
                  rw [if_pos r1, ep, if_pos (by omega)] at this
                  exact .inr ⟨rfl, this.symm⟩)
                clear hR ST HW ep r1
                generalize bs[0] = x at *
                go_wp2_with fail
                refine (gday_any _ _).mono ?_
                rintro e w9 ⟨rfl, rfl⟩
                rw [I2.out]
                go_wp2
                go_roundw
                case rel => exact ⟨0 + 1, 0, by omega, by go_num, rfl, HX2, hKr⟩
                case measure => simp [intOf]; omega
              · obtain ⟨q, rfl⟩ : ∃ q, j = q + 1 := ⟨j - 1, by omega⟩
                have hq : q < bs.length := by omega
                have ep := bdP_succ bs q hq
                have c1 := hR.i q hq
                have q1 : (q : Int) < (bs.length : Int) := by omega
                by_cases r4 : bs[q] < bs[q + 1]
                · have HX2 := Lib.hid (show WaSt F bs (q + 1 + 1) 0 from by
                    have := ST.out
                    rw [if_pos r1, ep, if_pos r4] at this
                    exact .inr ⟨rfl, this.symm⟩)
                  have r5 : decide (bs[q + 1] ≤ bs[q]) = false := by simp; omega
                  clear hR ST HW ep r1 r4
                  generalize bs[q + 1] = x at *
                  generalize bs[q] = y at *
                  go_wp2_with fail
                  refine (gday_any _ _).mono ?_
                  rintro e w9 ⟨rfl, rfl⟩
                  rw [I2.out]
                  go_wp2
                  go_roundw
                  case rel => exact ⟨q + 1 + 1, 0, by omega, by go_num, rfl, HX2, hKr⟩
                  case measure => simp [intOf]; omega
                · have HX2 := Lib.hid (show WaSt F bs (q + 1 + 1) 3 from by
                    have := ST.out
                    rw [if_pos r1, ep, if_neg r4] at this
                    exact .inl ⟨by decide, this⟩)
                  have r5 : decide (bs[q + 1] ≤ bs[q]) = true := by simp; omega
                  clear hR ST HW ep r1 r4
                  generalize bs[q + 1] = x at *
                  generalize bs[q] = y at *
                  go_wp2_with fail
                  refine (gday_any _ _).mono ?_
                  rintro e w9 ⟨rfl, rfl⟩
                  rw [I2.out]
                  go_wp2
                  go_roundw
                  case rel => exact ⟨q + 1 + 1, 3, by omega, by go_num, rfl, HX2, hKr⟩
                  case measure => simp [intOf]; omega
            · have I2 := Lib.hid (inG_no r1)
              have HX2 := Lib.hid (show WaSt F bs (j + 1) 1 from by
                have := ST.out
                rw [if_neg r1] at this
                exact .inl ⟨by decide, this⟩)
              clear hR ST HW r1
              generalize bs[j] = x at *
              go_wp2_with fail
              refine (gday_any _ _).mono ?_
              rintro e w9 ⟨rfl, rfl⟩
              rw [I2.out]
              go_wp2
              go_roundw
              case rel => exact ⟨j + 1, 1, by omega, by go_num, rfl, HX2, hKr⟩
              case measure => simp [intOf]; omega
          · have HX2 := Lib.hid (HW.out.same w0)
            have wb : (W == 0) = false := by rw [beq_eq_false_iff_ne]; exact w0
            clear hR HW w0
            go_wp2
            go_roundw
            case rel => exact ⟨j + 1, W, by omega, by go_num, rfl, HX2, hKr⟩
            case measure => simp [intOf]; omega
        · obtain rfl : j = bs.length := by omega
          have FW := HW.out.done
          have hKz := hK.trans hKr
          have ne := HF.out
          subst FW
          have nb2 : (F != 0) = true := by rw [bne_iff_ne]; exact ne
          have nb3 : (F == F) = true := by simp
          clear hlt HW ne
          go_wp2
          go_ret
          exact ⟨rfl, hKz⟩
  · rw [inG_no td]
    have EF := Lib.hid (show F = 1 from by rw [EA.out, if_neg td])
    go_wp2
    go_loopw [14, 117] (fun v i wr => ∃ (j : Nat) (W : Int), j ≤ bs.length ∧ i = .int .i64 j ∧ v = .int .i64 W ∧ Hid (WaSt F bs j W) ∧ Kept w7 wr) (fun _ i _ => bs.length - (intOf i).toNat)
    case atStart => exact ⟨0, 1, Nat.zero_le _, rfl, rfl, Lib.hid (by exact .inl ⟨by decide, EF.out⟩), Kept.refl _⟩
    case round =>
      obtain ⟨j, W, hj, rfl, rfl, HW, hKr⟩ := hrel
      by_cases hlt : j < bs.length
      · obtain ⟨p, off, rfl, hR⟩ := (HB.out.later (hK.trans hKr)).at hlt
        have c0 := hR.i j hlt
        have j1 : (j : Int) < (bs.length : Int) := by omega
        by_cases w0 : W = 0
        · subst w0
          have ST := Lib.hid (bdF_cons hlt HW.out)
          by_cases r1 : 0 ≤ bs[j] ∧ bs[j] ≤ 292193
          · have I2 := Lib.hid (inG_yes r1.1 r1.2)
            by_cases k0 : j = 0
            · subst k0
              have c00 : wr.cell? ⟨p, off, none⟩ = some (.int .i64 bs[0]) := by rw [← Nat.add_zero off]; exact c0
              have ep : bdP bs 0 = -1 := rfl
              have HX2 := Lib.hid (show WaSt F bs (0 + 1) 0 from by
                have := ST.out
                rw [if_pos r1, ep, if_pos (by omega)] at this
                exact .inr ⟨rfl, this.symm⟩)
              clear hR ST HW ep r1
              generalize bs[0] = x at *
              go_wp2_with fail
              refine (gday_any _ _).mono ?_
              rintro e w9 ⟨rfl, rfl⟩
              rw [I2.out]
              go_wp2
              go_roundw
              case rel => exact ⟨0 + 1, 0, by omega, by go_num, rfl, HX2, hKr⟩
              case measure => simp [intOf]; omega
            · obtain ⟨q, rfl⟩ : ∃ q, j = q + 1 := ⟨j - 1, by omega⟩
              have hq : q < bs.length := by omega
              have ep := bdP_succ bs q hq
              have c1 := hR.i q hq
              have q1 : (q : Int) < (bs.length : Int) := by omega
              by_cases r4 : bs[q] < bs[q + 1]
              · have HX2 := Lib.hid (show WaSt F bs (q + 1 + 1) 0 from by
                  have := ST.out
                  rw [if_pos r1, ep, if_pos r4] at this
                  exact .inr ⟨rfl, this.symm⟩)
                have r5 : decide (bs[q + 1] ≤ bs[q]) = false := by simp; omega
                clear hR ST HW ep r1 r4
                generalize bs[q + 1] = x at *
                generalize bs[q] = y at *
                go_wp2_with fail
                refine (gday_any _ _).mono ?_
                rintro e w9 ⟨rfl, rfl⟩
                rw [I2.out]
                go_wp2
                go_roundw
                case rel => exact ⟨q + 1 + 1, 0, by omega, by go_num, rfl, HX2, hKr⟩
                case measure => simp [intOf]; omega
              · have HX2 := Lib.hid (show WaSt F bs (q + 1 + 1) 3 from by
                  have := ST.out
                  rw [if_pos r1, ep, if_neg r4] at this
                  exact .inl ⟨by decide, this⟩)
                have r5 : decide (bs[q + 1] ≤ bs[q]) = true := by simp; omega
                clear hR ST HW ep r1 r4
                generalize bs[q + 1] = x at *
                generalize bs[q] = y at *
                go_wp2_with fail
                refine (gday_any _ _).mono ?_
                rintro e w9 ⟨rfl, rfl⟩
                rw [I2.out]
                go_wp2
                go_roundw
                case rel => exact ⟨q + 1 + 1, 3, by omega, by go_num, rfl, HX2, hKr⟩
                case measure => simp [intOf]; omega
          · have I2 := Lib.hid (inG_no r1)
            have HX2 := Lib.hid (show WaSt F bs (j + 1) 1 from by
              have := ST.out
              rw [if_neg r1] at this
              exact .inl ⟨by decide, this⟩)
            clear hR ST HW r1
            generalize bs[j] = x at *
            go_wp2_with fail
            refine (gday_any _ _).mono ?_
            rintro e w9 ⟨rfl, rfl⟩
            rw [I2.out]
            go_wp2
            go_roundw
            case rel => exact ⟨j + 1, 1, by omega, by go_num, rfl, HX2, hKr⟩
            case measure => simp [intOf]; omega
        · have HX2 := Lib.hid (HW.out.same w0)
          have wb : (W == 0) = false := by rw [beq_eq_false_iff_ne]; exact w0
          clear hR HW w0
          go_wp2
          go_roundw
          case rel => exact ⟨j + 1, W, by omega, by go_num, rfl, HX2, hKr⟩
          case measure => simp [intOf]; omega
      · obtain rfl : j = bs.length := by omega
        have FW := HW.out.done
        have hKz := hK.trans hKr
        have ne := HF.out
        subst FW
        have nb2 : (F != 0) = true := by rw [bne_iff_ne]; exact ne
        have nb3 : (F == F) = true := by simp
        clear hlt HW ne
        go_wp2
        go_ret
        exact ⟨rfl, hKz⟩
set_option maxRecDepth 100000 in
set_option maxHeartbeats 16000000 in
theorem ageSays_ny (a b : Option Addr) (l : List Mv) (bs : List Int) (cap cap' : Nat) (n today : Int) (w : World) (hA : JArg eP w a l) (hB : JArg eI w b bs) (z : a = none → cap = 0) (hl : l.length ≤ maxLen) (hb : bs.length ≤ maxLen) (ok : ItOk l) (hp : ¬ (0 ≤ n ∧ n ≤ 1000000000000)) (ha : aeE l today bs = 0) :
    Calls Try.prog 3 #[.slice a l.length cap, .int .i64 n, .int .i64 today, .slice b bs.length cap'] w fun e w' => e = .returned (.bool true) ∧ Below w.heap.size w w' := by
  have l40 : l.length ≤ 40 := ok.len
  have bl2 : bs.length ≤ 9223372036854775807 := hb
  have ie := itE_iff.2 ok
  have R1 := Lib.hid (fun (W : World) (k : Kept w W) => ritems_any a l cap W hl (hA.later k))
  have C1 := Lib.hid (fun (W : World) (k : Kept w W) => acheck_any a l cap W hl (hA.later k))
  have C2 := Lib.hid (fun (W : World) => show Calls Try.prog 18 #[.slice (some ⟨W.heap.size, 0, none⟩) 1 1] (W.alloc (.cells #[.int .i64 0, .int .i64 0] 31)) _ from acheck_any (some ⟨W.heap.size, 0, none⟩) [(0, 0)] 1 (W.alloc (.cells #[.int .i64 0, .int .i64 0] 31)) (by decide) (JArg.lit eP _ _ _ rfl rfl))
  rw [lit00] at C2
  rw [ie] at R1 C1
  have HB := Lib.hid hB
  have HA := Lib.hid hA
  have EA := Lib.hid (show aeE l today bs = if 0 ≤ today ∧ today ≤ 292193 then (if 40 < bs.length then 2 else bdF (-1) bs) else 1 from by unfold aeE bdE; rw [if_pos ie])
  have pe : pyE l n = 1 := by unfold pyE; rw [if_pos ie, if_neg hp]
  have P1 := Lib.hid (pay_no a l cap n w hl hA (by rw [pe]; decide))
  rw [pe] at P1
  have pq : (decide (n < 0) = true) ∨ (decide (n < 0) = false ∧ decide (1000000000000 < n) = true) := by
    by_cases c : n < 0
    · exact .inl (by simpa using c)
    · exact .inr ⟨by simpa using c, by simp; omega⟩
  have ok2 := aeE_ok ha
  have b40 : bs.length ≤ 40 := ok2.bd.len
  have A1 := Lib.hid (fun (W : World) (k : Kept w W) => ages_yes a b l bs cap cap' today W (hA.later k) (hB.later k) ha)
  have d0 := ok2.d0
  have d1 := ok2.d1
  have BD := Lib.hid ok2.bd
  have IT := Lib.hid ok.it
  have AL := Lib.hid (show tab (bs.length + 1) (agF bs today l l.length) = agL bs today l by unfold tab agL agF; rw [List.take_length])
  have LN := Lib.hid (agL_len bs today l)
  generalize agL bs today l = res at *
  rw [ha] at EA
  clear hA hB ok ie z ha
  rcases pq with q1 | ⟨q1, q2⟩
  all_goals
    go_enter Try.func3, Try.ntmps3
    go_wp2_with fail
    refine P1.out.mono ?_
    rintro e w1 ⟨rfl, hK1⟩
    clear P1
    go_wp2_with fail
    refine (A1.out _ hK1).mono ?_
    rintro e w2 ⟨g1, rfl, hg1, hY, hK2⟩
    have HY := Lib.hid hY
    clear hY hg1
    have hK12 := hK1.trans hK2
    go_wp2_with fail
    refine (R1.out _ hK12).mono ?_
    rintro e w3 ⟨rfl, hK3⟩
    have hK13 := hK12.trans hK3
    go_wp2_with fail
    refine (C1.out _ hK13).mono ?_
    rintro e w4 ⟨rfl, hK4⟩
    have hK14 := hK13.trans hK4
    have D2 := Lib.hid (C2.out w4)
    have kB := hK14.alloc (.cells #[.int .i64 0, .int .i64 0] 31)
    have k4B := (Kept.refl w4).alloc (.cells #[.int .i64 0, .int .i64 0] 31)
    go_wp2_with fail
    refine D2.out.mono ?_
    rintro e w5 ⟨rfl, hK5⟩
    have hK15 := kB.trans hK5
    have hK25 := ((hK3.trans hK4).trans k4B).trans hK5
    have HY5 := Lib.hid (HY.out.later hK25)
    clear A1 R1 C1 C2 D2 hK1 hK2 hK12 hK3 hK13 hK4 hK14 kB k4B hK5 hK25
    have hK := hK15
    have HYZ := HY5
    clear HY HY5
    clear hK15
    go_wp2_with fail
    refine (gday_any _ _).mono ?_
    rintro e w8 ⟨rfl, rfl⟩
    rw [(inG_yes d0 d1)]
    have EF := Lib.hid (show bdF (-1) bs = 0 from by
      have := EA.out
      rw [if_pos ⟨d0, d1⟩, if_neg (by omega)] at this
      exact this.symm)
    go_wp2
    go_loopw [14, 117] (fun v i wr => ∃ (j : Nat) (W : Int), j ≤ bs.length ∧ i = .int .i64 j ∧ v = .int .i64 W ∧ Hid (WaSt 0 bs j W) ∧ Kept w5 wr) (fun _ i _ => bs.length - (intOf i).toNat)
    case atStart => exact ⟨0, 0, Nat.zero_le _, rfl, rfl, Lib.hid (by exact .inr ⟨rfl, EF.out⟩), Kept.refl _⟩
    case round =>
      obtain ⟨j, W, hj, rfl, rfl, HW, hKr⟩ := hrel
      by_cases hlt : j < bs.length
      · obtain ⟨p, off, rfl, hR⟩ := (HB.out.later (hK.trans hKr)).at hlt
        have c0 := hR.i j hlt
        have j1 : (j : Int) < (bs.length : Int) := by omega
        by_cases w0 : W = 0
        · subst w0
          have ST := Lib.hid (bdF_cons hlt HW.out)
          by_cases r1 : 0 ≤ bs[j] ∧ bs[j] ≤ 292193
          · have I2 := Lib.hid (inG_yes r1.1 r1.2)
            by_cases k0 : j = 0
            · subst k0
              have c00 : wr.cell? ⟨p, off, none⟩ = some (.int .i64 bs[0]) := by rw [← Nat.add_zero off]; exact c0
              have ep : bdP bs 0 = -1 := rfl
              have HX2 := Lib.hid (show WaSt 0 bs (0 + 1) 0 from by
                have := ST.out
                rw [if_pos r1, ep, if_pos (by omega)] at this
                exact .inr ⟨rfl, this.symm⟩)
              clear hR ST HW ep r1
              generalize bs[0] = x at *
              go_wp2_with fail
              refine (gday_any _ _).mono ?_
              rintro e w9 ⟨rfl, rfl⟩
              rw [I2.out]
              go_wp2
              go_roundw
              case rel => exact ⟨0 + 1, 0, by omega, by go_num, rfl, HX2, hKr⟩
              case measure => simp [intOf]; omega
            · obtain ⟨q, rfl⟩ : ∃ q, j = q + 1 := ⟨j - 1, by omega⟩
              have hq : q < bs.length := by omega
              have ep := bdP_succ bs q hq
              have c1 := hR.i q hq
              have q1 : (q : Int) < (bs.length : Int) := by omega
              by_cases r4 : bs[q] < bs[q + 1]
              · have HX2 := Lib.hid (show WaSt 0 bs (q + 1 + 1) 0 from by
                  have := ST.out
                  rw [if_pos r1, ep, if_pos r4] at this
                  exact .inr ⟨rfl, this.symm⟩)
                have r5 : decide (bs[q + 1] ≤ bs[q]) = false := by simp; omega
                clear hR ST HW ep r1 r4
                generalize bs[q + 1] = x at *
                generalize bs[q] = y at *
                go_wp2_with fail
                refine (gday_any _ _).mono ?_
                rintro e w9 ⟨rfl, rfl⟩
                rw [I2.out]
                go_wp2
                go_roundw
                case rel => exact ⟨q + 1 + 1, 0, by omega, by go_num, rfl, HX2, hKr⟩
                case measure => simp [intOf]; omega
              · have HX2 := Lib.hid (show WaSt 0 bs (q + 1 + 1) 3 from by
                  have := ST.out
                  rw [if_pos r1, ep, if_neg r4] at this
                  exact .inl ⟨by decide, this⟩)
                have r5 : decide (bs[q + 1] ≤ bs[q]) = true := by simp; omega
                clear hR ST HW ep r1 r4
                generalize bs[q + 1] = x at *
                generalize bs[q] = y at *
                go_wp2_with fail
                refine (gday_any _ _).mono ?_
                rintro e w9 ⟨rfl, rfl⟩
                rw [I2.out]
                go_wp2
                go_roundw
                case rel => exact ⟨q + 1 + 1, 3, by omega, by go_num, rfl, HX2, hKr⟩
                case measure => simp [intOf]; omega
          · have I2 := Lib.hid (inG_no r1)
            have HX2 := Lib.hid (show WaSt 0 bs (j + 1) 1 from by
              have := ST.out
              rw [if_neg r1] at this
              exact .inl ⟨by decide, this⟩)
            clear hR ST HW r1
            generalize bs[j] = x at *
            go_wp2_with fail
            refine (gday_any _ _).mono ?_
            rintro e w9 ⟨rfl, rfl⟩
            rw [I2.out]
            go_wp2
            go_roundw
            case rel => exact ⟨j + 1, 1, by omega, by go_num, rfl, HX2, hKr⟩
            case measure => simp [intOf]; omega
        · have HX2 := Lib.hid (HW.out.same w0)
          have wb : (W == 0) = false := by rw [beq_eq_false_iff_ne]; exact w0
          clear hR HW w0
          go_wp2
          go_roundw
          case rel => exact ⟨j + 1, W, by omega, by go_num, rfl, HX2, hKr⟩
          case measure => simp [intOf]; omega
      · obtain rfl : j = bs.length := by omega
        have FW := HW.out.done
        have hKz := hK.trans hKr
        obtain rfl : W = 0 := FW.symm
        have HYr := Lib.hid (HYZ.out.later hKr)
        have mk : (Instr.makeSlice 23 (.int .i64 ((bs.length : Int) + 1)) (.int .i64 ((bs.length : Int) + 1))).run Try.prog wr = .ok (.slice (some ⟨wr.heap.size, 0, none⟩) (bs.length + 1) (bs.length + 1)) (wr.alloc (.cells (zs (bs.length + 1)) 3)) := make_ints (bs.length + 1) (by omega) wr
        clear hlt HW hKr FW
        go_wp2
        have hO := Own.made (w := wr) (n := bs.length + 1) (t := 3) rfl
        have kM := (Kept.refl wr).alloc (.cells (zs (bs.length + 1)) 3)
        rw [tab_zero] at hO
        have gg := HYr.out.lt
        generalize hg2 : wr.heap.size = g2 at *
        have gw : wr.heap.size ≤ g2 := by omega
        have HG2 := Lib.hid hg2
        clear mk hg2
        generalize wr.alloc (.cells (zs (bs.length + 1)) 3) = w9 at *
        generalize wr = wo at *
        go_loopw [161] (fun i wq => ∃ j : Nat, j ≤ l.length ∧ i = .int .i64 j ∧ Own wq g2 (tab (bs.length + 1) (agF bs today l j)) ∧ Kept wo wq) (fun i _ => l.length - (intOf i).toNat)
        case atStart => exact ⟨0, Nat.zero_le _, rfl, hO, kM⟩
        case round =>
          clear hO kM
          obtain ⟨j, hj, rfl, hOr, hKr⟩ := hrel
          by_cases hlt : j < l.length
          · obtain ⟨p, off, rfl, hR⟩ := (HA.out.later (hKz.trans hKr)).at hlt
            have c0 := hR.c0 j hlt
            have c1 := hR.c1 j hlt
            have plt := hR.lt
            have X := IT.out l[j] (List.getElem_mem hlt)
            have SU := Lib.hid (agF_succ bs today l j hlt)
            have blt : bkD bs today l[j] < bs.length + 1 := by have := bkD_le bs today l[j]; omega
            have BB := agK_bd bs today (bkD bs today l[j]) (l := l.take j) (fun x hx => IT.out x (List.mem_of_mem_take hx))
            have BL : ((l.take j).length : Int) ≤ 40 := by rw [List.length_take]; omega
            have LL := Lib.hid (fun (t : Nat) (ht : t < bs.length) => show t < bkD bs today l[j] ↔ bs[t] < ageD today l[j] from loI_lt BD.out.inc ht)
            have EA2 := Lib.hid (show ageD today l[j] = max 0 (today - (l[j]).1) from rfl)
            change 0 ≤ agF bs today l j (bkD bs today l[j]) ∧ agF bs today l j (bkD bs today l[j]) ≤ _ at BB
            have j1 : (j : Int) < (l.length : Int) := by omega
            generalize ageD today l[j] = ag at *
            generalize bkD bs today l[j] = q at *
            generalize l[j] = x at *
            have kB := (Kept.refl wr).alloc (.cells #[.int .i64 x.1, .int .i64 x.2] 31)
            have hOA := Lib.hid (hOr.later kB)
            have hKA := Lib.hid (hKr.trans kB)
            have HBA := Lib.hid (HB.out.later ((hKz.trans hKr).trans kB))
            have bx0 : (wr.alloc (.cells #[.int .i64 x.1, .int .i64 x.2] 31)).cell? ⟨wr.heap.size, 0, none⟩ = some (.int .i64 x.1) := by simp
            have bx1 : (wr.alloc (.cells #[.int .i64 x.1, .int .i64 x.2] 31)).cell? ⟨wr.heap.size, 1, none⟩ = some (.int .i64 x.2) := by simp
            have bxne : wr.heap.size ≠ g2 := by have := hOr.lt; omega
            have wsub : IntKind.i64.wrap (today - x.1) = today - x.1 := IntWalk.i64_in _ (by omega)
            have wsum : IntKind.i64.wrap (agF bs today l j q + x.2) = agF bs today l j q + x.2 := IntWalk.i64_in _ (by omega)
            clear hOr hKr hR X BB BL kB
            go_upto_region 32 with fail
            generalize wr.alloc (.cells #[.int .i64 x.1, .int .i64 x.2] 31) = wa at *
            generalize wr.heap.size = bx at *
            clear c0 c1 plt
            go_wp2
            go_loopw [22] (fun i wq => ∃ t : Nat, t ≤ q ∧ i = .int .i64 t ∧ Drew wa wq) (fun i _ => bs.length - (intOf i).toNat)
            case atStart => exact ⟨0, Nat.zero_le _, rfl, Drew.refl _⟩
            case round =>
              obtain ⟨t, ht, rfl, hD⟩ := hrel
              have kd := hD.kept
              have bx0' : wr.cell? ⟨bx, 0, none⟩ = some (.int .i64 x.1) := by obtain ⟨m, rfl⟩ := hD; exact bx0
              by_cases htl : t < bs.length
              · obtain ⟨p3, off3, rfl, hS⟩ := (HBA.out.later kd).at htl
                have s0 := hS.i t htl
                have LT := Lib.hid (LL.out t htl)
                have t1 : (t : Int) < (bs.length : Int) := by omega
                clear hS
                generalize bs[t] = bt at *
                by_cases c : bt < ag
                · have tq := LT.out.2 c
                  have cb : decide (bt < max 0 (today - x.1)) = true := by rw [← EA2.out]; simpa using c
                  clear c
                  go_wp2_with fail
                  go_quiet (fail)
                  go_wp2
                  go_roundw
                  case rel => exact ⟨t + 1, by omega, by go_num, hD.drewN nq⟩
                  case measure => simp [intOf]; omega
                · have tq : t = q := by
                    have : ¬ t < q := fun k => c (LT.out.1 k)
                    omega
                  subst tq
                  have cb : decide (bt < max 0 (today - x.1)) = false := by rw [← EA2.out]; simpa using c
                  clear c LT
                  go_wp2_with fail
                  go_quiet (fail)
                  have ke := (Kept.refl wr).drewN nq
                  have hO5 := hOA.out.later (kd.trans ke)
                  have hK5 := hKA.out.trans (kd.trans ke)
                  have b1 : (wr.drewN nq).cell? ⟨bx, 1, none⟩ = some (.int .i64 x.2) := by obtain ⟨m, rfl⟩ := hD; exact bx1
                  have S1 := hO5.drew.set t (agF bs today l j t + x.2) (by rw [tab_len]; exact blt)
                  rw [tab_set, SU.out] at S1
                  have HS := Lib.hid S1
                  have g0 := hO5.cell t (by rw [tab_len]; exact blt)
                  have gf := hO5.free t (by rw [tab_len]; exact blt)
                  rw [tab_get] at g0
                  have HK5 := Lib.hid hK5
                  have qi2 : (t : Int) < (bs.length : Int) + 1 := by omega
                  clear S1 hO5 hK5 ke SU bx0 bx1 bx0' hOA hKA
                  generalize agF bs today l j t = sq at *
                  generalize wr.drewN nq = wd at *
                  go_wp2
                  go_region
                  all_goals go_wp2
                  all_goals
                    go_roundw
                    case rel => exact ⟨j + 1, by omega, by go_num, HS.out, HK5.out.drew.setAt gw _⟩
                    case measure => simp [intOf]; omega
              · obtain rfl : t = q := by omega
                have nb2 : decide ((t : Int) < (bs.length : Int)) = false := by simp; omega
                have nb3 : decide (t < bs.length) = false := by simp; omega
                clear htl
                go_wp2_with fail
                go_quiet (fail)
                have ke := (Kept.refl wr).drewN nq
                have hO5 := hOA.out.later (kd.trans ke)
                have hK5 := hKA.out.trans (kd.trans ke)
                have b1 : (wr.drewN nq).cell? ⟨bx, 1, none⟩ = some (.int .i64 x.2) := by obtain ⟨m, rfl⟩ := hD; exact bx1
                have S1 := hO5.drew.set t (agF bs today l j t + x.2) (by rw [tab_len]; exact blt)
                rw [tab_set, SU.out] at S1
                have HS := Lib.hid S1
                have g0 := hO5.cell t (by rw [tab_len]; exact blt)
                have gf := hO5.free t (by rw [tab_len]; exact blt)
                rw [tab_get] at g0
                have HK5 := Lib.hid hK5
                have qi2 : (t : Int) < (bs.length : Int) + 1 := by omega
                clear S1 hO5 hK5 ke SU bx0 bx1 bx0' hOA hKA
                generalize agF bs today l j t = sq at *
                generalize wr.drewN nq = wd at *
                go_wp2
                go_region
                all_goals go_wp2
                all_goals
                  go_roundw
                  case rel => exact ⟨j + 1, by omega, by go_num, HS.out, HK5.out.drew.setAt gw _⟩
                  case measure => simp [intOf]; omega
          · obtain rfl : j = l.length := by omega
            rw [AL.out] at hOr
            have EQ := Lib.hid (iequal_yes res (some ⟨g1, 0, none⟩) (some ⟨g2, 0, none⟩) (bs.length + 1) (bs.length + 1) (bs.length + 1) wr (by rw [LN.out]; omega) LN.out (own_arg (HYr.out.later hKr)) (own_arg hOr))
            have hKq := hKz.trans hKr
            rw [LN.out]
            clear hlt hOr
            go_wp2_with fail
            refine EQ.out.mono ?_
            rintro e wz ⟨rfl, hKe⟩
            go_wp2
            go_ret
            exact ⟨rfl, hKq.trans hKe⟩
set_option maxRecDepth 100000 in
set_option maxHeartbeats 16000000 in
theorem ageSays_nn (a b : Option Addr) (l : List Mv) (bs : List Int) (cap cap' : Nat) (n today : Int) (w : World) (hA : JArg eP w a l) (hB : JArg eI w b bs) (z : a = none → cap = 0) (hl : l.length ≤ maxLen) (hb : bs.length ≤ maxLen) (ok : ItOk l) (hp : ¬ (0 ≤ n ∧ n ≤ 1000000000000)) (ha : aeE l today bs ≠ 0) :
    Calls Try.prog 3 #[.slice a l.length cap, .int .i64 n, .int .i64 today, .slice b bs.length cap'] w fun e w' => e = .returned (.bool true) ∧ Below w.heap.size w w' := by
  have l40 : l.length ≤ 40 := ok.len
  have bl2 : bs.length ≤ 9223372036854775807 := hb
  have ie := itE_iff.2 ok
  have R1 := Lib.hid (fun (W : World) (k : Kept w W) => ritems_any a l cap W hl (hA.later k))
  have C1 := Lib.hid (fun (W : World) (k : Kept w W) => acheck_any a l cap W hl (hA.later k))
  have C2 := Lib.hid (fun (W : World) => show Calls Try.prog 18 #[.slice (some ⟨W.heap.size, 0, none⟩) 1 1] (W.alloc (.cells #[.int .i64 0, .int .i64 0] 31)) _ from acheck_any (some ⟨W.heap.size, 0, none⟩) [(0, 0)] 1 (W.alloc (.cells #[.int .i64 0, .int .i64 0] 31)) (by decide) (JArg.lit eP _ _ _ rfl rfl))
  rw [lit00] at C2
  rw [ie] at R1 C1
  have HB := Lib.hid hB
  have HA := Lib.hid hA
  have EA := Lib.hid (show aeE l today bs = if 0 ≤ today ∧ today ≤ 292193 then (if 40 < bs.length then 2 else bdF (-1) bs) else 1 from by unfold aeE bdE; rw [if_pos ie])
  have pe : pyE l n = 1 := by unfold pyE; rw [if_pos ie, if_neg hp]
  have P1 := Lib.hid (pay_no a l cap n w hl hA (by rw [pe]; decide))
  rw [pe] at P1
  have pq : (decide (n < 0) = true) ∨ (decide (n < 0) = false ∧ decide (1000000000000 < n) = true) := by
    by_cases c : n < 0
    · exact .inl (by simpa using c)
    · exact .inr ⟨by simpa using c, by simp; omega⟩
  have A1 := Lib.hid (fun (W : World) (k : Kept w W) => ages_no a b l bs cap cap' today W hl hb (hA.later k) (hB.later k) ha)
  have HF := Lib.hid ha
  generalize aeE l today bs = F at *
  clear hA hB ok ie z ha
  rcases pq with q1 | ⟨q1, q2⟩
  all_goals
    go_enter Try.func3, Try.ntmps3
    go_wp2_with fail
    refine P1.out.mono ?_
    rintro e w1 ⟨rfl, hK1⟩
    clear P1
    go_wp2_with fail
    refine (A1.out _ hK1).mono ?_
    rintro e w2 ⟨rfl, hK2⟩
    have hK12 := hK1.trans hK2
    go_wp2_with fail
    refine (R1.out _ hK12).mono ?_
    rintro e w3 ⟨rfl, hK3⟩
    have hK13 := hK12.trans hK3
    go_wp2_with fail
    refine (C1.out _ hK13).mono ?_
    rintro e w4 ⟨rfl, hK4⟩
    have hK14 := hK13.trans hK4
    have D2 := Lib.hid (C2.out w4)
    have kB := hK14.alloc (.cells #[.int .i64 0, .int .i64 0] 31)
    have k4B := (Kept.refl w4).alloc (.cells #[.int .i64 0, .int .i64 0] 31)
    go_wp2_with fail
    refine D2.out.mono ?_
    rintro e w5 ⟨rfl, hK5⟩
    have hK15 := kB.trans hK5
    have hK25 := ((hK3.trans hK4).trans k4B).trans hK5
    clear A1 R1 C1 C2 D2 hK1 hK2 hK12 hK3 hK13 hK4 hK14 kB k4B hK5 hK25
    have hK := hK15
    clear hK15
    go_wp2_with fail
    refine (gday_any _ _).mono ?_
    rintro e w8 ⟨rfl, rfl⟩
    by_cases td : 0 ≤ today ∧ today ≤ 292193
    · rw [inG_yes td.1 td.2]
      by_cases big : 40 < bs.length
      · have EF := Lib.hid (show F = 2 from by rw [EA.out, if_pos td, if_pos big])
        have bb : decide ((40 : Int) < (bs.length : Int)) = true := by simp; omega
        go_wp2
        go_loopw [14, 117] (fun v i wr => ∃ (j : Nat) (W : Int), j ≤ bs.length ∧ i = .int .i64 j ∧ v = .int .i64 W ∧ Hid (WaSt F bs j W) ∧ Kept w5 wr) (fun _ i _ => bs.length - (intOf i).toNat)
        case atStart => exact ⟨0, 2, Nat.zero_le _, rfl, rfl, Lib.hid (by exact .inl ⟨by decide, EF.out⟩), Kept.refl _⟩
        case round =>
          obtain ⟨j, W, hj, rfl, rfl, HW, hKr⟩ := hrel
          by_cases hlt : j < bs.length
          · obtain ⟨p, off, rfl, hR⟩ := (HB.out.later (hK.trans hKr)).at hlt
            have c0 := hR.i j hlt
            have j1 : (j : Int) < (bs.length : Int) := by omega
            by_cases w0 : W = 0
            · subst w0
              have ST := Lib.hid (bdF_cons hlt HW.out)
              by_cases r1 : 0 ≤ bs[j] ∧ bs[j] ≤ 292193
              · have I2 := Lib.hid (inG_yes r1.1 r1.2)
                by_cases k0 : j = 0
                · subst k0
                  have c00 : wr.cell? ⟨p, off, none⟩ = some (.int .i64 bs[0]) := by rw [← Nat.add_zero off]; exact c0
                  have ep : bdP bs 0 = -1 := rfl
                  have HX2 := Lib.hid (show WaSt F bs (0 + 1) 0 from by
                    have := ST.out
                    rw [if_pos r1, ep, if_pos (by omega)] at this
                    exact .inr ⟨rfl, this.symm⟩)
                  clear hR ST HW ep r1
                  generalize bs[0] = x at *
                  go_wp2_with fail
                  refine (gday_any _ _).mono ?_
                  rintro e w9 ⟨rfl, rfl⟩
                  rw [I2.out]
                  go_wp2
                  go_roundw
                  case rel => exact ⟨0 + 1, 0, by omega, by go_num, rfl, HX2, hKr⟩
                  case measure => simp [intOf]; omega
                · obtain ⟨q, rfl⟩ : ∃ q, j = q + 1 := ⟨j - 1, by omega⟩
                  have hq : q < bs.length := by omega
                  have ep := bdP_succ bs q hq
                  have c1 := hR.i q hq
                  have q1 : (q : Int) < (bs.length : Int) := by omega
                  by_cases r4 : bs[q] < bs[q + 1]
                  · have HX2 := Lib.hid (show WaSt F bs (q + 1 + 1) 0 from by
                      have := ST.out
                      rw [if_pos r1, ep, if_pos r4] at this
                      exact .inr ⟨rfl, this.symm⟩)
                    have r5 : decide (bs[q + 1] ≤ bs[q]) = false := by simp; omega
                    clear hR ST HW ep r1 r4
                    generalize bs[q + 1] = x at *
                    generalize bs[q] = y at *
                    go_wp2_with fail
                    refine (gday_any _ _).mono ?_
                    rintro e w9 ⟨rfl, rfl⟩
                    rw [I2.out]
                    go_wp2
                    go_roundw
                    case rel => exact ⟨q + 1 + 1, 0, by omega, by go_num, rfl, HX2, hKr⟩
                    case measure => simp [intOf]; omega
                  · have HX2 := Lib.hid (show WaSt F bs (q + 1 + 1) 3 from by
                      have := ST.out
                      rw [if_pos r1, ep, if_neg r4] at this
                      exact .inl ⟨by decide, this⟩)
                    have r5 : decide (bs[q + 1] ≤ bs[q]) = true := by simp; omega
                    clear hR ST HW ep r1 r4
                    generalize bs[q + 1] = x at *
                    generalize bs[q] = y at *
                    go_wp2_with fail
                    refine (gday_any _ _).mono ?_
                    rintro e w9 ⟨rfl, rfl⟩
                    rw [I2.out]
                    go_wp2
                    go_roundw
                    case rel => exact ⟨q + 1 + 1, 3, by omega, by go_num, rfl, HX2, hKr⟩
                    case measure => simp [intOf]; omega
              · have I2 := Lib.hid (inG_no r1)
                have HX2 := Lib.hid (show WaSt F bs (j + 1) 1 from by
                  have := ST.out
                  rw [if_neg r1] at this
                  exact .inl ⟨by decide, this⟩)
                clear hR ST HW r1
                generalize bs[j] = x at *
                go_wp2_with fail
                refine (gday_any _ _).mono ?_
                rintro e w9 ⟨rfl, rfl⟩
                rw [I2.out]
                go_wp2
                go_roundw
                case rel => exact ⟨j + 1, 1, by omega, by go_num, rfl, HX2, hKr⟩
                case measure => simp [intOf]; omega
            · have HX2 := Lib.hid (HW.out.same w0)
              have wb : (W == 0) = false := by rw [beq_eq_false_iff_ne]; exact w0
              clear hR HW w0
              go_wp2
              go_roundw
              case rel => exact ⟨j + 1, W, by omega, by go_num, rfl, HX2, hKr⟩
              case measure => simp [intOf]; omega
          · obtain rfl : j = bs.length := by omega
            have FW := HW.out.done
            have hKz := hK.trans hKr
            have ne := HF.out
            subst FW
            have nb2 : (F != 0) = true := by rw [bne_iff_ne]; exact ne
            have nb3 : (F == F) = true := by simp
            clear hlt HW ne
            go_wp2
            go_ret
            exact ⟨rfl, hKz⟩
      · have EF := Lib.hid (show bdF (-1) bs = F from by rw [EA.out, if_pos td, if_neg big])
        have bb : decide ((40 : Int) < (bs.length : Int)) = false := by simp; omega
        go_wp2
        go_loopw [14, 117] (fun v i wr => ∃ (j : Nat) (W : Int), j ≤ bs.length ∧ i = .int .i64 j ∧ v = .int .i64 W ∧ Hid (WaSt F bs j W) ∧ Kept w5 wr) (fun _ i _ => bs.length - (intOf i).toNat)
        case atStart => exact ⟨0, 0, Nat.zero_le _, rfl, rfl, Lib.hid (by exact .inr ⟨rfl, EF.out⟩), Kept.refl _⟩
        case round =>
          obtain ⟨j, W, hj, rfl, rfl, HW, hKr⟩ := hrel
          by_cases hlt : j < bs.length
          · obtain ⟨p, off, rfl, hR⟩ := (HB.out.later (hK.trans hKr)).at hlt
            have c0 := hR.i j hlt
            have j1 : (j : Int) < (bs.length : Int) := by omega
            by_cases w0 : W = 0
            · subst w0
              have ST := Lib.hid (bdF_cons hlt HW.out)
              by_cases r1 : 0 ≤ bs[j] ∧ bs[j] ≤ 292193
              · have I2 := Lib.hid (inG_yes r1.1 r1.2)
                by_cases k0 : j = 0
                · subst k0
                  have c00 : wr.cell? ⟨p, off, none⟩ = some (.int .i64 bs[0]) := by rw [← Nat.add_zero off]; exact c0
                  have ep : bdP bs 0 = -1 := rfl
                  have HX2 := Lib.hid (show WaSt F bs (0 + 1) 0 from by
                    have := ST.out
                    rw [if_pos r1, ep, if_pos (by omega)] at this
                    exact .inr ⟨rfl, this.symm⟩)
                  clear hR ST HW ep r1
                  generalize bs[0] = x at *
                  go_wp2_with fail
                  refine (gday_any _ _).mono ?_
                  rintro e w9 ⟨rfl, rfl⟩
                  rw [I2.out]
                  go_wp2
                  go_roundw
                  case rel => exact ⟨0 + 1, 0, by omega, by go_num, rfl, HX2, hKr⟩
                  case measure => simp [intOf]; omega
                · obtain ⟨q, rfl⟩ : ∃ q, j = q + 1 := ⟨j - 1, by omega⟩
                  have hq : q < bs.length := by omega
                  have ep := bdP_succ bs q hq
                  have c1 := hR.i q hq
                  have q1 : (q : Int) < (bs.length : Int) := by omega
                  by_cases r4 : bs[q] < bs[q + 1]
                  · have HX2 := Lib.hid (show WaSt F bs (q + 1 + 1) 0 from by
                      have := ST.out
                      rw [if_pos r1, ep, if_pos r4] at this
                      exact .inr ⟨rfl, this.symm⟩)
                    have r5 : decide (bs[q + 1] ≤ bs[q]) = false := by simp; omega
                    clear hR ST HW ep r1 r4
                    generalize bs[q + 1] = x at *
                    generalize bs[q] = y at *
                    go_wp2_with fail
                    refine (gday_any _ _).mono ?_
                    rintro e w9 ⟨rfl, rfl⟩
                    rw [I2.out]
                    go_wp2
                    go_roundw
                    case rel => exact ⟨q + 1 + 1, 0, by omega, by go_num, rfl, HX2, hKr⟩
                    case measure => simp [intOf]; omega
                  · have HX2 := Lib.hid (show WaSt F bs (q + 1 + 1) 3 from by
                      have := ST.out
                      rw [if_pos r1, ep, if_neg r4] at this
                      exact .inl ⟨by decide, this⟩)
                    have r5 : decide (bs[q + 1] ≤ bs[q]) = true := by simp; omega
                    clear hR ST HW ep r1 r4
                    generalize bs[q + 1] = x at *
                    generalize bs[q] = y at *
                    go_wp2_with fail
                    refine (gday_any _ _).mono ?_
                    rintro e w9 ⟨rfl, rfl⟩
                    rw [I2.out]
                    go_wp2
                    go_roundw
                    case rel => exact ⟨q + 1 + 1, 3, by omega, by go_num, rfl, HX2, hKr⟩
                    case measure => simp [intOf]; omega
              · have I2 := Lib.hid (inG_no r1)
                have HX2 := Lib.hid (show WaSt F bs (j + 1) 1 from by
                  have := ST.out
                  rw [if_neg r1] at this
                  exact .inl ⟨by decide, this⟩)
                clear hR ST HW r1
                generalize bs[j] = x at *
                go_wp2_with fail
                refine (gday_any _ _).mono ?_
                rintro e w9 ⟨rfl, rfl⟩
                rw [I2.out]
                go_wp2
                go_roundw
                case rel => exact ⟨j + 1, 1, by omega, by go_num, rfl, HX2, hKr⟩
                case measure => simp [intOf]; omega
            · have HX2 := Lib.hid (HW.out.same w0)
              have wb : (W == 0) = false := by rw [beq_eq_false_iff_ne]; exact w0
              clear hR HW w0
              go_wp2
              go_roundw
              case rel => exact ⟨j + 1, W, by omega, by go_num, rfl, HX2, hKr⟩
              case measure => simp [intOf]; omega
          · obtain rfl : j = bs.length := by omega
            have FW := HW.out.done
            have hKz := hK.trans hKr
            have ne := HF.out
            subst FW
            have nb2 : (F != 0) = true := by rw [bne_iff_ne]; exact ne
            have nb3 : (F == F) = true := by simp
            clear hlt HW ne
            go_wp2
            go_ret
            exact ⟨rfl, hKz⟩
    · rw [inG_no td]
      have EF := Lib.hid (show F = 1 from by rw [EA.out, if_neg td])
      go_wp2
      go_loopw [14, 117] (fun v i wr => ∃ (j : Nat) (W : Int), j ≤ bs.length ∧ i = .int .i64 j ∧ v = .int .i64 W ∧ Hid (WaSt F bs j W) ∧ Kept w5 wr) (fun _ i _ => bs.length - (intOf i).toNat)
      case atStart => exact ⟨0, 1, Nat.zero_le _, rfl, rfl, Lib.hid (by exact .inl ⟨by decide, EF.out⟩), Kept.refl _⟩
      case round =>
        obtain ⟨j, W, hj, rfl, rfl, HW, hKr⟩ := hrel
        by_cases hlt : j < bs.length
        · obtain ⟨p, off, rfl, hR⟩ := (HB.out.later (hK.trans hKr)).at hlt
          have c0 := hR.i j hlt
          have j1 : (j : Int) < (bs.length : Int) := by omega
          by_cases w0 : W = 0
          · subst w0
            have ST := Lib.hid (bdF_cons hlt HW.out)
            by_cases r1 : 0 ≤ bs[j] ∧ bs[j] ≤ 292193
            · have I2 := Lib.hid (inG_yes r1.1 r1.2)
              by_cases k0 : j = 0
              · subst k0
                have c00 : wr.cell? ⟨p, off, none⟩ = some (.int .i64 bs[0]) := by rw [← Nat.add_zero off]; exact c0
                have ep : bdP bs 0 = -1 := rfl
                have HX2 := Lib.hid (show WaSt F bs (0 + 1) 0 from by
                  have := ST.out
                  rw [if_pos r1, ep, if_pos (by omega)] at this
                  exact .inr ⟨rfl, this.symm⟩)
                clear hR ST HW ep r1
                generalize bs[0] = x at *
                go_wp2_with fail
                refine (gday_any _ _).mono ?_
                rintro e w9 ⟨rfl, rfl⟩
                rw [I2.out]
                go_wp2
                go_roundw
                case rel => exact ⟨0 + 1, 0, by omega, by go_num, rfl, HX2, hKr⟩
                case measure => simp [intOf]; omega
              · obtain ⟨q, rfl⟩ : ∃ q, j = q + 1 := ⟨j - 1, by omega⟩
                have hq : q < bs.length := by omega
                have ep := bdP_succ bs q hq
                have c1 := hR.i q hq
                have q1 : (q : Int) < (bs.length : Int) := by omega
                by_cases r4 : bs[q] < bs[q + 1]
                · have HX2 := Lib.hid (show WaSt F bs (q + 1 + 1) 0 from by
                    have := ST.out
                    rw [if_pos r1, ep, if_pos r4] at this
                    exact .inr ⟨rfl, this.symm⟩)
                  have r5 : decide (bs[q + 1] ≤ bs[q]) = false := by simp; omega
                  clear hR ST HW ep r1 r4
                  generalize bs[q + 1] = x at *
                  generalize bs[q] = y at *
                  go_wp2_with fail
                  refine (gday_any _ _).mono ?_
                  rintro e w9 ⟨rfl, rfl⟩
                  rw [I2.out]
                  go_wp2
                  go_roundw
                  case rel => exact ⟨q + 1 + 1, 0, by omega, by go_num, rfl, HX2, hKr⟩
                  case measure => simp [intOf]; omega
                · have HX2 := Lib.hid (show WaSt F bs (q + 1 + 1) 3 from by
                    have := ST.out
                    rw [if_pos r1, ep, if_neg r4] at this
                    exact .inl ⟨by decide, this⟩)
                  have r5 : decide (bs[q + 1] ≤ bs[q]) = true := by simp; omega
                  clear hR ST HW ep r1 r4
                  generalize bs[q + 1] = x at *
                  generalize bs[q] = y at *
                  go_wp2_with fail
                  refine (gday_any _ _).mono ?_
                  rintro e w9 ⟨rfl, rfl⟩
                  rw [I2.out]
                  go_wp2
                  go_roundw
                  case rel => exact ⟨q + 1 + 1, 3, by omega, by go_num, rfl, HX2, hKr⟩
                  case measure => simp [intOf]; omega
            · have I2 := Lib.hid (inG_no r1)
              have HX2 := Lib.hid (show WaSt F bs (j + 1) 1 from by
                have := ST.out
                rw [if_neg r1] at this
                exact .inl ⟨by decide, this⟩)
              clear hR ST HW r1
              generalize bs[j] = x at *
              go_wp2_with fail
              refine (gday_any _ _).mono ?_
              rintro e w9 ⟨rfl, rfl⟩
              rw [I2.out]
              go_wp2
              go_roundw
              case rel => exact ⟨j + 1, 1, by omega, by go_num, rfl, HX2, hKr⟩
              case measure => simp [intOf]; omega
          · have HX2 := Lib.hid (HW.out.same w0)
            have wb : (W == 0) = false := by rw [beq_eq_false_iff_ne]; exact w0
            clear hR HW w0
            go_wp2
            go_roundw
            case rel => exact ⟨j + 1, W, by omega, by go_num, rfl, HX2, hKr⟩
            case measure => simp [intOf]; omega
        · obtain rfl : j = bs.length := by omega
          have FW := HW.out.done
          have hKz := hK.trans hKr
          have ne := HF.out
          subst FW
          have nb2 : (F != 0) = true := by rw [bne_iff_ne]; exact ne
          have nb3 : (F == F) = true := by simp
          clear hlt HW ne
          go_wp2
          go_ret
          exact ⟨rfl, hKz⟩
theorem ageSays_walk (a : Option Addr) (l : List Mv) (cap : Nat) (n today : Int) (b : Option Addr) (bs : List Int) (cap' : Nat) (w : World) (hA : JArg eP w a l) (hc : l.length ≤ cap) (hn : cap ≤ maxLen) (z : a = none → cap = 0) (hB : JArg eI w b bs) (hc' : bs.length ≤ cap') (hn' : cap' ≤ maxLen) (z' : b = none → cap' = 0) :
    Calls Try.prog 3 #[.slice a l.length cap, .int .i64 n, .int .i64 today, .slice b bs.length cap'] w fun e w' => e = .returned (.bool true) ∧ Below w.heap.size w w' := by
  have hl : l.length ≤ maxLen := Nat.le_trans hc hn
  have hb : bs.length ≤ maxLen := Nat.le_trans hc' hn'
  by_cases er : itE l = 0
  · have ok := it_ok er
    by_cases hp : 0 ≤ n ∧ n ≤ 1000000000000
    · by_cases ha : aeE l today bs = 0
      · exact ageSays_yy a b l bs cap cap' n today w hA hB z hl hb ok hp ha
      · exact ageSays_yn a b l bs cap cap' n today w hA hB z hl hb ok hp ha
    · by_cases ha : aeE l today bs = 0
      · exact ageSays_ny a b l bs cap cap' n today w hA hB z hl hb ok hp ha
      · exact ageSays_nn a b l bs cap cap' n today w hA hB z hl hb ok hp ha
  · exact ageSays_no a b l bs cap cap' n today w hA hB hl hb er
end Go.Proofs.Ytdgiljndoeldcaa
