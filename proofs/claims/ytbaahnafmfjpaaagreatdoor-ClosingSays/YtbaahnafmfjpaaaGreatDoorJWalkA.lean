/-
  What the reference says of a book: talref's Has and Book. No condition but those that each theorem names.
-/
import Derived.Test.YtbaahnafmfjpaaaGreatDoorCWalkD
import Derived.Test.YtbaahnafmfjpaaaGreatDoorHWalkC
import Derived.StillTailTactics
namespace Go.Proofs.YtbaahnafmfjpaaaGreatDoor
open Go.RowKit Go.Maps
set_option linter.unusedVariables false

set_option maxHeartbeats 2000000 in
theorem rhas_any (c : ByteArray) (l : List Pr) (a : Option Addr) (cap : Nat) (w : World) (hn : l.length ≤ maxLen) (hA : PArg w a l) :
    Calls Tryz.prog 19 #[.slice a l.length cap, .string c] w fun e w' => e = .returned (.bool (hasB c l)) ∧ Kept w w' := by
  have HA := Lib.hid hA
  unfold maxLen at hn
  clear hA
  go_enter Tryz.func19, Tryz.ntmps19
  go_wp2
  go_loopw [9] (fun i wr => ∃ k : Nat, k ≤ l.length ∧ i = .int .i64 k ∧ Hid ((l.take k).any (fun y => y.1.toList == c.toList) = false) ∧ Kept w wr) (fun i _ => (l.length - intOf i).toNat)
  case atStart => exact ⟨0, by omega, rfl, Lib.hid rfl, Kept.refl _⟩
  case round =>
    obtain ⟨k, hk, rfl, HK, hK⟩ := hrel
    by_cases hlt : k < l.length
    · obtain ⟨p, off, rfl, hp⟩ := (HA.out.later hK).at hlt
      have c0 := hp.c0 k hlt
      have c1 := hp.c1 k hlt
      have plt := hp.lt
      clear hp
      have NX := Lib.hid (fun hc => pany_snoc (P := fun y : Pr => y.1.toList == c.toList) hlt HK.out hc)
      have NY := Lib.hid (fun hc => show hasB c l = true from pany_at (P := fun y : Pr => y.1.toList == c.toList) hlt hc)
      generalize l[k] = y at *
      have kE := hK.alloc (.cells #[.string y.1, .int .i64 y.2] 54)
      cases hc : (y.1.toList == c.toList)
      · have HN := Lib.hid (NX.out hc)
        go_wp2
        go_roundw
        case rel => exact ⟨k + 1, by omega, by go_num, HN, kE⟩
        case measure => simp [intOf]; omega
      · have HN := Lib.hid (NY.out hc)
        go_wp2
        go_ret
        exact ⟨ret_bool HN.out.symm, kE⟩
    · obtain rfl : k = l.length := by omega
      clear hlt
      have HN := Lib.hid (show hasB c l = false by have := HK.out; rw [List.take_length] at this; exact this)
      go_wp2
      go_ret
      exact ⟨ret_bool HN.out.symm, hK⟩
theorem raccE {acs l : List Pr} {k : Nat} (h : k < l.length) (b : hasB (l[k]).1 acs = false) : allA acs l = false := by
  unfold allA; rw [List.all_eq_false]; exact ⟨_, List.getElem_mem h, by simp [b]⟩
set_option maxRecDepth 100000 in
set_option maxHeartbeats 16000000 in
theorem rbook_in (q : BkA) (b : Bk) (w : World) (hM : BkM w q b) (ok : acE b.acs = 0) (hsh : b.shut = -1 ∨ dyB b.shut = true) (hn : b.ens.length ≤ 60) :
    Calls Tryz.prog 6 #[bkV q b] w fun e w' => e = .returned (.int .i64 (exsE b.acs [] b.ens)) ∧ Kept w w' := by
  have k1 := (Kept.refl w).alloc (bkO q b)
  have hB := BBx.new w q b
  have HM := Lib.hid (hM.later k1)
  have OK := Lib.hid ok
  have hmm := @run_makeMap Tryz.prog
  have AC := Lib.hid (raccts_any q.aa b.acs q.ca (w.alloc (bkO q b)) HM.out.acs HM.out.sha HM.out.an)
  rw [ok] at AC
  have HB := Lib.hid hB
  have K1 := Lib.hid k1
  have SD := Lib.hid (show b.shut ≠ -1 → inB b.shut 0 292193 = true from fun h => hsh.resolve_left h)
  have l60 : ¬ (60 : Int) < (b.ens.length : Int) := by omega
  clear hM ok hsh k1 hB
  go_enter Tryz.func6, Tryz.ntmps6
  go_wp2_with fail
  refine AC.out.mono ?_
  rintro e w1 ⟨rfl, hK1⟩
  obtain ⟨b0, b1, b2, b3⟩ := HB.out.later hK1
  have HK1 := Lib.hid hK1
  clear hK1
  have CS : (b.shut != -1) = false ∨ ((b.shut != -1) = true ∧ Hid (inB b.shut 0 292193 = true)) := by
    by_cases h1 : b.shut = -1
    · exact .inl (by simp [h1])
    · exact .inr ⟨by simpa using h1, Lib.hid (SD.out h1)⟩
  rcases CS with h2 | ⟨h2, SD2⟩
  case' inl =>
    go_wp2
    clear h2
  case' inr =>
    go_wp2_with fail
    refine (rday_any _ _).mono ?_
    rintro e w2 ⟨rfl, rfl⟩
    rw [SD2.out]
    go_wp2
    clear h2 SD2
  all_goals
    clear b0 b1 b2 b3 SD AC l60
    have HS := Lib.hid (SetM.made w1)
    have kM := Lib.hid ((Kept.refl w1).alloc (.map #[] 0))
    generalize w1.alloc (.map #[] 0) = W2 at *
    generalize hbm : w1.heap.size = bm at *
    have hWb : w1.heap.size ≤ bm := by omega
    clear hbm hmm
    generalize w.heap.size = bx at *
    go_loopw [34] (fun i wr => ∃ j : Nat, j ≤ b.ens.length ∧ i = .int .i64 j ∧ Hid (exsE b.acs [] b.ens = exsE b.acs (b.ens.take j) (b.ens.drop j)) ∧ SetM wr bm j (kP (b.ens.take j)) ∧ Kept w1 wr) (fun i _ => b.ens.length - (intOf i).toNat)
    case atStart => exact ⟨0, Nat.zero_le _, rfl, Lib.hid rfl, HS.out, kM.out⟩
    case round =>
      obtain ⟨j, hj, rfl, HE, hM, hK⟩ := hrel
      by_cases hlt : j < b.ens.length
      · have hKK := HK1.out.trans hK
        obtain ⟨p, off, hp, hR⟩ := (HM.out.ens.later hKK).at hlt
        obtain ⟨a, cap, c0, c1, c2, h1, h2, hL⟩ := hR.at j hlt
        have plt := hR.1
        have hSX := HM.out.she _ (List.getElem_mem hlt)
        have XE := Lib.hid (fun er (e : exE b.acs (b.ens.take j) b.ens[j] = er) (h0 : er ≠ 0) => exs_err hlt HE.out e h0)
        have XN := Lib.hid (fun (e : exE b.acs (b.ens.take j) b.ens[j] = 0) => exs_next hlt HE.out e)
        have KS := Lib.hid (show kP (b.ens.take (j + 1)) = ((b.ens[j]).key, 0) :: kP (b.ens.take j) by rw [ens_take hlt, kP_snoc])
        have bl : bm < wr.heap.size := hM.own.lt
        clear hR
        have HQ := Lib.hid (show q = ⟨q.aa, q.ca, some ⟨p, off, none⟩, q.ce⟩ by cases q; simp at hp; simp [hp])
        rw [hp] at *
        clear hp
        generalize b.ens[j] = x at *
        have kE := (Kept.refl wr).alloc (.cells #[.string x.key, .int .i64 x.day, .slice a x.lns.length cap] 38)
        have hX := EBx.new wr x.key x.day (.slice a x.lns.length cap) 38
        have hK1 := hK.trans kE
        have hM1 := hM.later kE
        have EC := Lib.hid (rentry_any x.key x.day a x.lns cap (wr.alloc (.cells #[.string x.key, .int .i64 x.day, .slice a x.lns.length cap] 38)) hSX.1 hSX.2.1 (hL.later kE) hSX.2.2)
        by_cases e0 : enE x.key x.day x.lns = 0
        · have n12 := (enE_ok e0).2.2.1
          have E0 := Lib.hid e0
          rw [e0] at EC
          clear e0
          go_wp2_with fail
          refine EC.out.mono ?_
          rintro e w2 ⟨rfl, hK2⟩
          have HX2 := Lib.hid (hX.later hK2)
          have HM2 := Lib.hid (hM1.later hK2)
          have HK3 := Lib.hid (hK1.trans hK2)
          have LL := Lib.hid ((hL.later kE).later hK2)
          have wl2 : wr.heap.size < w2.heap.size := HX2.out.lt
          clear hX hM1 hK1 hK2 hM hK kE c0 c1 c2 plt EC hL hKK
          obtain ⟨x0, x1, x2, x3⟩ := HX2.out
          go_wp2
          clear x0 x1 x2 x3
          generalize wr.heap.size = sz at *
          go_loopw [47] (fun i wr2 => ∃ m : Nat, m ≤ x.lns.length ∧ i = .int .i64 m ∧ Hid ((x.lns.take m).all (fun y => hasB y.1 b.acs) = true) ∧ Kept w2 wr2) (fun i _ => x.lns.length - (intOf i).toNat)
          case atStart => exact ⟨0, Nat.zero_le _, rfl, Lib.hid rfl, Kept.refl _⟩
          case round =>
            obtain ⟨m, hm, rfl, HT, hKm⟩ := hrel
            have hK4 := HK3.out.trans hKm
            by_cases hlm : m < x.lns.length
            · obtain ⟨p2, off2, hp2, hR2⟩ := (LL.out.later hKm).at hlm
              have c0 := hR2.c0 m hlm
              have c1 := hR2.c1 m hlm
              have plt := hR2.lt
              have NX := Lib.hid (fun hb => all_snoc (P := fun y : Pr => hasB y.1 b.acs) hlm HT.out hb)
              have NO := Lib.hid (fun hb => raccE (acs := b.acs) hlm hb)
              clear hR2
              subst hp2
              generalize x.lns[m] = y at *
              have kL := (Kept.refl wr).alloc (.cells #[.string y.1, .int .i64 y.2] 48)
              have hK5 := HK1.out.trans (hK4.trans kL)
              have HMb := Lib.hid (HM.out.later hK5)
              obtain ⟨b0, b1, b2, b3⟩ := HB.out.later (HK1.out.trans hK4)
              have RH := Lib.hid (rhas_any y.1 b.acs q.aa q.ca _ HMb.out.an HMb.out.acs)
              cases hh : hasB y.1 b.acs
              · rw [hh] at RH
                have FIN := Lib.hid (XE.out 4 (exE_acc E0.out (NO.out hh)) (by decide))
                go_wp2_with fail
                refine RH.out.mono ?_
                rintro e w5 ⟨rfl, hK6⟩
                go_wp2
                go_ret
                exact ⟨ret_int FIN.out.symm, K1.out.trans (hK5.trans hK6)⟩
              · rw [hh] at RH
                have NX2 := Lib.hid (NX.out hh)
                go_wp2_with fail
                refine RH.out.mono ?_
                rintro e w5 ⟨rfl, hK6⟩
                go_wp2
                go_roundw
                case rel => exact ⟨m + 1, by omega, by go_num, NX2, hKm.trans (kL.trans hK6)⟩
                case measure => simp [intOf]; omega
            · obtain rfl : m = x.lns.length := by omega
              clear hlm
              have HAL := Lib.hid (show allA b.acs x.lns = true by have := HT.out; rw [List.take_length] at this; exact this)
              have hX3 := HX2.out.later hKm
              have hM3 := HM2.out.later hKm
              obtain ⟨x0, x1, x2, x3⟩ := id hX3
              have wl3 : sz < wr.heap.size := hX3.lt
              have hlk := hM3.look hSX.1
              rw [kP_has] at hlk
              cases hh : keyI x.key (b.ens.take j)
              · have HH := Lib.hid hh
                rw [hh] at hlk
                clear hh
                go_wp2_with (at_mapUpdate; refine put_one (y := (x.key, 0)) rfl _ _ _ rfl rfl hM3 (by omega) rfl rfl hSX.1 ?_)
                intro w4 hM4 hgr
                have hK6 : Kept w1 w4 := Below.grown hK4 hgr hK4.size (fun q e => by cases e; omega)
                have hX4 := hX3.grown hgr (by simp; omega)
                have HRL4 := Lib.hid (HM.out.ens.later (HK1.out.trans hK6))
                obtain ⟨y0, y1, y2, y3⟩ := id hX4
                obtain ⟨b0, b1, b2, b3⟩ := HB.out.later (HK1.out.trans hK6)
                clear hM3 hX3 x0 x1 x2 x3 hlk hgr hK4
                rw [← KS.out] at hM4
                by_cases j0 : j = 0
                · subst j0
                  have Z := Lib.hid (XN.out (exE_zero E0.out HAL.out HH.out rfl))
                  have i9 : ¬ (0 : Int) < ((0 : Nat) : Int) := by omega
                  go_wp2
                  go_roundw
                  case rel => exact ⟨1, by omega, by go_num, Z, hM4, hK6⟩
                  case measure => simp [intOf]; omega
                · obtain ⟨m, hmj⟩ : ∃ m, j = m + 1 := ⟨j - 1, by omega⟩
                  have hm2 : m < b.ens.length := by omega
                  have LA := Lib.hid (show lastB (b.ens.take j) x = befB b.ens[m] x by rw [hmj]; exact last_at hm2 x)
                  obtain ⟨p', off', hp', hR'⟩ := HRL4.out.at hm2
                  have hp2 : q.ae = some ⟨p, off, none⟩ := congrArg BkA.ae HQ.out
                  obtain ⟨rfl, rfl⟩ : p' = p ∧ off' = off := by rw [hp2] at hp'; simp at hp'; exact ⟨hp'.1.symm, hp'.2.symm⟩
                  obtain ⟨a', cap', r0, r1, r2, _, _, _⟩ := hR'.at m hm2
                  have rlt := hR'.1
                  rw [hp2] at b2
                  have XZ := Lib.hid (fun (t : befB b.ens[m] x = true) => XN.out (exE_zero E0.out HAL.out HH.out (by rw [LA.out]; exact t)))
                  have X3 := Lib.hid (fun (t : befB b.ens[m] x = false) => XE.out 3 (exE_last E0.out HAL.out HH.out (by rw [LA.out]; exact t)) (by decide))
                  clear hR' hp' hp2 LA
                  generalize b.ens[m] = z at *
                  have i0 : (0 : Int) ≤ (j : Int) - 1 := by omega
                  have i1 : (j : Int) - 1 < (b.ens.length : Int) := by omega
                  have i3 : IntKind.i64.wrap ((j : Int) - 1) = (j : Int) - 1 := by rw [IntKind.wrap_i64]; omega
                  have i4 : (0 : Int) < (j : Int) := by omega
                  have a1 : (1 : Int) ≤ (j : Int) := by omega
                  have a11 : j - 1 = m := by omega
                  clear hmj j0
                  have kZ := (Kept.refl w4).alloc (.cells #[.string z.key, .int .i64 z.day, .slice a' z.lns.length cap'] 38)
                  have CC : (befB z x = true ∧ ((¬ x.day < z.day ∧ (z.day == x.day) = false) ∨ (¬ x.day < z.day ∧ (z.day == x.day) = true ∧ Op.bytesLess z.key.toList x.key.toList = true))) ∨ (befB z x = false ∧ (x.day < z.day ∨ (¬ x.day < z.day ∧ (z.day == x.day) = true ∧ Op.bytesLess z.key.toList x.key.toList = false))) := by
                    cases hb : befB z x
                    · refine .inr ⟨rfl, ?_⟩
                      by_cases h : z.day = x.day
                      · refine .inr ⟨by omega, by simp [h], ?_⟩
                        unfold befB at hb; rw [if_pos h] at hb; exact hb
                      · unfold befB at hb; rw [if_neg h, decide_eq_false_iff_not] at hb
                        exact .inl (by omega)
                    · refine .inl ⟨rfl, ?_⟩
                      rcases bef_iff.1 hb with h | ⟨h, h'⟩
                      · exact .inl ⟨by omega, by simp; omega⟩
                      · exact .inr ⟨by omega, by simp [h], h'⟩
                  rcases CC with ⟨hb, (⟨d1, d2⟩ | ⟨d1, d2, d3⟩)⟩ | ⟨hb, (d1 | ⟨d1, d2, d3⟩)⟩
                  · have FZ := Lib.hid (XZ.out hb)
                    clear hb
                    go_wp2
                    go_roundw
                    case rel => exact ⟨j + 1, by omega, by go_num, FZ, hM4.later kZ, hK6.trans kZ⟩
                    case measure => simp [intOf]; omega
                  · have FZ := Lib.hid (XZ.out hb)
                    clear hb
                    go_wp2
                    go_roundw
                    case rel => exact ⟨j + 1, by omega, by go_num, FZ, hM4.later kZ, hK6.trans kZ⟩
                    case measure => simp [intOf]; omega
                  · have F3 := Lib.hid (X3.out hb)
                    clear hb
                    go_wp2
                    go_ret
                    exact ⟨ret_int F3.out.symm, K1.out.trans (HK1.out.trans (hK6.trans kZ))⟩
                  · have F3 := Lib.hid (X3.out hb)
                    clear hb
                    go_wp2
                    go_ret
                    exact ⟨ret_int F3.out.symm, K1.out.trans (HK1.out.trans (hK6.trans kZ))⟩
              · have FIN := Lib.hid (XE.out 5 (exE_key E0.out HAL.out hh) (by decide))
                rw [hh] at hlk
                clear hh
                go_wp2
                go_ret
                exact ⟨ret_int FIN.out.symm, K1.out.trans (HK1.out.trans hK4)⟩
        · have E2 : (enE x.key x.day x.lns != 0) = true := by simpa using e0
          have FIN := Lib.hid (XE.out _ (exE_en e0) e0)
          clear e0
          generalize enE x.key x.day x.lns = er at *
          go_wp2_with fail
          refine EC.out.mono ?_
          rintro e w2 ⟨rfl, hK2⟩
          go_wp2
          go_ret
          exact ⟨ret_int FIN.out.symm, K1.out.trans (HK1.out.trans (hK1.trans hK2))⟩
      · obtain rfl : j = b.ens.length := by omega
        clear hlt
        have HZ := Lib.hid (show exsE b.acs [] b.ens = 0 by rw [HE.out, List.drop_length]; rfl)
        go_wp2
        go_ret
        exact ⟨ret_int HZ.out.symm, K1.out.trans (HK1.out.trans hK)⟩
set_option maxHeartbeats 4000000 in
/-- What the reference says of a book. -/
theorem rbook_any (q : BkA) (b : Bk) (w : World) (hM : BkM w q b) :
    Calls Tryz.prog 6 #[bkV q b] w fun e w' => e = .returned (.int .i64 (bkE b)) ∧ Kept w w' := by
  by_cases h1 : acE b.acs = 0
  · by_cases h2 : b.shut = -1 ∨ dyB b.shut = true
    · by_cases h3 : 60 < b.ens.length
      · have k1 := (Kept.refl w).alloc (bkO q b)
        have HB := Lib.hid (BBx.new w q b)
        have HM := Lib.hid (hM.later k1)
        have K1 := Lib.hid k1
        have hem : b.ens.length ≤ 9223372036854775807 := by have := hM.en; unfold maxLen at this; omega
        have AC := Lib.hid (raccts_any q.aa b.acs q.ca (w.alloc (bkO q b)) HM.out.acs HM.out.sha HM.out.an)
        have FIN := Lib.hid (show bkE b = 2 by unfold bkE; rw [if_pos h1, if_pos h2, if_pos h3])
        have g3 : (60 : Int) < (b.ens.length : Int) := by omega
        rw [h1] at AC
        have h2' : (b.shut != -1) = false ∨ ((b.shut != -1) = true ∧ Hid (inB b.shut 0 292193 = true)) := by
          by_cases h : b.shut = -1
          · exact .inl (by simp [h])
          · exact .inr ⟨by simpa using h, Lib.hid (h2.resolve_left h)⟩
        clear h1 h2 h3 hM k1
        rcases h2' with h2 | ⟨h2, SD2⟩
        · go_enter Tryz.func6, Tryz.ntmps6
          go_wp2_with fail
          refine AC.out.mono ?_
          rintro e w1 ⟨rfl, hK1⟩
          obtain ⟨b0, b1, b2, b3⟩ := HB.out.later hK1
          go_wp2
          go_ret
          exact ⟨ret_int FIN.out.symm, K1.out.trans hK1⟩
        · go_enter Tryz.func6, Tryz.ntmps6
          go_wp2_with fail
          refine AC.out.mono ?_
          rintro e w1 ⟨rfl, hK1⟩
          obtain ⟨b0, b1, b2, b3⟩ := HB.out.later hK1
          go_wp2_with fail
          refine (rday_any _ _).mono ?_
          rintro e w2 ⟨rfl, rfl⟩
          rw [SD2.out]
          go_wp2
          go_ret
          exact ⟨ret_int FIN.out.symm, K1.out.trans hK1⟩
      · have e : bkE b = exsE b.acs [] b.ens := by unfold bkE; rw [if_pos h1, if_pos h2, if_neg h3]
        rw [e]; exact rbook_in q b w hM h1 h2 (by omega)
    · have k1 := (Kept.refl w).alloc (bkO q b)
      have HB := Lib.hid (BBx.new w q b)
      have HM := Lib.hid (hM.later k1)
      have K1 := Lib.hid k1
      have AC := Lib.hid (raccts_any q.aa b.acs q.ca (w.alloc (bkO q b)) HM.out.acs HM.out.sha HM.out.an)
      have FIN := Lib.hid (show bkE b = 1 by unfold bkE; rw [if_pos h1, if_neg h2])
      rw [h1] at AC
      have h3 : (b.shut != -1) = true := by simpa using fun h => h2 (.inl h)
      have SD2 := Lib.hid (show inB b.shut 0 292193 = false by
        cases h : inB b.shut 0 292193
        · rfl
        · exact absurd (.inr h) h2)
      clear h1 h2 hM k1
      go_enter Tryz.func6, Tryz.ntmps6
      go_wp2_with fail
      refine AC.out.mono ?_
      rintro e w1 ⟨rfl, hK1⟩
      obtain ⟨b0, b1, b2, b3⟩ := HB.out.later hK1
      go_wp2_with fail
      refine (rday_any _ _).mono ?_
      rintro e w2 ⟨rfl, rfl⟩
      rw [SD2.out]
      go_wp2
      go_ret
      exact ⟨ret_int FIN.out.symm, K1.out.trans hK1⟩
  · have k1 := (Kept.refl w).alloc (bkO q b)
    have HM := Lib.hid (hM.later k1)
    have K1 := Lib.hid k1
    have AC := Lib.hid (raccts_any q.aa b.acs q.ca (w.alloc (bkO q b)) HM.out.acs HM.out.sha HM.out.an)
    have FIN := Lib.hid (show bkE b = acE b.acs by unfold bkE; rw [if_neg h1])
    have h2 : (acE b.acs != 0) = true := by simpa using h1
    clear h1 hM k1
    generalize acE b.acs = er at *
    go_enter Tryz.func6, Tryz.ntmps6
    go_wp2_with fail
    refine AC.out.mono ?_
    rintro e w1 ⟨rfl, hK1⟩
    go_wp2
    go_ret
    exact ⟨ret_int FIN.out.symm, K1.out.trans hK1⟩
end Go.Proofs.YtbaahnafmfjpaaaGreatDoor
