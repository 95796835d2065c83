/-
  The walk of talkeep.BookAdds: it returns true at every input. No condition but those that each theorem names.
-/
import Derived.Test.YtndplbpdojbieaaLawBookZero
namespace Go.Proofs.Ytndplbpdojbieaa
open Go.RowKit
set_option linter.unusedVariables false

theorem codeS_zero {c : ByteArray} : ∀ {l : List Pr}, (∀ y ∈ l, isB c y = false) → codeS c l = 0
  | [], _ => rfl
  | x :: r, h => by rw [codeS, codeS_zero fun y hy => h y (by simp [hy]), h x (by simp)]; simp
theorem codeS_once {c : ByteArray} {l : List Pr} {j : Nat} (hn : (l.map Prod.fst).Nodup) (hj : j < l.length) (hb : isB c l[j] = true) : codeS c (l.take j) = 0 := by
  apply codeS_zero
  intro y hy
  cases h : isB c y
  · rfl
  · have e : l = l.take j ++ l[j] :: l.drop (j + 1) := by rw [← List.drop_eq_getElem_cons hj, List.take_append_drop]
    rw [e, List.map_append, List.nodup_append] at hn
    have a : y.1 = c := isB_iff.1 h
    have b : (l[j]).1 = c := isB_iff.1 hb
    exact absurd (a.trans b.symm) (hn.2.2 y.1 (List.mem_map.2 ⟨y, hy, rfl⟩) (l[j]).1 (List.mem_map.2 ⟨l[j], List.mem_cons_self .., rfl⟩))
/-- What an entry adds. -/
def byS (c : ByteArray) (l : List Pr) (on : Bool) : Int := if on = true then codeS c l else 0
set_option maxRecDepth 100000 in
set_option maxHeartbeats 8000000 in
theorem bookAdds_walk (q : BkA) (b : Bk) (k : ByteArray) (dx : Int) (a : Option Addr) (l : List Pr) (cap : Nat) (c : ByteArray) (t0 : Int) (w : World) (hM : BkM w q b) (hk : k.size ≤ maxLen) (hA : PArg w a l) (hs : Shortish l) (hn : l.length ≤ maxLen) (hc : l.length ≤ cap) (hcm : cap ≤ maxLen) :
    Calls Try.prog 6 #[bkV q b, enV k dx a l.length cap, .string c, .int .i64 t0] w fun e w' => e = .returned (.bool true) ∧ Below w.heap.size w w' := by
  obtain ⟨x, hx⟩ : ∃ x : Et, x = ⟨k, dx, l⟩ := ⟨_, rfl⟩
  have hE : EtM w x a cap := by rw [hx]; exact ⟨hk, hn, hA, hs, hc, hcm⟩
  have e1 : k = x.key := by rw [hx]
  have e2 : dx = x.day := by rw [hx]
  have e3 : l = x.lns := by rw [hx]
  subst e1 e2 e3
  clear hx hk hA hs hn hc hcm
  have HB := Lib.hid ((BBx.new w q b).later ((Kept.refl (w.alloc (bkO q b))).alloc (enO x a cap)))
  have HX := Lib.hid (EBx.newAt (w := w.alloc (bkO q b)) (p := w.heap.size + 1) (by simp) x.key x.day (.slice a x.lns.length cap) 28)
  have hK2 := ((Kept.refl w).alloc (bkO q b)).alloc (enO x a cap)
  have HM := Lib.hid (hM.later hK2)
  have HE := Lib.hid (hE.later hK2)
  have hem : b.ens.length ≤ 9223372036854775807 := by have := hM.en; unfold maxLen at this; omega
  obtain ⟨d, hd⟩ : ∃ d, dyV t0 = d := ⟨_, rfl⟩
  have DD := Lib.hid (hd ▸ dyV_ok t0)
  have ED := Lib.hid hd
  generalize hW : (w.alloc (bkO q b)).alloc (enO x a cap) = W at *
  have HW := Lib.hid hW
  have HK := Lib.hid hK2
  clear hM hE hW hK2 hd
  go_enter Try.func6, Try.ntmps6
  go_wp2_with fail
  rw [HW.out]
  refine (begun_any W).mono ?_
  rintro e w1 ⟨rfl, hK1⟩
  go_wp2_with fail
  refine (day_any t0 w1).mono ?_
  rintro e w2 ⟨rfl, rfl⟩
  rw [ED.out]
  obtain ⟨b0, b1, b2, b3⟩ := HB.out.later hK1
  obtain ⟨x0, x1, x2, x3⟩ := HX.out.later hK1
  go_wp2_with fail
  clear b0 b1 b2 b3 x0 x1 x2 x3
  by_cases ok : poE b x = 0
  · obtain ⟨gy, memy, eac, esh, hmem⟩ := Good.post ok
    obtain ⟨gb, hen, hor⟩ := poE_ok ok
    have CASES := Lib.hid (show (poV b x).ens = b.ens ∨ ((poV b x).ens = insE x b.ens) by
      rcases hor with ⟨_, e⟩ | ⟨_, _, _, _, e⟩
      · exact .inl (by rw [e])
      · exact .inr (by rw [e]))
    refine (post_yes q b x a cap w1 (HM.out.later hK1) (HE.out.later hK1) ok).mono ?_
    rintro e w2 ⟨q2, rfl, hF, hK3⟩
    clear ok hor
    generalize poV b x = y at *
    have GB := Lib.hid gb
    have GY := Lib.hid gy
    have EAC := Lib.hid eac
    have HEN := Lib.hid hen
    have hey : y.ens.length ≤ 60 := gy.many
    clear gy memy eac esh hmem gb hen
    have hK4 := hK1.trans hK3
    have kY := (Kept.refl w2).alloc (bkO q2 y)
    have HY := Lib.hid (BBx.new w2 q2 y)
    have HMY := Lib.hid (hF.m.later kY)
    have K5 := Lib.hid (hK4.trans kY)
    obtain ⟨b0, b1, b2, b3⟩ := HB.out.later hK4
    generalize hw3 : w2.alloc (bkO q2 y) = w3 at *
    have HW3 := Lib.hid hw3
    clear hF hK3 hw3 kY
    by_cases ok2 : baE b c d = 0
    · have BY := Lib.hid (bal_yes q b c d w3 (HM.out.later K5.out) ok2)
      have HC := Lib.hid (baE_ok ok2).2.1
      clear ok2
      go_wp2_with fail
      rw [HW3.out]
      refine BY.out.mono ?_
      rintro e w4 ⟨rfl, hK6⟩
      clear b0 b1 b2 b3
      obtain ⟨y0, y1, y2, y3⟩ := HY.out.later hK6
      have BZ := Lib.hid (bal_yes q2 y c d w4 (HMY.out.later hK6) (GY.out.ba (by rw [EAC.out]; exact HC.out) DD.out))
      go_wp2_with fail
      refine BZ.out.mono ?_
      rintro e w5 ⟨rfl, hK7⟩
      have hK8 := hK6.trans hK7
      clear y0 y1 y2 y3 hK6 hK7
      obtain ⟨x0, x1, x2, x3⟩ := HX.out.later (K5.out.trans hK8)
      have HK8 := Lib.hid hK8
      have L12 := (enE_ok HEN.out).2.2.1
      have ND := Lib.hid (enE_iff.1 HEN.out).2.2.2.2.1
      have LB := Lib.hid (fun y hy => (lnsE_all _ _ (enE_ok HEN.out).2.2.2.1 y hy))
      obtain ⟨on, hon⟩ : ∃ on : Bool, (decide (x.day ≤ d) && decide (b.ens.length < y.ens.length)) = on := ⟨_, rfl⟩
      have FIN := Lib.hid (show balS c d y.ens = balS c d b.ens + byS c x.lns on by
        rw [← hon]
        unfold byS
        rcases CASES.out with e | e
        · rw [e]; simp
        · rw [e, balS_ins, insE_len]
          by_cases h : x.day ≤ d
          · simp [h]
          · simp [h])
      obtain ⟨z1, z2⟩ := bal_bd GB.out c d
      obtain ⟨u1, u2⟩ := codeS_bd (c := c) (l := x.lns) fun y hy => ⟨(LB.out y hy).2.1, (LB.out y hy).2.2.1⟩
      have wr9 : IntKind.i64.wrap (balS c d b.ens + byS c x.lns on) = balS c d b.ens + byS c x.lns on := IntWalk.i64_in _ (by unfold byS; split <;> omega)
      clear hK8 u1 u2
      go_wp2
      clear x0 x1 x2 x3
      go_loopw [15, 57] (fun s i wr => ∃ j : Nat, j ≤ x.lns.length ∧ i = .int .i64 j ∧ s = .int .i64 (byS c (x.lns.take j) on) ∧ Kept w5 wr) (fun _ i _ => x.lns.length - (intOf i).toNat)
      case atStart => exact ⟨0, Nat.zero_le _, rfl, by unfold byS; simp [codeS], Kept.refl _⟩
      case round =>
        obtain ⟨j, hj, rfl, rfl, hK⟩ := hrel
        by_cases hlj : j < x.lns.length
        · have hKK := K5.out.trans (HK8.out.trans hK)
          obtain ⟨p2, off2, hp2, hR2⟩ := (HE.out.later hKK).lns.at hlj
          have c0 := hR2.c0 j hlj
          have c1 := hR2.c1 j hlj
          have plt := hR2.lt
          have CS := Lib.hid (codeS_snoc (c := c) hlj)
          have CO := Lib.hid (fun h => codeS_once (c := c) ND.out hlj h)
          clear hR2
          obtain ⟨x0, x1, x2, x3⟩ := HX.out.later hKK
          obtain ⟨b0, b1, b2, b3⟩ := HB.out.later hKK
          obtain ⟨y0, y1, y2, y3⟩ := HY.out.later (HK8.out.trans hK)
          subst hp2
          generalize x.lns[j] = z at *
          have kL := hK.alloc (.cells #[.string z.1, .int .i64 z.2] 48)
          cases hb : isB c z
          · have NX := Lib.hid (show byS c (x.lns.take (j + 1)) on = byS c (x.lns.take j) on by unfold byS; rw [CS.out, hb]; simp)
            have hb2 : (z.1.toList == c.toList) = false := hb
            clear hb CS CO
            generalize byS c (x.lns.take j) on = S1 at *
            go_wp2
            go_roundw
            case rel => exact ⟨j + 1, by omega, by go_num, by rw [NX.out], kL⟩
            case measure => simp [intOf]; omega
          · have hb2 : (z.1.toList == c.toList) = true := hb
            have z0 := CO.out hb
            by_cases h1 : x.day ≤ d
            · by_cases h2 : b.ens.length < y.ens.length
              · have NX := Lib.hid (show byS c (x.lns.take (j + 1)) on = z.2 by rw [← hon]; unfold byS; rw [CS.out, hb, z0]; simp [h1, h2])
                have h3 : (b.ens.length : Int) < (y.ens.length : Int) := by omega
                clear hb CS CO z0 hon
                generalize byS c (x.lns.take j) on = S1 at *
                go_wp2
                go_roundw
                case rel => exact ⟨j + 1, by omega, by go_num, by rw [NX.out], kL⟩
                case measure => simp [intOf]; omega
              · have NX := Lib.hid (show byS c (x.lns.take (j + 1)) on = byS c (x.lns.take j) on by rw [← hon]; unfold byS; simp [h2])
                have h3 : ¬ (b.ens.length : Int) < (y.ens.length : Int) := by omega
                clear hb CS CO z0 hon
                generalize byS c (x.lns.take j) on = S1 at *
                go_wp2
                go_roundw
                case rel => exact ⟨j + 1, by omega, by go_num, by rw [NX.out], kL⟩
                case measure => simp [intOf]; omega
            · have NX := Lib.hid (show byS c (x.lns.take (j + 1)) on = byS c (x.lns.take j) on by rw [← hon]; unfold byS; simp [h1])
              clear hb CS CO z0 hon
              generalize byS c (x.lns.take j) on = S1 at *
              go_wp2
              go_roundw
              case rel => exact ⟨j + 1, by omega, by go_num, by rw [NX.out], kL⟩
              case measure => simp [intOf]; omega
        · obtain rfl : j = x.lns.length := by omega
          clear hlj
          rw [List.take_length, FIN.out]
          generalize hbs : balS c d b.ens = S0 at *
          generalize byS c x.lns on = S1 at *
          go_wp2
          go_ret
          exact ⟨by simp, HK.out.trans (K5.out.trans (HK8.out.trans hK))⟩
    · have BN := Lib.hid (bal_no q b c d w3 (HM.out.later K5.out) ok2)
      have hne : (baE b c d != 0) = true := by simpa using ok2
      have hneb : (baE b c d == 0) = false := by simpa using ok2
      clear ok2
      generalize baE b c d = ek at *
      go_wp2_with fail
      rw [HW3.out]
      refine BN.out.mono ?_
      rintro e w4 ⟨rfl, hK6⟩
      go_wp2
      go_ret
      exact ⟨by simp, HK.out.trans (K5.out.trans hK6)⟩
  · refine (post_no q b x a cap w1 (HM.out.later hK1) (HE.out.later hK1) ok).mono ?_
    rintro e w2 ⟨rfl, hK3⟩
    have hne : (poE b x != 0) = true := by simpa using ok
    clear ok
    generalize poE b x = ek at *
    have k4 := (hK1.trans hK3).alloc noBk
    obtain ⟨b0, b1, b2, b3⟩ := HB.out.later (hK1.trans hK3)
    by_cases ok2 : baE b c d = 0
    · have BY := Lib.hid (bal_yes q b c d (w2.alloc noBk) (HM.out.later k4) ok2)
      clear ok2
      go_wp2_with fail
      refine BY.out.mono ?_
      rintro e w4 ⟨rfl, hK6⟩
      go_wp2
      go_ret
      exact ⟨by simp, HK.out.trans (k4.trans hK6)⟩
    · have BN := Lib.hid (bal_no q b c d (w2.alloc noBk) (HM.out.later k4) ok2)
      have hne2 : (baE b c d != 0) = true := by simpa using ok2
      have hneb : (baE b c d == 0) = false := by simpa using ok2
      clear ok2
      generalize baE b c d = ek2 at *
      go_wp2_with fail
      refine BN.out.mono ?_
      rintro e w4 ⟨rfl, hK6⟩
      go_wp2
      go_ret
      exact ⟨by simp, HK.out.trans (k4.trans hK6)⟩
end Go.Proofs.Ytndplbpdojbieaa
