/-
  The law AgePaid: for all items and an amount it answers true; nothing that was there is turned. No condition but those that each theorem names.
-/
import Derived.Test.YtdgiljndoeldcaaLawAgeTwice
namespace Go.Proofs.Ytdgiljndoeldcaa
open Go.RowKit Go.Sort
set_option linter.unusedVariables false

/-- What the law asks of what is left. -/
structure PdOk (l : List Mv) (n : Int) (m : List Mv) (r : Int) : Prop where
  e1 : payL (srtD l) n = m
  e2 : payR (srtD l) n = r
  sum : csm m = csm l - (n - r)
  r0 : 0 ≤ r
  r1 : r ≤ n
  none : 0 < r → m = []
  srt : SrtD m
  pos : ∀ x ∈ m, 1 ≤ x.2
  posl : ∀ x ∈ l, 1 ≤ x.2
  len : m.length ≤ 40
  s0 : 0 ≤ csm l
  s1 : csm l ≤ 40000000000000
  t0 : 0 ≤ csm m
  all : ∀ (h : 0 < m.length), ∀ y ∈ l, (m[0]).1 < y.1 → y ∈ m
theorem pd_ok {l : List Mv} (ok : ItOk l) {n : Int} (h0 : 0 ≤ n) : ∃ m r, PdOk l n m r := by
  have pos : ∀ v ∈ srtD l, 1 ≤ v.2 := fun v hv => (ok.it v ((srtD_perm l).subset hv)).2.2.1
  have posl : ∀ v ∈ l, 1 ≤ v.2 := fun v hv => (ok.it v hv).2.2.1
  have ps := pay_sum (l := srtD l) (n := n) pos h0
  rw [csm_perm (srtD_perm l)] at ps
  have ok2 := (payl_ok ok h0).1
  have b := ItOk.csm ok.it
  have := ok.len
  have pm : ∀ x ∈ payL (srtD l) n, 1 ≤ x.2 := fun x hx => (ok2.it x hx).2.2.1
  refine ⟨_, _, rfl, rfl, ps.1, ps.2.1, ps.2.2.1, ps.2.2.2, pay_srt (srtD_srt l), pm, posl, ok2.len, by omega, by omega, (csm0 pm).1, fun h y hy lt => ?_⟩
  obtain ⟨x, r, e⟩ : ∃ x r, payL (srtD l) n = x :: r := List.exists_cons_of_length_pos h
  simp only [e, List.getElem_cons_zero] at lt
  exact pay_later (srtD_srt l) y ((srtD_perm l).symm.subset hy) x r e lt
abbrev litP : List Mv := [(5, 10), (3, 10)]
set_option maxRecDepth 100000 in
set_option maxHeartbeats 8000000 in
theorem agePaid_no (a : Option Addr) (l : List Mv) (cap : Nat) (n : Int) (w : World) (hA : JArg eP w a l) (hc : l.length ≤ cap) (hn : cap ≤ maxLen) (er : pyE l n ≠ 0) :
    Calls Try.prog 5 #[.slice a l.length cap, .int .i64 n] w fun e w' => e = .returned (.bool true) ∧ Below w.heap.size w w' := by
  have F0 := Lib.hid (pay_is (some ⟨w.heap.size, 0, none⟩) litP 2 15 (w.alloc (.cells #[.int .i64 5, .int .i64 10, .int .i64 3, .int .i64 10] 31)) [(5, 5)] 0 (JArg.lit eP _ _ _ rfl rfl) (fun e => by cases e) (it_ok (by decide +kernel)) (by decide) (by decide) (by decide +kernel) (by decide +kernel))
  have KA := (Kept.refl w).alloc (.cells #[.int .i64 5, .int .i64 10, .int .i64 3, .int .i64 10] 31)
  have hl : l.length ≤ maxLen := Nat.le_trans hc hn
  have P1 := Lib.hid (fun (w' : World) (k : Kept w w') => pay_no a l cap n w' hl (hA.later k) er)
  have nb : (pyE l n != 0) = true := by rw [bne_iff_ne]; exact er
  generalize pyE l n = q at *
  clear hA er
  go_enter Try.func5, Try.ntmps5
  go_wp2_with fail
  refine F0.out.mono ?_
  rintro e w1 ⟨a0, c0, rfl, hR0, hK0⟩
  have hK1 := KA.trans hK0
  have kE := hK1.alloc (.cells #[.int .i64 5, .int .i64 5] 31)
  have EQ := Lib.hid (itequal_yes [(5, 5)] a0 (some ⟨w1.heap.size, 0, none⟩) 1 c0 1 (w1.alloc (.cells #[.int .i64 5, .int .i64 5] 31)) (by decide) rfl (hR0.arg.later ((Kept.refl w1).alloc _)) (JArg.lit eP _ _ _ rfl rfl))
  clear F0 KA hR0 hK0 hK1
  go_wp2_with fail
  refine EQ.out.mono ?_
  rintro e w2 ⟨rfl, hK2⟩
  have hK12 := kE.trans hK2
  clear EQ kE hK2
  go_wp2_with fail
  refine (P1.out _ hK12).mono ?_
  rintro e w3 ⟨rfl, hK3⟩
  go_wp2
  go_ret
  exact ⟨rfl, hK12.trans hK3⟩
set_option maxRecDepth 100000 in
set_option maxHeartbeats 8000000 in
theorem agePaid_yes (a : Option Addr) (l : List Mv) (cap : Nat) (n : Int) (w : World) (hA : JArg eP w a l) (z : a = none → cap = 0) (ok : ItOk l) (n0 : 0 ≤ n) (n1 : n ≤ 1000000000000) :
    Calls Try.prog 5 #[.slice a l.length cap, .int .i64 n] w fun e w' => e = .returned (.bool true) ∧ Below w.heap.size w w' := by
  have F0 := Lib.hid (pay_is (some ⟨w.heap.size, 0, none⟩) litP 2 15 (w.alloc (.cells #[.int .i64 5, .int .i64 10, .int .i64 3, .int .i64 10] 31)) [(5, 5)] 0 (JArg.lit eP _ _ _ rfl rfl) (fun e => by cases e) (it_ok (by decide +kernel)) (by decide) (by decide) (by decide +kernel) (by decide +kernel))
  have KA := (Kept.refl w).alloc (.cells #[.int .i64 5, .int .i64 10, .int .i64 3, .int .i64 10] 31)
  have hl4 : l.length ≤ 40 := ok.len
  have HA := Lib.hid hA
  obtain ⟨m, r, pd⟩ := pd_ok ok n0
  have P1 := Lib.hid (fun (w' : World) (k : Kept w w') => pay_is a l cap n w' m r (hA.later k) z ok n0 n1 pd.e1 pd.e2)
  have OL := Lib.hid (fun (w' : World) (k : Kept w w') => owed_any a l cap w' (by omega) pd.posl (by have := pd.s1; omega) (hA.later k))
  have OM := Lib.hid (fun (a' : Option Addr) (c' : Nat) (w' : World) (k : JArg eP w' a' m) => owed_any a' m c' w' (by have := pd.len; omega) pd.pos (by have := pd.sum; have := pd.s1; have := pd.r1; omega) k)
  rw [pd.sum] at OM
  have r0 := pd.r0
  have r1 := pd.r1
  have s0 := pd.s0
  have s1 := pd.s1
  have m4 := pd.len
  have PD := Lib.hid pd
  clear hA ok pd
  go_enter Try.func5, Try.ntmps5
  go_wp2_with fail
  refine F0.out.mono ?_
  rintro e w1 ⟨a0, c0, rfl, hR0, hK0⟩
  have hK1 := KA.trans hK0
  have kE := hK1.alloc (.cells #[.int .i64 5, .int .i64 5] 31)
  have EQ := Lib.hid (itequal_yes [(5, 5)] a0 (some ⟨w1.heap.size, 0, none⟩) 1 c0 1 (w1.alloc (.cells #[.int .i64 5, .int .i64 5] 31)) (by decide) rfl (hR0.arg.later ((Kept.refl w1).alloc _)) (JArg.lit eP _ _ _ rfl rfl))
  clear F0 KA hR0 hK0 hK1
  go_wp2_with fail
  refine EQ.out.mono ?_
  rintro e w2 ⟨rfl, hK2⟩
  have hK12 := kE.trans hK2
  clear EQ kE hK2
  go_wp2_with fail
  refine (P1.out _ hK12).mono ?_
  rintro e w3 ⟨a1, c1, rfl, hR1, hK3⟩
  have hK13 := hK12.trans hK3
  have HM := Lib.hid hR1.arg
  clear P1 hK12 hK3 hR1
  go_wp2_with fail
  refine (OM.out a1 c1 _ HM.out).mono ?_
  rintro e w4 ⟨rfl, hK4⟩
  have hK14 := hK13.trans hK4
  have HM4 := Lib.hid (HM.out.later hK4)
  clear OM hK13 hK4 HM
  go_wp2_with fail
  refine (OL.out _ hK14).mono ?_
  rintro e w5 ⟨rfl, hK5⟩
  have hK15 := hK14.trans hK5
  have HM5 := Lib.hid (HM4.out.later hK5)
  clear OL hK14 hK5 HM4
  have g1 : IntKind.i64.wrap (n - r) = n - r := IntWalk.i64_in _ (by omega)
  have g2 : IntKind.i64.wrap (csm l - (n - r)) = csm l - (n - r) := IntWalk.i64_in _ (by omega)
  have g3 : (csm l - (n - r) != csm l - (n - r)) = false := by simp
  generalize csm l = cs at *
  rcases (show (0 < r ∧ m = []) ∨ r = 0 by by_cases c : 0 < r; exact .inl ⟨c, PD.out.none c⟩; exact .inr (by omega)) with ⟨c, rfl⟩ | rfl
  · go_wp2
    go_loopw [11] (fun i wr => i = .int .i64 1 ∧ w5 = wr) (fun _ _ => 0)
    case atStart => exact ⟨rfl, rfl⟩
    case round =>
      obtain ⟨rfl, rfl⟩ := hrel
      go_wp2
      go_loopw [98] (fun i wr => ∃ j : Nat, j ≤ l.length ∧ i = .int .i64 j ∧ Kept w wr) (fun i _ => l.length - (intOf i).toNat)
      case atStart => exact ⟨0, Nat.zero_le _, rfl, hK15⟩
      case round =>
        clear hK15
        obtain ⟨j, hj, rfl, hK⟩ := hrel
        by_cases hlt : j < l.length
        · obtain ⟨p, off, rfl, hR⟩ := (HA.out.later hK).at hlt
          have c0 := hR.c0 j hlt
          have c1 := hR.c1 j hlt
          have plt := hR.lt
          clear hR
          generalize l[j] = x at *
          have i1 : (j : Int) < (l.length : Int) := by omega
          go_wp2_with fail
          go_quiet (fail)
          go_wp2
          go_roundw
          case rel => exact ⟨j + 1, by omega, by go_num, (hK.alloc _).drewN _⟩
          case measure => simp [intOf]; omega
        · obtain rfl : j = l.length := by omega
          clear hlt
          go_wp2
          go_ret
          exact ⟨rfl, hK⟩
  · go_wp2
    go_loopw [11] (fun i wr => ∃ (j q : Nat), 1 ≤ j ∧ (j ≤ m.length ∨ j = 1) ∧ i = .int .i64 j ∧ wr = w5.drewN q) (fun i _ => m.length - (intOf i).toNat)
    case atStart => exact ⟨1, 0, Nat.le_refl _, .inr rfl, rfl, rfl⟩
    case round =>
      obtain ⟨j, q, j1, hj, rfl, rfl⟩ := hrel
      by_cases hlt : j < m.length
      · obtain ⟨p, off, rfl, hR⟩ := HM5.out.at hlt
        have c0 := hR.c0 j hlt
        have d0 := hR.c0 (j - 1) (by omega)
        have SR := Lib.hid (List.pairwise_iff_getElem.1 PD.out.srt (j - 1) j (by omega) hlt (by omega))
        clear hR
        generalize m[j] = x at *
        generalize m[j - 1] = y at *
        have le := SR.out
        have nlt : decide (x.1 < y.1) = false := by simpa using le
        have i1 : (j : Int) < (m.length : Int) := by omega
        have i2 : (j : Int) - 1 < (m.length : Int) := by omega
        have i3 : (1 : Int) ≤ (j : Int) := by omega
        have i4 : ((j : Int) - 1).toNat = j - 1 := by omega
        have i5 : IntKind.i64.wrap ((j : Int) - 1) = (j : Int) - 1 := IntWalk.i64_in _ (by omega)
        go_wp2_with fail
        go_quiet (fail)
        go_wp2
        go_roundw
        case rel => exact ⟨j + 1, q + nq, by omega, by omega, by go_num, rfl⟩
        case measure => simp [intOf]; omega
      · have nl : ¬ ((j : Int) < (m.length : Int)) := by omega
        have hK16 := hK15.drewN q
        have HM6 := Lib.hid (HM5.out.later ((Kept.refl w5).drewN q))
        clear hlt HM5 hK15
        generalize w5.drewN q = w6 at *
        go_wp2
        go_loopw [98] (fun i wr => ∃ j : Nat, j ≤ l.length ∧ i = .int .i64 j ∧ Kept w wr ∧ Kept w6 wr) (fun i _ => l.length - (intOf i).toNat)
        case atStart => exact ⟨0, Nat.zero_le _, rfl, hK16, Kept.refl _⟩
        case round =>
          clear hK16 nl hj
          obtain ⟨i, hi, rfl, hK, hK6⟩ := hrel
          by_cases hlt : i < l.length
          · obtain ⟨p, off, rfl, hR⟩ := (HA.out.later hK).at hlt
            have v0 := hR.c0 i hlt
            have v1 := hR.c1 i hlt
            have plt := hR.lt
            have ML := List.getElem_mem hlt
            have AL := Lib.hid (fun h => PD.out.all h l[i] ML)
            clear hR ML
            generalize l[i] = x at *
            have i1 : (i : Int) < (l.length : Int) := by omega
            have hKa := hK.alloc (.cells #[.int .i64 x.1, .int .i64 x.2] 31)
            have hK6a := hK6.alloc (.cells #[.int .i64 x.1, .int .i64 x.2] 31)
            by_cases hm : 0 < m.length
            · obtain ⟨p2, off2, e2, hQ⟩ := HM6.out.at hm
              have CT := Lib.hid (fun (hd : (m[0]).1 < x.1) (q : Nat) (os : Array Obj) => contains_grown a1 m c1 x (grow ((wr.alloc (.cells #[.int .i64 x.1, .int .i64 x.2] 31)).drewN q) os) (by omega) (AL.out hm hd) (HM6.out.later (kept_grow (hK6a.drewN q) os)))
              have q0 := fun (q : Nat) (os : Array Obj) => (hQ.later (kept_grow (hK6a.drewN q) os)).c0 0 hm
              rw [Nat.zero_mul, Nat.add_zero] at q0
              have bx0 : ∀ (q : Nat) (os : Array Obj), (grow ((wr.alloc (.cells #[.int .i64 x.1, .int .i64 x.2] 31)).drewN q) os).cell? ⟨wr.heap.size, 0, none⟩ = some (.int .i64 x.1) := fun q os => by
                rw [cell?_grow _ _ _ (by simp)]; simp
              have bx1 : ∀ (q : Nat) (os : Array Obj), (grow ((wr.alloc (.cells #[.int .i64 x.1, .int .i64 x.2] 31)).drewN q) os).cell? ⟨wr.heap.size, 1, none⟩ = some (.int .i64 x.2) := fun q os => by
                rw [cell?_grow _ _ _ (by simp)]; simp
              have KG := Lib.hid (fun (q : Nat) (os : Array Obj) => And.intro (kept_grow (hKa.drewN q) os) (kept_grow (hK6a.drewN q) os))
              subst e2
              have mixed := mixedP
              have hm' : (0 : Int) < (m.length : Int) := by omega
              generalize m[0] = y at *
              clear hQ hKa hK6a
              go_wp2_with fail
              generalize wr.alloc (.cells #[.int .i64 x.1, .int .i64 x.2] 31) = W at *
              generalize wr.heap.size = bx at *
              by_cases hd : y.1 < x.1
              · have CT := Lib.hid (CT.out hd)
                go_quiet_grown (first | (go_at_call 26; refine Calls.grown_of (CT.out _ _)))
                go_wp2
                go_roundw
                case rel => exact ⟨i + 1, by omega, by go_num, (KG.out nq osq).1, (KG.out nq osq).2⟩
                case measure => simp [intOf]; omega
              · clear CT
                have nd : decide (y.1 < x.1) = false := by simpa using hd
                go_quiet_grown (fail)
                go_wp2
                go_roundw
                case rel => exact ⟨i + 1, by omega, by go_num, (KG.out nq osq).1, (KG.out nq osq).2⟩
                case measure => simp [intOf]; omega
            · obtain rfl : m = [] := List.eq_nil_of_length_eq_zero (by omega)
              clear hm AL
              go_wp2_with fail
              go_quiet (fail)
              go_wp2
              go_roundw
              case rel => exact ⟨i + 1, by omega, by go_num, hKa.drewN _, hK6a.drewN _⟩
              case measure => simp [intOf]; omega
          · obtain rfl : i = l.length := by omega
            clear hlt
            go_wp2
            go_ret
            exact ⟨rfl, hK⟩
theorem agePaid_walk (a : Option Addr) (l : List Mv) (cap : Nat) (n : Int) (w : World) (hA : JArg eP w a l) (hc : l.length ≤ cap) (hn : cap ≤ maxLen) (z : a = none → cap = 0) :
    Calls Try.prog 5 #[.slice a l.length cap, .int .i64 n] w fun e w' => e = .returned (.bool true) ∧ Below w.heap.size w w' := by
  by_cases er : pyE l n = 0
  · obtain ⟨ok, n0, n1⟩ := pyE_iff.1 er
    exact agePaid_yes a l cap n w hA z ok n0 n1
  · exact agePaid_no a l cap n w hA hc hn er
end Go.Proofs.Ytdgiljndoeldcaa
