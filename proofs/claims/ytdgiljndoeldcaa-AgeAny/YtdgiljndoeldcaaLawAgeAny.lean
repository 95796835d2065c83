/-
  The law AgeAny: for all items, a turn, an amount and a day it answers true; nothing that was there is turned. No condition but those that each theorem names.
-/
import Derived.Test.YtdgiljndoeldcaaLawAgeSum
import Derived.Test.YtdgiljndoeldcaaLawAgeTwice
namespace Go.Proofs.Ytdgiljndoeldcaa
open Go.RowKit Go.Sort
set_option linter.unusedVariables false

/-- Within, told. -/
def wnK (k n : Int) : Int := IntKind.u64.wrap k % n
theorem wnK_bd (k n : Int) (h : 1 ≤ n) : 0 ≤ wnK k n ∧ wnK k n < n := ⟨Int.emod_nonneg _ (by omega), Int.emod_lt_of_pos _ (by omega)⟩
theorem wnK_val (k n : Int) (h0 : 1 ≤ n) (h1 : n ≤ 1000000000000000) : wrap64 ((IntKind.u64.wrap k).tmod n) = wnK k n := by
  have h2 : 0 ≤ IntKind.u64.wrap k := by rw [IntKind.wrap_u64]; omega
  have h3 : (IntKind.u64.wrap k).tmod n = IntKind.u64.wrap k % n := Int.tmod_eq_emod_of_nonneg h2
  have h4 := wnK_bd k n h0
  unfold wnK at *
  rw [h3]
  unfold wrap64; omega
set_option maxHeartbeats 1000000 in
theorem kwith_any (k n : Int) (w : World) (h0 : 1 ≤ n) (h1 : n ≤ 1000000000000000) :
    Calls Try.prog 27 #[.int .i64 k, .int .i64 n] w fun e w' => e = .returned (.int .i64 (wnK k n)) ∧ w = w' := by
  go_enter Try.func27, Try.ntmps27
  go_wp2
  go_ret
  exact ⟨ret_int (wnK_val k n h0 h1), rfl⟩
set_option maxHeartbeats 1000000 in
theorem kday_any (k : Int) (w : World) :
    Calls Try.prog 31 #[.int .i64 k] w fun e w' => e = .returned (.int .i64 (wnK k 292194)) ∧ w = w' := by
  go_enter Try.func31, Try.ntmps31
  go_wp2_with fail
  refine (kwith_any _ _ _ (by decide) (by decide)).mono ?_
  rintro e w1 ⟨rfl, rfl⟩
  go_wp2
  go_ret
  exact ⟨rfl, rfl⟩
/-- The list turned. -/
def rotI (l : List Mv) (t : Nat) : List Mv := (List.range l.length).map fun i => itN l ((i + t) % l.length)
theorem rotI_len (l : List Mv) (t : Nat) : (rotI l t).length = l.length := by simp [rotI]
theorem rotI_perm (l : List Mv) (t : Nat) : l.Perm (rotI l t) := by
  by_cases h0 : l = []
  · subst h0; exact .refl _
  have hn : 0 < l.length := List.length_pos_iff.2 h0
  have e : rotI l t = ((List.range l.length).map fun i => (i + t) % l.length).map (itN l) := by unfold rotI; rw [List.map_map]; rfl
  have p : (List.range l.length).Perm ((List.range l.length).map fun i => (i + t) % l.length) := by
    rw [List.perm_ext_iff_of_nodup List.nodup_range]
    · intro x
      rw [List.mem_range, List.mem_map]
      constructor
      · intro hx
        obtain ⟨s, hs⟩ : ∃ s, s = t % l.length := ⟨_, rfl⟩
        have s1 : s < l.length := by rw [hs]; exact Nat.mod_lt _ hn
        by_cases c : s ≤ x
        · refine ⟨x - s, List.mem_range.2 (by omega), ?_⟩
          rw [Nat.add_mod, ← hs, Nat.mod_eq_of_lt (show x - s < l.length by omega), show x - s + s = x by omega, Nat.mod_eq_of_lt hx]
        · refine ⟨x + l.length - s, List.mem_range.2 (by omega), ?_⟩
          rw [Nat.add_mod, ← hs, Nat.mod_eq_of_lt (show x + l.length - s < l.length by omega), show x + l.length - s + s = x + l.length by omega, Nat.add_mod_right, Nat.mod_eq_of_lt hx]
      · rintro ⟨i, _, rfl⟩
        exact Nat.mod_lt _ hn
    · rw [List.nodup_iff_pairwise_ne, List.pairwise_map]
      refine (List.pairwise_lt_range (n := l.length)).imp_of_mem ?_
      intro i j hi hj ij e
      have h1 := List.mem_range.1 hi
      have h2 := List.mem_range.1 hj
      have q1 := Nat.div_add_mod (i + t) l.length
      have q2 := Nat.div_add_mod (j + t) l.length
      rw [e] at q1
      have : j - i = l.length * ((j + t) / l.length - (i + t) / l.length) := by
        rw [Nat.mul_sub]; omega
      by_cases c : (j + t) / l.length - (i + t) / l.length = 0
      · rw [c, Nat.mul_zero] at this; omega
      · have := Nat.mul_le_mul_left l.length (show 1 ≤ (j + t) / l.length - (i + t) / l.length by omega)
        omega
  rw [e]
  have := p.map (itN l)
  rwa [itN_all] at this
theorem rotI_take (l : List Mv) (t : Nat) (k : Nat) (h : k < l.length) : (rotI l t).take (k + 1) = (rotI l t).take k ++ [itN l ((k + t) % l.length)] := by
  rw [take_snocP _ k (by rw [rotI_len]; exact h)]
  congr 1
  simp [rotI]
abbrev anyB : List Int := [3, 10, 20]
theorem anyB_ok : bdE anyB = 0 := by decide +kernel
/-- What the law asks of the two. -/
structure AnOk (l : List Mv) (o : List Mv) (n today : Int) (x y : List Mv) (r : Int) (s : List Int) : Prop where
  e1 : payL (srtD l) n = x
  e2 : payR (srtD l) n = r
  e3 : payL (srtD o) n = y
  e4 : payR (srtD o) n = r
  oko : ItOk o
  okx : ItOk x
  oky : ItOk y
  c : csm x = csm y
  s1 : csm y ≤ 40000000000000
  a1 : agL anyB today x = s
  a2 : agL anyB today y = s
  len : s.length = 4
theorem an_ok {l o : List Mv} (hp : l.Perm o) (ok : ItOk l) {n : Int} (n0 : 0 ≤ n) (today : Int) : ∃ x y r s, AnOk l o n today x y r s := by
  obtain ⟨p1, p2, p3⟩ := pay_turned hp ok n0
  have oko := ok.perm hp
  have okx := (payl_ok ok n0).1
  have oky := (payl_ok oko n0).1
  have b := ItOk.csm oky.it
  have := oky.len
  refine ⟨_, _, _, _, rfl, rfl, rfl, p1.symm, oko, okx, oky, p2, by omega, rfl, (agL_same (bdE_ok anyB_ok) today p2 p3).symm, by rw [agL_len]; rfl⟩
abbrev anyL : List Mv := [(2, 4), (1, 4)]
set_option maxRecDepth 100000 in
set_option maxHeartbeats 16000000 in
theorem ageAny_walk (a : Option Addr) (l : List Mv) (cap : Nat) (turn k1 k2 : Int) (w : World) (hA : JArg eP w a l) (hc : l.length ≤ cap) (hn : cap ≤ maxLen) (z : a = none → cap = 0) :
    Calls Try.prog 11 #[.slice a l.length cap, .int .i64 turn, .int .i64 k1, .int .i64 k2] w fun e w' => e = .returned (.bool true) ∧ Below w.heap.size w w' := by
  have F0 := Lib.hid (pay_is (some ⟨w.heap.size, 0, none⟩) anyL 2 4 (w.alloc (.cells #[.int .i64 2, .int .i64 4, .int .i64 1, .int .i64 4] 31)) [(2, 4)] 0 (JArg.lit eP _ _ _ rfl rfl) (fun e => by cases e) (it_ok (by decide +kernel)) (by decide) (by decide) (by decide +kernel) (by decide +kernel))
  have KA := (Kept.refl w).alloc (.cells #[.int .i64 2, .int .i64 4, .int .i64 1, .int .i64 4] 31)
  have hl : l.length ≤ maxLen := Nat.le_trans hc hn
  have HA := Lib.hid hA
  have x0 := wnK_bd k1 10000 (by decide)
  have y0 := wnK_bd k2 292194 (by decide)
  clear hA
  by_cases er : itE l = 0
  · have ok := it_ok er
    have l40 : l.length ≤ 40 := ok.len
    clear er
    go_enter Try.func11, Try.ntmps11
    go_wp2_with fail
    refine F0.out.mono ?_
    rintro e w1 ⟨a0, c0, rfl, hR0, hK0⟩
    have hK1 := KA.trans hK0
    have kE := hK1.alloc (.cells #[.int .i64 2, .int .i64 4] 31)
    have EQ := Lib.hid (itequal_yes [(2, 4)] a0 (some ⟨w1.heap.size, 0, none⟩) 1 c0 1 (w1.alloc (.cells #[.int .i64 2, .int .i64 4] 31)) (by decide) rfl (hR0.arg.later ((Kept.refl w1).alloc _)) (JArg.lit eP _ _ _ rfl rfl))
    clear F0 KA hR0 hK0 hK1
    go_wp2_with fail
    refine EQ.out.mono ?_
    rintro e w2 ⟨rfl, hK2⟩
    have hK12 := kE.trans hK2
    clear EQ kE hK2
    go_wp2_with fail
    refine (kwith_any _ _ _ (by decide) (by decide)).mono ?_
    rintro e w3 ⟨rfl, rfl⟩
    go_wp2_with fail
    refine (kday_any _ _).mono ?_
    rintro e w3 ⟨rfl, rfl⟩
    have tn : ∃ t : Nat, 1 ≤ l.length → wnK turn l.length = t := by
      refine ⟨(wnK turn l.length).toNat, fun h => ?_⟩
      have := wnK_bd turn l.length (by omega)
      omega
    obtain ⟨t, ht⟩ := tn
    obtain ⟨x, y, r, s, an⟩ := an_ok (rotI_perm l t) ok x0.1 (wnK k2 292194)
    have P1 := Lib.hid (fun (w' : World) (k : Kept w w') => pay_is a l cap (wnK k1 10000) w' x r (HA.out.later k) z ok x0.1 (by omega) an.e1 an.e2)
    have P2 := Lib.hid (fun (a' : Option Addr) (c' : Nat) (w' : World) (hQ : JArg eP w' a' (rotI l t)) (z' : a' = none → c' = 0) => pay_is a' (rotI l t) c' (wnK k1 10000) w' y r hQ z' an.oko x0.1 (by omega) an.e3 an.e4)
    rw [rotI_len] at P2
    have G1 := Lib.hid (fun (a' b' : Option Addr) (c' d' : Nat) (w' : World) (hQ : JArg eP w' a' x) (hS : JArg eI w' b' anyB) => ages_is a' b' x anyB x.length 3 c' d' (wnK k2 292194) w' s rfl rfl hQ hS (aeE_zero ⟨an.okx, y0.1, by omega, bdE_ok anyB_ok⟩ anyB_ok) an.a1)
    have G2 := Lib.hid (fun (a' b' : Option Addr) (c' d' : Nat) (w' : World) (hQ : JArg eP w' a' y) (hS : JArg eI w' b' anyB) => ages_is a' b' y anyB y.length 3 c' d' (wnK k2 292194) w' s rfl rfl hQ hS (aeE_zero ⟨an.oky, y0.1, by omega, bdE_ok anyB_ok⟩ anyB_ok) an.a2)
    have O1 := Lib.hid (fun (a' : Option Addr) (c' : Nat) (w' : World) (hQ : JArg eP w' a' x) => owed_any a' x c' w' (by have := an.okx.len; omega) (fun v hv => (an.okx.it v hv).2.2.1) (by rw [an.c]; have := an.s1; omega) hQ)
    have O2 := Lib.hid (fun (a' : Option Addr) (c' : Nat) (w' : World) (hQ : JArg eP w' a' y) => owed_any a' y c' w' (by have := an.oky.len; omega) (fun v hv => (an.oky.it v hv).2.2.1) (by have := an.s1; omega) hQ)
    rw [an.c] at O1
    have SL := Lib.hid an.len
    have HT := Lib.hid ht
    clear ht
    have OK := Lib.hid ok
    have RT := Lib.hid (fun k (h : k < l.length) => rotI_take l t k h)
    have RL := Lib.hid (rotI_len l t)
    generalize wnK k1 10000 = n at *
    generalize wnK k2 292194 = td at *
    generalize csm y = cs at *
    generalize rotI l t = o at *
    clear an ok
    go_wp2_with fail
    refine (P1.out _ hK12).mono ?_
    rintro e w4 ⟨a1, c1, rfl, hR1, hK4⟩
    have hK14 := hK12.trans hK4
    have HX := Lib.hid hR1.arg
    clear P1 hK12 hK4 hR1
    go_wp2
    go_loopw [15, 63] (fun v i wr => ∃ k : Nat, k ≤ l.length ∧ i = .int .i64 k ∧ QRow eP w4.heap.size wr v (o.take k) ∧ Kept w4 wr) (fun _ i _ => l.length - (intOf i).toNat)
    case atStart => exact ⟨0, Nat.zero_le _, rfl, QRow.nil _ _ _, Kept.refl _⟩
    case round =>
      obtain ⟨k, hk, rfl, hQ, hK4⟩ := hrel
      have hK := hK14.trans hK4
      by_cases hlt : k < l.length
      · obtain ⟨p, off, rfl, hR⟩ := (HA.out.later hK).at hlt
        obtain ⟨q, hqq⟩ : ∃ q, q = (k + t) % l.length := ⟨_, rfl⟩
        have hq : q < l.length := by rw [hqq]; exact Nat.mod_lt _ (by omega)
        have qlt : (q : Int) < (l.length : Int) := by omega
        have tt := HT.out (by omega)
        have tb := wnK_bd turn l.length (by omega)
        have v0 := hR.c0 _ hq
        have v1 := hR.c1 _ hq
        have TK := Lib.hid (RT.out k hlt)
        rw [← hqq, itN_get l q hq] at TK
        have WK := Lib.hid (kwith_any turn l.length wr (by omega) (by omega))
        rw [tt] at WK
        have e1 : IntKind.i64.wrap ((k : Int) + (t : Int)) = (k : Int) + (t : Int) := IntWalk.i64_in _ (by omega)
        have e2 : ((k : Int) + (t : Int)).tmod (l.length : Int) = (q : Int) := by
          rw [Int.tmod_eq_emod_of_nonneg (by omega), hqq, Int.natCast_emod, Int.natCast_add]
        have e3 : IntKind.i64.wrap (q : Int) = (q : Int) := IntWalk.i64_in _ (by omega)
        have e4 : ((l.length : Int) == 0) = false := by rw [beq_eq_false_iff_ne]; omega
        have e5 : (l.length : Int) ≠ 0 := by omega
        have plt := hR.lt
        clear tt tb
        generalize l[q] = x9 at *
        clear hR hqq
        have NC := Lib.hid (JBx.new (w := wr) rfl x9 31).cells
        have kB := (Kept.refl wr).alloc (.cells #[.int .i64 x9.1, .int .i64 x9.2] 31)
        have hQ4 := hQ.later kB
        have hKb := hK.trans kB
        have hK4b := hK4.trans kB
        go_wp2_with fail
        refine WK.out.mono ?_
        rintro e w5 ⟨rfl, rfl⟩
        go_wp2_with (at_builtin; refine app_q eP 31 22 _ 16 isItem rfl (by decide) Try.underlying22 rfl _ _ rfl (z := x9) rfl rfl hQ4 NC.out (by rw [List.length_take]; omega) (by have := hK4b.size; omega) ?_)
        intro v' w6 hQ6 hgr hmv
        have hK46 := hQ4.kept (Nat.le_refl _) hK4b hgr
        rw [← TK.out] at hQ6
        clear hQ4 hKb hgr hmv hQ hK kB hK4b hK4
        go_wp2
        go_roundw
        case rel => exact ⟨k + 1, by omega, by go_num, hQ6, hK46⟩
        case measure => simp [intOf]; omega
      · obtain rfl : k = l.length := by omega
        have eo : o.take l.length = o := by rw [← RL.out, List.take_length]
        rw [eo] at hQ
        obtain ⟨a5, c5, rfl, q1, q2, q3⟩ := id hQ.is
        rw [RL.out] at hQ ⊢
        have zz : a5 = none → c5 = 0 := fun e => by
          rcases q3 with ⟨_, h⟩ | ⟨p, off, h, _⟩
          · exact h
          · rw [e] at h; cases h
        have hA5 : JArg eP wr a5 o := by
          have h2 := hQ
          rw [← RL.out] at h2
          exact h2.arg
        have Q2 := Lib.hid (P2.out a5 c5 wr hA5 zz)
        have HX4 := Lib.hid (HX.out.later hK4)
        clear hlt q3 zz hA5 hQ hK4 hK14 eo P2 HX HT RT OK
        go_wp2_with fail
        refine Q2.out.mono ?_
        rintro e w5 ⟨a6, c6, rfl, hR6, hK5⟩
        have hK15 := hK.trans hK5
        have HX5 := Lib.hid (HX4.out.later hK5)
        have HY5 := Lib.hid hR6.arg
        clear Q2 hK hK5 HX4 hR6
        have kB := (Kept.refl w5).alloc (.cells #[.int .i64 3, .int .i64 10, .int .i64 20] 3)
        have A1 := Lib.hid (G1.out a1 (some ⟨w5.heap.size, 0, none⟩) c1 3 (w5.alloc (.cells #[.int .i64 3, .int .i64 10, .int .i64 20] 3)) (HX5.out.later kB) (JArg.lit eI _ _ _ rfl rfl))
        have hK15b := hK15.trans kB
        go_wp2_with fail
        refine A1.out.mono ?_
        rintro e w6 ⟨g1, rfl, hg1, hO1, hK6⟩
        have hK16 := hK15b.trans hK6
        have hK56 := kB.trans hK6
        have HX6 := Lib.hid (HX5.out.later hK56)
        have HY6 := Lib.hid (HY5.out.later hK56)
        have HS6 := Lib.hid (own_arg hO1)
        clear A1 G1 hK15 hK15b kB hK6 hK56 HX5 HY5 hO1
        have kB := (Kept.refl w6).alloc (.cells #[.int .i64 3, .int .i64 10, .int .i64 20] 3)
        have A2 := Lib.hid (G2.out a6 (some ⟨w6.heap.size, 0, none⟩) c6 3 (w6.alloc (.cells #[.int .i64 3, .int .i64 10, .int .i64 20] 3)) (HY6.out.later kB) (JArg.lit eI _ _ _ rfl rfl))
        have hK16b := hK16.trans kB
        go_wp2_with fail
        refine A2.out.mono ?_
        rintro e w7 ⟨g2, rfl, hg2, hO2, hK7⟩
        have hK17 := hK16b.trans hK7
        have hK67 := kB.trans hK7
        have HX7 := Lib.hid (HX6.out.later hK67)
        have HY7 := Lib.hid (HY6.out.later hK67)
        have HS7 := Lib.hid (HS6.out.later hK67)
        have HT7 := Lib.hid (own_arg hO2)
        have W1 := Lib.hid (O1.out a1 c1 w7 HX7.out)
        clear A2 G2 hK16 hK16b kB hK7 hK67 HX6 HY6 HS6 hO2 O1 HX7
        go_wp2_with fail
        refine W1.out.mono ?_
        rintro e w8 ⟨rfl, hK8⟩
        have hK18 := hK17.trans hK8
        have W2 := Lib.hid (O2.out a6 c6 w8 (HY7.out.later hK8))
        have HS8 := Lib.hid (HS7.out.later hK8)
        have HT8 := Lib.hid (HT7.out.later hK8)
        clear W1 O2 hK17 hK8 HS7 HT7 HY7
        go_wp2_with fail
        refine W2.out.mono ?_
        rintro e w9 ⟨rfl, hK9⟩
        have hK19 := hK18.trans hK9
        have EQ := Lib.hid (iequal_yes s (some ⟨g1, 0, none⟩) (some ⟨g2, 0, none⟩) s.length s.length s.length w9 (by rw [SL.out]; decide) rfl (HS8.out.later hK9) (HT8.out.later hK9))
        clear W2 hK18 hK9 HS8 HT8 SL
        go_wp2_with fail
        refine EQ.out.mono ?_
        rintro e w10 ⟨rfl, hK10⟩
        go_wp2
        go_ret
        exact ⟨rfl, hK19.trans hK10⟩
  · have ep : pyE l (wnK k1 10000) = itE l := by unfold pyE; rw [if_neg er]
    have nb : (itE l != 0) = true := by rw [bne_iff_ne]; exact er
    have P1 := Lib.hid (fun (w' : World) (k : Kept w w') => pay_no a l cap (wnK k1 10000) w' hl (HA.out.later k) (by rw [ep]; exact er))
    rw [ep] at P1
    generalize itE l = q at *
    clear ep er
    go_enter Try.func11, Try.ntmps11
    go_wp2_with fail
    refine F0.out.mono ?_
    rintro e w1 ⟨a0, c0, rfl, hR0, hK0⟩
    have hK1 := KA.trans hK0
    have kE := hK1.alloc (.cells #[.int .i64 2, .int .i64 4] 31)
    have EQ := Lib.hid (itequal_yes [(2, 4)] a0 (some ⟨w1.heap.size, 0, none⟩) 1 c0 1 (w1.alloc (.cells #[.int .i64 2, .int .i64 4] 31)) (by decide) rfl (hR0.arg.later ((Kept.refl w1).alloc _)) (JArg.lit eP _ _ _ rfl rfl))
    clear F0 KA hR0 hK0 hK1
    go_wp2_with fail
    refine EQ.out.mono ?_
    rintro e w2 ⟨rfl, hK2⟩
    have hK12 := kE.trans hK2
    clear EQ kE hK2
    go_wp2_with fail
    refine (kwith_any _ _ _ (by decide) (by decide)).mono ?_
    rintro e w3 ⟨rfl, rfl⟩
    go_wp2_with fail
    refine (kday_any _ _).mono ?_
    rintro e w3 ⟨rfl, rfl⟩
    go_wp2_with fail
    refine (P1.out _ hK12).mono ?_
    rintro e w4 ⟨rfl, hK4⟩
    go_wp2
    go_ret
    exact ⟨rfl, hK12.trans hK4⟩
end Go.Proofs.Ytdgiljndoeldcaa
