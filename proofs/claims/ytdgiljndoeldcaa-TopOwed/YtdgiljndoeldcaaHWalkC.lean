/-
  What package book's checkEntries and Check return. No condition but those that each theorem names.
-/
import Derived.Test.YtdgiljndoeldcaaHWalkB
import Derived.StillTailTactics
namespace Go.Proofs.Ytdgiljndoeldcaa
open Go.RowKit Go.Maps
set_option linter.unusedVariables false

/-- The keys of entries, as a set's list. -/
def kP (l : List Et) : List Pr := (l.map fun e => ((e.key, 0) : Pr)).reverse
theorem kP_snoc (l : List Et) (x : Et) : kP (l ++ [x]) = (x.key, 0) :: kP l := by unfold kP; simp
theorem kP_has (k : ByteArray) (l : List Et) : hasB k (kP l) = keyI k l := by
  unfold hasB kP keyI; rw [List.any_reverse, List.any_map]; rfl
theorem EBx.grown {w w' : World} {p : Nat} {k : ByteArray} {d : Int} {v : Value} {row : Option Nat} (h : EBx w p k d v) (g : w.grownBy w' row) (hne : some p ≠ row) : EBx w' p k d v :=
  ⟨Nat.lt_of_lt_of_le h.lt g.size, g.cell h.c0 hne, g.cell h.c1 hne, g.cell h.c2 hne⟩
theorem exE_en {acs : List Pr} {done : List Et} {x : Et} (h : enE x.key x.day x.lns ≠ 0) : exE acs done x = enE x.key x.day x.lns := by unfold exE; rw [if_neg h]
theorem exE_acc {acs : List Pr} {done : List Et} {x : Et} (h : enE x.key x.day x.lns = 0) (g : allA acs x.lns = false) : exE acs done x = 4 := by unfold exE; rw [if_pos h, if_neg (by simp [g])]
theorem exE_key {acs : List Pr} {done : List Et} {x : Et} (h : enE x.key x.day x.lns = 0) (g : allA acs x.lns = true) (k : keyI x.key done = true) : exE acs done x = 5 := by unfold exE; rw [if_pos h, if_pos g, if_pos k]
theorem exE_last {acs : List Pr} {done : List Et} {x : Et} (h : enE x.key x.day x.lns = 0) (g : allA acs x.lns = true) (k : keyI x.key done = false) (t : lastB done x = false) : exE acs done x = 3 := by unfold exE; rw [if_pos h, if_pos g, if_neg (by simp [k]), if_neg (by simp [t])]
theorem exE_zero {acs : List Pr} {done : List Et} {x : Et} (h : enE x.key x.day x.lns = 0) (g : allA acs x.lns = true) (k : keyI x.key done = false) (t : lastB done x = true) : exE acs done x = 0 := by unfold exE; rw [if_pos h, if_pos g, if_neg (by simp [k]), if_pos t]
theorem exs_err {acs : List Pr} {l : List Et} {j : Nat} (h : j < l.length) (E : exsE acs [] l = exsE acs (l.take j) (l.drop j)) {er : Int} (e : exE acs (l.take j) l[j] = er) (h0 : er ≠ 0) : exsE acs [] l = er := by
  rw [E, List.drop_eq_getElem_cons h, exsE, e, if_neg h0]
theorem exs_next {acs : List Pr} {l : List Et} {j : Nat} (h : j < l.length) (E : exsE acs [] l = exsE acs (l.take j) (l.drop j)) (e : exE acs (l.take j) l[j] = 0) : exsE acs [] l = exsE acs (l.take (j + 1)) (l.drop (j + 1)) := by
  rw [E, List.drop_eq_getElem_cons h, exsE, e, if_pos rfl, ens_take h]
theorem last_at {l : List Et} {m : Nat} (h : m < l.length) (x : Et) : lastB (l.take (m + 1)) x = befB l[m] x := by
  unfold lastB; rw [ens_take h, List.getLast?_append]; simp
theorem reg_later {V w' : World} {b r c : Nat} {o : Nat} {vb : Value} {k1 k2 : ByteArray} {d1 d2 : Int} {v1 v2 : Value} (hb : b < V.heap.size) (hr : r < V.heap.size) (hc : c < V.heap.size)
    (b1 : V.cell? ⟨b, 1, none⟩ = some vb) (r0 : V.cell? ⟨r, o, none⟩ = some (.string k1)) (r1 : V.cell? ⟨r, o + 1, none⟩ = some (.int .i64 d1)) (r2 : V.cell? ⟨r, o + 2, none⟩ = some v1)
    (c0 : V.cell? ⟨c, 0, none⟩ = some (.string k2)) (c1 : V.cell? ⟨c, 1, none⟩ = some (.int .i64 d2)) (c2 : V.cell? ⟨c, 2, none⟩ = some v2) (k : Kept V w') :
    Kept V w' ∧ w'.cell? ⟨b, 1, none⟩ = some vb ∧ w'.cell? ⟨r, o, none⟩ = some (.string k1) ∧ w'.cell? ⟨r, o + 1, none⟩ = some (.int .i64 d1) ∧ w'.cell? ⟨r, o + 2, none⟩ = some v1 ∧ w'.cell? ⟨c, 0, none⟩ = some (.string k2) ∧ w'.cell? ⟨c, 1, none⟩ = some (.int .i64 d2) ∧ w'.cell? ⟨c, 2, none⟩ = some v2 :=
  ⟨k, (k.rd.1 _ _ hb).trans b1, (k.rd.1 _ _ hr).trans r0, (k.rd.1 _ _ hr).trans r1, (k.rd.1 _ _ hr).trans r2, (k.rd.1 _ _ hc).trans c0, (k.rd.1 _ _ hc).trans c1, (k.rd.1 _ _ hc).trans c2⟩
set_option maxRecDepth 100000 in
set_option maxHeartbeats 8000000 in
theorem cents_any (q : BkA) (b : Bk) (w : World) (hM : BkM w q b) (ok : acE b.acs = 0) (hn : b.ens.length ≤ 60) :
    Calls Try.prog 78 #[bkV q b] w fun e w' => e = .returned (.int .i64 (exsE b.acs [] b.ens)) ∧ Kept w w' := by
  have k1 := (Kept.refl w).alloc (bkO q b)
  have hB := BBx.new w q b
  have HM := Lib.hid (hM.later k1)
  have OK := Lib.hid ok
  have hmm := @run_makeMap Try.prog
  clear hM ok
  go_enter Try.func78, Try.ntmps78
  go_wp2
  have HS := Lib.hid (SetM.made (w.alloc (bkO q b)))
  have kM := Lib.hid ((Kept.refl (w.alloc (bkO q b))).alloc (.map #[] 0))
  have hb0 : (w.alloc (bkO q b)).heap.size = w.heap.size + 1 := by simp
  rw [hb0] at HS
  have K1 := Lib.hid k1
  have HB := Lib.hid hB
  generalize w.alloc (bkO q b) = W at *
  have hWb : W.heap.size ≤ w.heap.size + 1 := by omega
  clear k1 hB hmm hb0
  generalize W.alloc (.map #[] 0) = W2 at *
  generalize w.heap.size + 1 = bm at *
  generalize w.heap.size = bx at *
  go_loopw [12] (fun i wr => ∃ j : Nat, j ≤ b.ens.length ∧ i = .int .i64 j ∧ Hid (exsE b.acs [] b.ens = exsE b.acs (b.ens.take j) (b.ens.drop j)) ∧ SetM wr bm j (kP (b.ens.take j)) ∧ Kept W wr) (fun i _ => b.ens.length - (intOf i).toNat)
  case atStart => exact ⟨0, Nat.zero_le _, rfl, Lib.hid rfl, HS.out, kM.out⟩
  case round =>
    obtain ⟨j, hj, rfl, HE, hM, hK⟩ := hrel
    by_cases hlt : j < b.ens.length
    · obtain ⟨p, off, hp, hR⟩ := (HM.out.ens.later hK).at hlt
      obtain ⟨a, cap, c0, c1, c2, h1, h2, hL⟩ := hR.at j hlt
      have HR := Lib.hid hR
      have plt := hR.1
      have hSX := HM.out.she _ (List.getElem_mem hlt)
      have XE := Lib.hid (fun er (e : exE b.acs (b.ens.take j) b.ens[j] = er) (h0 : er ≠ 0) => exs_err hlt HE.out e h0)
      have XN := Lib.hid (fun (e : exE b.acs (b.ens.take j) b.ens[j] = 0) => exs_next hlt HE.out e)
      have KS := Lib.hid (show kP (b.ens.take (j + 1)) = ((b.ens[j]).key, 0) :: kP (b.ens.take j) by rw [ens_take hlt, kP_snoc])
      have bl : bm < wr.heap.size := hM.own.lt
      clear hR
      have HQ := Lib.hid (show q = ⟨q.aa, q.ca, some ⟨p, off, none⟩, q.ce⟩ by cases q; simp at hp; simp [hp])
      rw [hp] at *
      clear hp
      generalize b.ens[j] = x at *
      have kE := (Kept.refl wr).alloc (.cells #[.string x.key, .int .i64 x.day, .slice a x.lns.length cap] 64)
      have hX := EBx.new wr x.key x.day (.slice a x.lns.length cap) 64
      have hK1 := hK.trans kE
      have hM1 := hM.later kE
      have EC := Lib.hid (echeck_any x.key x.day a x.lns cap (wr.alloc (.cells #[.string x.key, .int .i64 x.day, .slice a x.lns.length cap] 64)) hSX.1 hSX.2.1 (hL.later kE) hSX.2.2 h1 h2)
      by_cases e0 : enE x.key x.day x.lns = 0
      · have n12 := (enE_ok e0).2.2.1
        have E0 := Lib.hid e0
        rw [e0] at EC
        clear e0
        go_wp2_with fail
        refine EC.out.mono ?_
        rintro e w2 ⟨rfl, hK2⟩
        have hX2 := hX.later hK2
        have hM2 := hM1.later hK2
        have hK3 := hK1.trans hK2
        have LL := Lib.hid ((hL.later kE).later hK2)
        have HRL := Lib.hid ((HR.out.later kE).later hK2)
        have bl2 : bm < wr.heap.size := bl
        have wl2 : wr.heap.size < w2.heap.size := hX2.lt
        clear hX hM1 hK1 hK2 hM hK kE c0 c1 c2 plt EC hL
        obtain ⟨x0, x1, x2, x3⟩ := id hX2
        obtain ⟨b0, b1, b2, b3⟩ := HB.out.later hK3
        have CA := Lib.hid (cacc_any q b x a cap w2 (HM.out.later hK3) OK.out LL.out (by omega))
        cases hal : allA b.acs x.lns
        · have AL := Lib.hid (show alE b.acs x.lns = 4 by unfold alE; rw [hal]; rfl)
          have FIN := Lib.hid (XE.out 4 (exE_acc E0.out hal) (by decide))
          rw [AL.out] at CA
          clear hal
          go_wp2_with fail
          refine CA.out.mono ?_
          rintro e w3 ⟨rfl, hK4⟩
          go_wp2
          go_ret
          exact ⟨ret_int FIN.out.symm, K1.out.trans (hK3.trans hK4)⟩
        · have AL := Lib.hid (show alE b.acs x.lns = 0 by unfold alE; rw [hal]; rfl)
          have HAL := Lib.hid hal
          rw [AL.out] at CA
          clear hal
          go_wp2_with fail
          refine CA.out.mono ?_
          rintro e w3 ⟨rfl, hK4⟩
          have hX3 := hX2.later hK4
          have hM3 := hM2.later hK4
          have hK5 := hK3.trans hK4
          have HRL3 := Lib.hid (HRL.out.later hK4)
          have wl3 : wr.heap.size < w3.heap.size := hX3.lt
          clear hX2 hM2 hK3 hK4 x0 x1 x2 x3 b0 b1 b2 b3 CA LL HRL
          obtain ⟨x0, x1, x2, x3⟩ := id hX3
          have hlk := hM3.look hSX.1
          rw [kP_has] at hlk
          cases hh : keyI x.key (b.ens.take j)
          · have HH := Lib.hid hh
            rw [hh] at hlk
            clear hh
            go_wp2_with (at_mapUpdate; refine put_one (y := (x.key, 0)) rfl _ _ _ rfl rfl hM3 (by omega) rfl rfl hSX.1 ?_)
            intro w4 hM4 hgr
            have hK6 : Kept W w4 := Below.grown hK5 hgr hK5.size (fun q e => by cases e; omega)
            have hX4 := hX3.grown hgr (by simp; omega)
            have HRL4 := Lib.hid ((HM.out.ens.later hK6))
            obtain ⟨y0, y1, y2, y3⟩ := id hX4
            obtain ⟨b0, b1, b2, b3⟩ := HB.out.later hK6
            clear hM3 hX3 x0 x1 x2 x3 hlk hgr hK5 HRL3
            rw [← KS.out] at hM4
            by_cases j0 : j = 0
            · subst j0
              have Z := Lib.hid (XN.out (exE_zero E0.out HAL.out HH.out rfl))
              have i9 : ¬ (0 : Int) < ((0 : Nat) : Int) := by omega
              go_wp2_with fail
              go_quiet (fail)
              go_wp2
              go_roundw
              case rel => exact ⟨1, by omega, by go_num, Z, hM4.later ((Kept.refl _).drewN _), hK6.drewN _⟩
              case measure => simp [intOf]; omega
            · obtain ⟨m, hmj⟩ : ∃ m, j = m + 1 := ⟨j - 1, by omega⟩
              have hm : m < b.ens.length := by omega
              have LA := Lib.hid (show lastB (b.ens.take j) x = befB b.ens[m] x by rw [hmj]; exact last_at hm x)
              obtain ⟨p', off', hp', hR'⟩ := HRL4.out.at hm
              have hp2 : q.ae = some ⟨p, off, none⟩ := congrArg BkA.ae HQ.out
              obtain ⟨rfl, rfl⟩ : p' = p ∧ off' = off := by rw [hp2] at hp'; simp at hp'; exact ⟨hp'.1.symm, hp'.2.symm⟩
              obtain ⟨a', cap', r0, r1, r2, _, _, _⟩ := hR'.at m hm
              have rlt := hR'.1
              rw [hp2] at b2
              have XZ := Lib.hid (fun (t : befB b.ens[m] x = true) => XN.out (exE_zero E0.out HAL.out HH.out (by rw [LA.out]; exact t)))
              have X3 := Lib.hid (fun (t : befB b.ens[m] x = false) => XE.out 3 (exE_last E0.out HAL.out HH.out (by rw [LA.out]; exact t)) (by decide))
              clear hR' hp' hp2 LA
              generalize b.ens[m] = z at *
              have i0 : (0 : Int) ≤ (j : Int) - 1 := by omega
              have i1 : (j : Int) - 1 < (b.ens.length : Int) := by omega
              have i3 : IntKind.i64.wrap ((j : Int) - 1) = (j : Int) - 1 := by rw [IntKind.wrap_i64]; omega
              have i4 : (0 : Int) < (j : Int) := by omega
              have i5 : ((j : Int) - 1).toNat = m := by omega
              have a1 : (1 : Int) ≤ (j : Int) := by omega
              have a2 : (j : Int) ≤ (b.ens.length : Int) := by omega
              have a3 : (j : Int) < (b.ens.length : Int) + 1 := by omega
              have a4 : ¬ (j : Int) < 1 := by omega
              have a5 : ¬ (j : Int) - 1 < 0 := by omega
              have a6 : ¬ (b.ens.length : Int) ≤ (j : Int) - 1 := by omega
              have a7 : m < b.ens.length := hm
              have a8 : 0 < j := by omega
              have a9 : 1 ≤ j := by omega
              have a10 : j ≤ b.ens.length := by omega
              have a11 : j - 1 = m := by omega
              clear hmj j0
              go_wp2_with fail
              have HM4 := Lib.hid hM4
              have HK6 := Lib.hid hK6
              clear hM4 hK6 hX4
              go_still_tail 10, (by kernel_rfl)
              change wpList _ _ _ _ _ w4.drew
              clear b0 b1 b2 b3 r0 r1 r2 rlt y0 y1 y2 y3 i0 i1 i3 i4 i5 a1 a2 a3 a4 a5 a6 a7 a8 a9 a10 a11
              go_wp2_with fail
              refine (before_any z x _ _ _ _ _ _ _).mono ?_
              rintro e w5 ⟨rfl, hK7⟩
              have hK8 := HK6.out.trans ((Kept.refl w4).drew.trans hK7)
              have hM8 := HM4.out.later ((Kept.refl w4).drew.trans hK7)
              clear hK7 HM4 HK6
              cases hbf : befB z x
              · have F3 := Lib.hid (X3.out hbf)
                clear hbf
                go_wp2
                go_ret
                exact ⟨ret_int F3.out.symm, K1.out.trans hK8⟩
              · have FZ := Lib.hid (XZ.out hbf)
                clear hbf
                go_wp2
                go_roundw
                case rel => exact ⟨j + 1, by omega, by go_num, FZ, hM8, hK8⟩
                case measure => simp [intOf]; omega
          · have FIN := Lib.hid (XE.out 5 (exE_key E0.out HAL.out hh) (by decide))
            rw [hh] at hlk
            clear hh
            go_wp2
            go_ret
            exact ⟨ret_int FIN.out.symm, K1.out.trans hK5⟩
      · have E2 : (enE x.key x.day x.lns != 0) = true := by simpa using e0
        have FIN := Lib.hid (XE.out _ (exE_en e0) e0)
        clear e0
        generalize enE x.key x.day x.lns = er at *
        go_wp2_with fail
        refine EC.out.mono ?_
        rintro e w2 ⟨rfl, hK2⟩
        go_wp2
        go_ret
        exact ⟨ret_int FIN.out.symm, K1.out.trans (hK1.trans hK2)⟩
    · obtain rfl : j = b.ens.length := by omega
      clear hlt
      have HZ := Lib.hid (show exsE b.acs [] b.ens = 0 by rw [HE.out, List.drop_length]; rfl)
      go_wp2
      go_ret
      exact ⟨ret_int HZ.out.symm, K1.out.trans hK⟩
set_option maxHeartbeats 2000000 in
theorem check_any (q : BkA) (b : Bk) (w : World) (hM : BkM w q b) :
    Calls Try.prog 54 #[bkV q b] w fun e w' => e = .returned (.int .i64 (bkE b)) ∧ Kept w w' := by
  have k1 := (Kept.refl w).alloc (bkO q b)
  have hB := BBx.new w q b
  have HM := Lib.hid (hM.later k1)
  have HB := Lib.hid hB
  have K1 := Lib.hid k1
  have hem : b.ens.length ≤ 9223372036854775807 := by have := hM.en; unfold maxLen at this; omega
  have AC := Lib.hid (acheck_anyA q.aa b.acs q.ca (w.alloc (bkO q b)) HM.out.acs HM.out.sha HM.out.an)
  obtain ⟨b0, b1, b2, b3⟩ := hB
  clear hM k1
  by_cases h1 : acE b.acs = 0
  · have H1 := Lib.hid h1
    rw [h1] at AC
    by_cases h2 : b.shut = -1 ∨ dyB b.shut = true
    · by_cases h3 : 60 < b.ens.length
      · have FIN := Lib.hid (show bkE b = 2 by unfold bkE; rw [if_pos h1, if_pos h2, if_pos h3])
        have g3 : (60 : Int) < (b.ens.length : Int) := by omega
        have h2' : (b.shut != -1) = false ∨ ((b.shut != -1) = true ∧ dyB b.shut = true) := by
          by_cases h : b.shut = -1
          · exact .inl (by simp [h])
          · exact .inr ⟨by simpa using h, h2.resolve_left h⟩
        clear h1 h2 h3
        rcases h2' with h2 | ⟨h2, h4⟩
        · go_enter Try.func54, Try.ntmps54
          go_wp2_with fail
          refine AC.out.mono ?_
          rintro e w1 ⟨rfl, hK1⟩
          obtain ⟨b0', b1', b2', b3'⟩ := HB.out.later hK1
          go_wp2
          go_ret
          exact ⟨ret_int FIN.out.symm, K1.out.trans hK1⟩
        · have H4 := Lib.hid h4
          clear h4
          go_enter Try.func54, Try.ntmps54
          go_wp2_with fail
          refine AC.out.mono ?_
          rintro e w1 ⟨rfl, hK1⟩
          obtain ⟨b0', b1', b2', b3'⟩ := HB.out.later hK1
          go_wp2_with fail
          refine (vday_anyH _ _).mono ?_
          rintro e w2 ⟨rfl, rfl⟩
          rw [H4.out]
          go_wp2
          go_ret
          exact ⟨ret_int FIN.out.symm, K1.out.trans hK1⟩
      · have FIN := Lib.hid (show bkE b = exsE b.acs [] b.ens by unfold bkE; rw [if_pos h1, if_pos h2, if_neg h3])
        have g3 : ¬ (60 : Int) < (b.ens.length : Int) := by omega
        have L60 := Lib.hid (show b.ens.length ≤ 60 by omega)
        have h2' : (b.shut != -1) = false ∨ ((b.shut != -1) = true ∧ dyB b.shut = true) := by
          by_cases h : b.shut = -1
          · exact .inl (by simp [h])
          · exact .inr ⟨by simpa using h, h2.resolve_left h⟩
        clear h1 h2 h3
        rcases h2' with h2 | ⟨h2, h4⟩
        · go_enter Try.func54, Try.ntmps54
          go_wp2_with fail
          refine AC.out.mono ?_
          rintro e w1 ⟨rfl, hK1⟩
          obtain ⟨b0', b1', b2', b3'⟩ := HB.out.later hK1
          go_wp2_with fail
          refine (cents_any q b w1 (HM.out.later hK1) H1.out L60.out).mono ?_
          rintro e w2 ⟨rfl, hK2⟩
          go_wp2
          go_ret
          exact ⟨ret_int FIN.out.symm, K1.out.trans (hK1.trans hK2)⟩
        · have H4 := Lib.hid h4
          clear h4
          go_enter Try.func54, Try.ntmps54
          go_wp2_with fail
          refine AC.out.mono ?_
          rintro e w1 ⟨rfl, hK1⟩
          obtain ⟨b0', b1', b2', b3'⟩ := HB.out.later hK1
          go_wp2_with fail
          refine (vday_anyH _ _).mono ?_
          rintro e w2 ⟨rfl, rfl⟩
          rw [H4.out]
          go_wp2_with fail
          refine (cents_any q b w1 (HM.out.later hK1) H1.out L60.out).mono ?_
          rintro e w2 ⟨rfl, hK2⟩
          go_wp2
          go_ret
          exact ⟨ret_int FIN.out.symm, K1.out.trans (hK1.trans hK2)⟩
    · have FIN := Lib.hid (show bkE b = 1 by unfold bkE; rw [if_pos h1, if_neg h2])
      have h3 : (b.shut != -1) = true := by simpa using fun h => h2 (.inl h)
      have H4 := Lib.hid (show dyB b.shut = false by
        cases h : dyB b.shut
        · rfl
        · exact absurd (.inr h) h2)
      clear h1 h2
      go_enter Try.func54, Try.ntmps54
      go_wp2_with fail
      refine AC.out.mono ?_
      rintro e w1 ⟨rfl, hK1⟩
      obtain ⟨b0', b1', b2', b3'⟩ := HB.out.later hK1
      go_wp2_with fail
      refine (vday_anyH _ _).mono ?_
      rintro e w2 ⟨rfl, rfl⟩
      rw [H4.out]
      go_wp2
      go_ret
      exact ⟨ret_int FIN.out.symm, K1.out.trans hK1⟩
  · have FIN := Lib.hid (show bkE b = acE b.acs by unfold bkE; rw [if_neg h1])
    have h2 : (acE b.acs != 0) = true := by simpa using h1
    clear h1
    generalize acE b.acs = er at *
    go_enter Try.func54, Try.ntmps54
    go_wp2_with fail
    refine AC.out.mono ?_
    rintro e w1 ⟨rfl, hK1⟩
    go_wp2
    go_ret
    exact ⟨ret_int FIN.out.symm, K1.out.trans hK1⟩
end Go.Proofs.Ytdgiljndoeldcaa
