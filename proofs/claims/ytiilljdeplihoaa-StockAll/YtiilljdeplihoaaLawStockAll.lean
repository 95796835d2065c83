/-
  The law StockAll: for all moves it answers true; nothing that was there is turned. No condition but those that each theorem names.
-/
import Derived.Test.YtiilljdeplihoaaLawStockOut
import Derived.Test.YtiilljdeplihoaaPApp
namespace Go.Proofs.Ytiilljdeplihoaa
open Go.RowKit
set_option linter.unusedVariables false

/-- How many are issues. -/
def nOut : List Mv → Int
  | [] => 0
  | m :: r => (if m.1 < 0 then 1 else 0) + nOut r
theorem nOut_app : ∀ l m : List Mv, nOut (l ++ m) = nOut l + nOut m
  | [], m => by simp [nOut]
  | x :: r, m => by rw [List.cons_append, nOut, nOut_app r m, nOut]; omega
theorem nOut_bd : ∀ l : List Mv, 0 ≤ nOut l ∧ nOut l ≤ l.length
  | [] => by simp [nOut]
  | x :: r => by have := nOut_bd r; rw [nOut, List.length_cons]; split <;> omega
theorem outs_ff {l : List Mv} (h : ∀ m ∈ l, ckM m = 0) : ∀ j, j ≤ l.length → ((ffS (l.take j)).1.length : Int) = nOut (l.take j) ∧ ((mmS (l.take j)).1.length : Int) = nOut (l.take j)
  | 0, _ => ⟨rfl, rfl⟩
  | j + 1, hj => by
    obtain ⟨a, b⟩ := outs_ff h j (by omega)
    have hm := ckM_ok (h _ (List.getElem_mem (show j < l.length by omega)))
    rw [ffS_at (by omega), mmS_at (by omega), take_snocP l j (by omega), nOut_app]
    have e : nOut [l[j]] = if (l[j]).1 < 0 then 1 else 0 := by rw [nOut]; simp [nOut]
    rw [e]
    unfold ffT mmT
    by_cases c : 0 < (l[j]).1
    · rw [if_pos c, if_pos c, if_neg (by omega)]
      simp only
      omega
    · rw [if_neg c, if_neg c, if_pos (by omega)]
      simp only [List.length_append, List.length_singleton]
      omega
theorem lots_none {m : List Mv} (h : LotsOk m) (h0 : cnt m = 0) : csm m = 0 := by
  cases m with
  | nil => rfl
  | cons x r =>
    have h1 := h.head
    have h2 := h.tail.cnt0
    rw [cnt] at h0; omega
/-- What the law asks. -/
structure AllOk (l : List Mv) (s1 : List Int) (s2 : List Mv) (t1 : List Int) (t2 : Mv) : Prop where
  l1 : (s1.length : Int) = nOut l
  l2 : (t1.length : Int) = nOut l
  c1 : cnt s2 = cnt l
  c2 : t2.1 = cnt l
  k1 : csm s2 + sumI s1 = csm l
  k2 : t2.2 + sumI t1 = csm l
  p1 : ∀ x ∈ s1, 0 ≤ x
  p2 : ∀ x ∈ t1, 0 ≤ x
  lots : LotsOk s2
  len : s2.length ≤ 40
  t20 : 0 ≤ t2.2
  none : cnt l = 0 → csm s2 = 0 ∧ t2.2 = 0
  cl0 : 0 ≤ cnt l
  cl1 : cnt l ≤ 40000000
  kl1 : csm l ≤ 40000000000000
  s40 : s1.length ≤ 40
  t40 : t1.length ≤ 40
theorem all_ok {l : List Mv} (ok : MvOk l) : AllOk l (ffS l).1 (ffS l).2 (mmS l).1 (mmS l).2 := by
  have f := ffS_ok ok l.length (Nat.le_refl _)
  have m := mmS_ok ok l.length (Nat.le_refl _)
  have o := outs_ff ok.mv l.length (Nat.le_refl _)
  rw [List.take_length] at f m o
  have k := MvOk.csm ok.mv
  have c := MvOk.cnt ok.mv
  have c0 := ok.st l.length (Nat.le_refl _)
  rw [List.take_length] at c0
  have l40 := ok.len
  refine ⟨o.1, o.2, f.cn, m.cn, by have := f.cs; omega, by have := m.cs; omega, f.pos, m.pos, f.lots, by have := f.l2; omega, m.k0, fun h => ⟨lots_none f.lots (by rw [f.cn]; exact h), m.none (by rw [m.cn]; exact h)⟩, c0, by omega, by omega, by have := f.l1; omega, by have := m.l1; omega⟩
abbrev allL : List Mv := [(2, 10), (2, 30), (-3, 0)]
theorem allL_ok : MvOk allL := skE_ok (by decide +kernel)
theorem allL_ff : ffS allL = ([25], [(1, 15)]) := by decide +kernel
set_option maxRecDepth 100000 in
set_option maxHeartbeats 8000000 in
theorem stockAll_no (a : Option Addr) (l : List Mv) (cap : Nat) (w : World) (hA : JArg eP w a l) (hn : l.length ≤ maxLen) (er : skE l ≠ 0) :
    Calls Try.prog 4 #[.slice a l.length cap] w fun e w' => e = .returned (.bool true) ∧ Below w.heap.size w w' := by
  have F0 := Lib.hid (show Calls Try.prog 9 #[.slice (some ⟨w.heap.size, 0, none⟩) 3 3] (w.alloc (.cells #[.int .i64 2, .int .i64 10, .int .i64 2, .int .i64 30, .int .i64 (-3), .int .i64 0] 40)) (FiA (w.alloc (.cells #[.int .i64 2, .int .i64 10, .int .i64 2, .int .i64 30, .int .i64 (-3), .int .i64 0] 40)) ([25], [(1, 15)])) from by
    have := fifo_arg (some ⟨w.heap.size, 0, none⟩) allL 3 (w.alloc (.cells #[.int .i64 2, .int .i64 10, .int .i64 2, .int .i64 30, .int .i64 (-3), .int .i64 0] 40)) (JArg.lit eP allL _ _ rfl rfl) allL_ok
    rwa [allL_ff] at this)
  have K0 := Lib.hid ((Kept.refl w).alloc (.cells #[.int .i64 2, .int .i64 10, .int .i64 2, .int .i64 30, .int .i64 (-3), .int .i64 0] 40))
  have FN := Lib.hid (fun V (k : Kept w V) => fifo_no a l cap V hn (hA.later k) er)
  have MN := Lib.hid (fun V (k : Kept w V) => mean_no a l cap V hn (hA.later k) er)
  have ne : (skE l != 0) = true := by simpa using er
  clear hA hn er
  generalize skE l = er at *
  go_enter Try.func4, Try.ntmps4
  go_wp2_with fail
  refine F0.out.mono ?_
  rintro e w1 ⟨au, cu, av, cv, rfl, hU, hV, _, _, _, hK1⟩
  have KL := (Kept.refl w1).alloc (.cells #[.int .i64 25] 3)
  have E1 := Lib.hid (iequal_yes [25] au (some ⟨w1.heap.size, 0, none⟩) 1 cu 1 (w1.alloc (.cells #[.int .i64 25] 3)) (by decide) rfl (hU.later KL) (JArg.lit eI [25] _ _ rfl rfl))
  have HV := Lib.hid (hV.later KL)
  have K1 := Lib.hid (K0.out.trans (hK1.trans KL))
  clear hU hV hK1 KL
  simp only [List.length_cons, List.length_nil]
  go_wp2_with fail
  refine E1.out.mono ?_
  rintro e w2 ⟨rfl, hK2⟩
  have KM := (Kept.refl w2).alloc (.cells #[.int .i64 1, .int .i64 15] 29)
  have E2 := Lib.hid (lotequal_yes [(1, 15)] av (some ⟨w2.heap.size, 0, none⟩) 1 cv 1 (w2.alloc (.cells #[.int .i64 1, .int .i64 15] 29)) (by decide) rfl (HV.out.later (hK2.trans KM)) (JArg.lit eP [(1, 15)] _ _ rfl rfl))
  have K2 := Lib.hid (K1.out.trans (hK2.trans KM))
  clear hK2 KM
  go_wp2_with fail
  refine E2.out.mono ?_
  rintro e w3 ⟨rfl, hK3⟩
  have K3 := Lib.hid (K2.out.trans hK3)
  clear hK3
  go_wp2_with fail
  refine (FN.out w3 K3.out).mono ?_
  rintro e w4 ⟨rfl, hK4⟩
  have K4 := Lib.hid (K3.out.trans hK4)
  clear hK4
  go_wp2_with fail
  refine (MN.out w4 K4.out).mono ?_
  rintro e w5 ⟨rfl, hK5⟩
  have K5 := Lib.hid ((K4.out.trans hK5).alloc lotO)
  clear hK5
  go_wp2
  go_ret
  exact ⟨by simp, K5.out⟩
set_option maxRecDepth 100000 in
set_option maxHeartbeats 8000000 in
theorem stockAll_yes (a : Option Addr) (l : List Mv) (cap : Nat) (w : World) (hA : JArg eP w a l) (hn : l.length ≤ maxLen) (ok : MvOk l) :
    Calls Try.prog 4 #[.slice a l.length cap] w fun e w' => e = .returned (.bool true) ∧ Below w.heap.size w w' := by
  have F0 := Lib.hid (show Calls Try.prog 9 #[.slice (some ⟨w.heap.size, 0, none⟩) 3 3] (w.alloc (.cells #[.int .i64 2, .int .i64 10, .int .i64 2, .int .i64 30, .int .i64 (-3), .int .i64 0] 40)) (FiA (w.alloc (.cells #[.int .i64 2, .int .i64 10, .int .i64 2, .int .i64 30, .int .i64 (-3), .int .i64 0] 40)) ([25], [(1, 15)])) from by
    have := fifo_arg (some ⟨w.heap.size, 0, none⟩) allL 3 (w.alloc (.cells #[.int .i64 2, .int .i64 10, .int .i64 2, .int .i64 30, .int .i64 (-3), .int .i64 0] 40)) (JArg.lit eP allL _ _ rfl rfl) allL_ok
    rwa [allL_ff] at this)
  have K0 := Lib.hid ((Kept.refl w).alloc (.cells #[.int .i64 2, .int .i64 10, .int .i64 2, .int .i64 30, .int .i64 (-3), .int .i64 0] 40))
  have FN := Lib.hid (fun V (k : Kept w V) => fifo_arg a l cap V (hA.later k) ok)
  have MN := Lib.hid (fun V (k : Kept w V) => mean_arg a l cap V (hA.later k) ok)
  have HA := Lib.hid hA
  have AO := Lib.hid (all_ok ok)
  have l40 := ok.len
  have CS := Lib.hid (fun j => MvOk.csm (l := l.take j) (fun m hm => ok.mv m (List.mem_of_mem_take hm)))
  have CT := Lib.hid (fun j => MvOk.cnt (l := l.take j) (fun m hm => ok.mv m (List.mem_of_mem_take hm)))
  have CN := Lib.hid (fun j (h : j < l.length) => show cnt (l.take (j + 1)) = cnt (l.take j) + (l[j]).1 ∧ csm (l.take (j + 1)) = csm (l.take j) + (l[j]).2 ∧ nOut (l.take (j + 1)) = nOut (l.take j) + (if (l[j]).1 < 0 then 1 else 0) from by
    rw [take_snocP l j h, cnt_app, cnt, cnt, csm_app, csm, csm, nOut_app, nOut, nOut]
    simp)
  clear hA hn ok
  generalize ffS l = sf at *
  generalize mmS l = sm at *
  obtain ⟨s1, s2⟩ := sf
  obtain ⟨t1, t2⟩ := sm
  go_enter Try.func4, Try.ntmps4
  go_wp2_with fail
  refine F0.out.mono ?_
  rintro e w1 ⟨au, cu, av, cv, rfl, hU, hV, _, _, _, hK1⟩
  have KL := (Kept.refl w1).alloc (.cells #[.int .i64 25] 3)
  have E1 := Lib.hid (iequal_yes [25] au (some ⟨w1.heap.size, 0, none⟩) 1 cu 1 (w1.alloc (.cells #[.int .i64 25] 3)) (by decide) rfl (hU.later KL) (JArg.lit eI [25] _ _ rfl rfl))
  have HV := Lib.hid (hV.later KL)
  have K1 := Lib.hid (K0.out.trans (hK1.trans KL))
  clear hU hV hK1 KL
  simp only [List.length_cons, List.length_nil]
  go_wp2_with fail
  refine E1.out.mono ?_
  rintro e w2 ⟨rfl, hK2⟩
  have KM := (Kept.refl w2).alloc (.cells #[.int .i64 1, .int .i64 15] 29)
  have E2 := Lib.hid (lotequal_yes [(1, 15)] av (some ⟨w2.heap.size, 0, none⟩) 1 cv 1 (w2.alloc (.cells #[.int .i64 1, .int .i64 15] 29)) (by decide) rfl (HV.out.later (hK2.trans KM)) (JArg.lit eP [(1, 15)] _ _ rfl rfl))
  have K2 := Lib.hid (K1.out.trans (hK2.trans KM))
  clear hK2 KM
  go_wp2_with fail
  refine E2.out.mono ?_
  rintro e w3 ⟨rfl, hK3⟩
  have K3 := Lib.hid (K2.out.trans hK3)
  clear hK3
  go_wp2_with fail
  refine (FN.out w3 K3.out).mono ?_
  rintro e w4 ⟨ax, cx, al, cl, rfl, hX, hLo, _, _, zx, hK4⟩
  have HX := Lib.hid hX
  have HL := Lib.hid hLo
  have ZX := Lib.hid zx
  have K4 := Lib.hid (K3.out.trans hK4)
  clear hK4 hX hLo zx
  go_wp2_with fail
  refine (MN.out w4 K4.out).mono ?_
  rintro e w5 ⟨ay, cy, rfl, hY, _, _, zy, hK5⟩
  have kA := (Kept.refl w5).alloc (.cells #[.int .i64 t2.1, .int .i64 t2.2] 29)
  have HY := Lib.hid (hY.later kA)
  have HX5 := Lib.hid (HX.out.later (hK5.trans kA))
  have HL5 := Lib.hid (HL.out.later (hK5.trans kA))
  have ZY := Lib.hid zy
  have K5 := Lib.hid (K4.out.trans (hK5.trans kA))
  have HT := Lib.hid (JBx.new (w := w5) rfl t2 29)
  have HI := Lib.hid (LBx.new (w := w5.alloc (.cells #[.int .i64 t2.1, .int .i64 t2.2] 29)) (p := w5.heap.size + 1) (by simp) (0, 0) 29)
  have KI := Lib.hid ((Kept.refl (w5.alloc (.cells #[.int .i64 t2.1, .int .i64 t2.2] 29))).alloc lotO)
  have hsz : (w5.alloc (.cells #[.int .i64 t2.1, .int .i64 t2.2] 29)).heap.size = w5.heap.size + 1 := by simp
  clear hK5 hY kA zy HX HL K4 F0 K0 E1 E2 K1 K2 K3 HV FN MN
  go_wp2
  generalize w5.alloc (.cells #[.int .i64 t2.1, .int .i64 t2.2] 29) = W at *
  generalize hp : w5.heap.size + 1 = p at *
  go_loopw [13, 72] (fun o i wr => ∃ j : Nat, j ≤ l.length ∧ i = .int .i64 j ∧ o = .int .i64 (nOut (l.take j)) ∧ LBx wr p (cnt (l.take j), csm (l.take j)) ∧ Kept W wr) (fun _ i _ => l.length - (intOf i).toNat)
  case atStart => exact ⟨0, Nat.zero_le _, rfl, rfl, HI.out, KI.out⟩
  case round =>
    obtain ⟨j, hj, rfl, rfl, hL, hK⟩ := hrel
    have hKW := K5.out.trans hK
    have nb := nOut_bd (l.take j)
    rw [List.length_take, Nat.min_eq_left hj] at nb
    by_cases hlt : j < l.length
    · obtain ⟨pp, off, rfl, hR⟩ := (HA.out.later hKW).at hlt
      have c0 := hR.c0 j hlt
      have c1 := hR.c1 j hlt
      have plt := hR.lt
      have cs := CS.out (j + 1)
      have ct := CT.out (j + 1)
      rw [List.length_take, Nat.min_eq_left (by omega)] at cs ct
      have CNj := Lib.hid (CN.out j hlt)
      rw [CNj.out.1] at ct
      rw [CNj.out.2.1] at cs
      clear hR
      generalize l[j] = x at *
      generalize cnt (l.take j) = cn at *
      generalize csm (l.take j) = cm at *
      generalize nOut (l.take j) = no at *
      have u1 : IntKind.i64.wrap (cn + x.1) = cn + x.1 := IntWalk.i64_in _ (by omega)
      have u2 : IntKind.i64.wrap (cm + x.2) = cm + x.2 := IntWalk.i64_in _ (by omega)
      have u3 : IntKind.i64.wrap (no + 1) = no + 1 := IntWalk.i64_in _ (by omega)
      have L2 := Lib.hid ((hL.two (cn + x.1) (cm + x.2)).later ((Kept.refl _).alloc (.cells #[.int .i64 x.1, .int .i64 x.2] 40)))
      have K2 := Lib.hid (((hK.setAt (b := p) (i := 0) (by omega) (.int .i64 (cn + x.1))).setAt (b := p) (i := 1) (by omega) (.int .i64 (cm + x.2))).alloc (.cells #[.int .i64 x.1, .int .i64 x.2] 40))
      obtain ⟨⟨b0, b1, b3⟩, g0, g1⟩ := id hL
      have np : wr.heap.size ≠ p := by omega
      clear hL hK hKW cs ct nb
      by_cases neg : x.1 < 0
      · have OJ := Lib.hid (show nOut (l.take (j + 1)) = no + 1 by rw [CNj.out.2.2, if_pos neg])
        go_wp2
        go_roundw
        case rel => exact ⟨j + 1, by omega, by go_num, by rw [OJ.out], by rw [CNj.out.1, CNj.out.2.1]; exact L2.out, K2.out⟩
        case measure => simp [intOf]; omega
      · have OJ := Lib.hid (show nOut (l.take (j + 1)) = no by rw [CNj.out.2.2, if_neg neg]; omega)
        go_wp2
        go_roundw
        case rel => exact ⟨j + 1, by omega, by go_num, by rw [OJ.out], by rw [CNj.out.1, CNj.out.2.1]; exact L2.out, K2.out⟩
        case measure => simp [intOf]; omega
    · obtain rfl : j = l.length := by omega
      clear hlt
      rw [List.take_length] at hL nb ⊢
      have A := AO.out
      obtain ⟨l1, l2, cc1, cc2, k1, k2, p1, p2, lots, len, t20, nn, cl0, cl1, kl1, s40, t40⟩ := A
      have CO := Lib.hid (cost_any al s2 cl wr len lots (HL5.out.later hK))
      have HK6 := Lib.hid hKW
      have HI6 := Lib.hid hL
      have HT6 := Lib.hid ((HT.out).later hK)
      have HX6 := Lib.hid (HX5.out.later hK)
      have HY6 := Lib.hid (HY.out.later hK)
      clear hL hK hKW
      go_wp2_with fail
      refine CO.out.mono ?_
      rintro e w6 ⟨rfl, hK7⟩
      have kB := (Kept.refl w6).alloc (.cells #[.int .i64 (cnt s2), .int .i64 (csm s2)] 29)
      have hk7 := hK7.trans kB
      have HB7 := Lib.hid (JBx.new (w := w6) rfl (cnt s2, csm s2) 29)
      have HI7 := Lib.hid (HI6.out.later hk7)
      have HT7 := Lib.hid (HT6.out.later hk7)
      have HX7 := Lib.hid (HX6.out.later hk7)
      have HY7 := Lib.hid (HY6.out.later hk7)
      have HK7 := Lib.hid (HK6.out.trans hk7)
      obtain ⟨bl, hbl⟩ : ∃ bl, w6.heap.size = bl := ⟨_, rfl⟩
      rw [hbl] at HB7
      have sp1 := sumI_pos p1
      have sp2 := sumI_pos p2
      have lc0 := lots.cnt0.2.1
      have T1 := Lib.hid (fun V (k : Kept (w6.alloc (.cells #[.int .i64 (cnt s2), .int .i64 (csm s2)] 29)) V) => ksum_any ax s1 cx V (by omega) p1 (by omega) (HX7.out.later k))
      have T2 := Lib.hid (fun V (k : Kept (w6.alloc (.cells #[.int .i64 (cnt s2), .int .i64 (csm s2)] 29)) V) => ksum_any ay t1 cy V (by omega) p2 (by omega) (HY7.out.later k))
      have u1 : IntKind.i64.wrap (csm s2 + sumI s1) = csm s2 + sumI s1 := IntWalk.i64_in _ (by omega)
      have u2 : IntKind.i64.wrap (t2.2 + sumI t1) = t2.2 + sumI t1 := IntWalk.i64_in _ (by omega)
      have d1 : ((s1.length : Int) != nOut l) = false := by rw [bne_eq_false_iff_eq]; exact l1
      have d2 : ((t1.length : Int) != nOut l) = false := by rw [bne_eq_false_iff_eq]; exact l2
      have d3 : (cnt s2 != cnt l) = false := by rw [bne_eq_false_iff_eq]; exact cc1
      have d4 : (t2.1 != cnt l) = false := by rw [bne_eq_false_iff_eq]; exact cc2
      have d5 : (csm s2 + sumI s1 != csm l) = false := by rw [bne_eq_false_iff_eq]; exact k1
      have d6 : (t2.2 + sumI t1 != csm l) = false := by rw [bne_eq_false_iff_eq]; exact k2
      have NN := Lib.hid nn
      have P1 := Lib.hid p1
      have P2 := Lib.hid p2
      have CC1 := Lib.hid cc1
      clear hK7 hk7 kB HI6 HT6 HX6 HY6 HK6 l1 l2 cc1 cc2 k1 k2 nn p1 p2 lots len sp1 sp2 cl1 kl1 CO
      generalize hW7 : w6.alloc (.cells #[.int .i64 (cnt s2), .int .i64 (csm s2)] 29) = W7 at *
      obtain ⟨b0, b1, b2⟩ := HB7.out
      obtain ⟨⟨i0, i1, i2⟩, _, _⟩ := HI7.out
      obtain ⟨t0, t3, t4⟩ := HT7.out
      have HW7 := Lib.hid hW7
      clear hW7
      go_wp2
      rw [HW7.out]
      go_quiet ((first
        | (go_at_call_of 17 (ax); exact quiet_same ((T1.out _ ((Kept.refl _).drewN _)).mono fun _ _ h => ⟨h.1, h.2⟩))
        | (go_at_call_of 17 (ay); exact quiet_same ((T2.out _ ((Kept.refl _).drewN _)).mono fun _ _ h => ⟨h.1, h.2⟩))))
      have kV := (Kept.refl W7).drewN nq
      have HB8 := Lib.hid (HB7.out.later kV)
      have HI8 := Lib.hid (HI7.out.box.later kV)
      have HT8 := Lib.hid (HT7.out.later kV)
      have HX8 := Lib.hid (HX7.out.later kV)
      have HY8 := Lib.hid (HY7.out.later kV)
      have HK8 := Lib.hid (HK7.out.trans kV)
      clear kV HB7 HI7 HT7 HX7 HY7 HK7 b0 b1 b2 i0 i1 i2 t0 t3 t4 d1 d2 d3 d4 d5 d6 u1 u2 T1 T2 HW7 hbl
      generalize W7.drewN nq = V at *
      obtain ⟨b0, b1, b2⟩ := HB8.out
      obtain ⟨t0, t3, t4⟩ := HT8.out
      simp only at b1 b2
      have QL := Lib.hid (QRow.lit eI (w := V) (p := V.heap.size) (n := 2) [csm s2, t2.2] #[.int .i64 (csm s2), .int .i64 t2.2] 3 rfl rfl rfl (by decide))
      have kL := (Kept.refl V).alloc (.cells #[.int .i64 (csm s2), .int .i64 t2.2] 3)
      obtain ⟨big, hbig⟩ : ∃ big, big = ([csm s2, t2.2] ++ s1) ++ t1 := ⟨_, rfl⟩
      have HBG := Lib.hid hbig
      have ln : big.length ≤ 1000 := by rw [hbig]; simp; omega
      have HPP := Lib.hid (show ∀ x ∈ big, 0 ≤ x from fun x hx => by
        rw [hbig] at hx
        rcases List.mem_append.1 hx with hx | hx
        · rcases List.mem_append.1 hx with hx | hx
          · have : x = csm s2 ∨ x = t2.2 := by simpa using hx
            rcases this with rfl | rfl
            · exact lc0
            · exact t20
          · exact P1.out x hx
        · exact P2.out x hx)
      clear hbig
      go_wp2_with (at_builtin; refine app_qs eI 3 23 _ 8 isInt rfl (by decide) Try.underlying23 rfl _ _ rfl (z := s1) rfl rfl QL.out (HX8.out.later kL) ZX.out (by simp; omega) (by simp) ?_)
      intro v1 w8 hQ8 hg8 hm8
      have hK9 := QL.out.kept (Nat.le_refl _) kL hg8
      clear kL hm8
      go_wp2_with (at_builtin; refine app_qs eI 3 23 _ 8 isInt rfl (by decide) Try.underlying23 rfl _ _ rfl (z := t1) rfl rfl hQ8 (HY8.out.later hK9) ZY.out (by simp; omega) hK9.le ?_)
      intro v2 w9 hQ9 hg9 hm9
      have hK10 := hQ8.kept (Nat.le_refl _) hK9 hg9
      have hQ9 : QRow eI V.heap.size w9 v2 big := by rw [HBG.out]; exact hQ9
      have HB9 := Lib.hid (HB8.out.later hK10)
      have HI9 := Lib.hid (HI8.out.later hK10)
      have HT9 := Lib.hid (HT8.out.later hK10)
      have HK9 := Lib.hid (HK8.out.trans hK10)
      clear hQ8 hg8 hK9 hg9 hm9 hK10 b0 b1 b2 t0 t3 t4 QL
      obtain ⟨a9, c9, rfl, _⟩ := id hQ9.is
      have HQ9 := Lib.hid hQ9.arg
      clear hQ9 HBG
      go_wp2
      go_loopw [154] (fun i wr => ∃ j : Nat, j ≤ big.length ∧ i = .int .i64 j ∧ w9 = wr) (fun i _ => big.length - (intOf i).toNat)
      case atStart => exact ⟨0, Nat.zero_le _, rfl, rfl⟩
      case round =>
        obtain ⟨j, hj, rfl, rfl⟩ := hrel
        by_cases hlt : j < big.length
        · obtain ⟨pp, off, rfl, hR⟩ := HQ9.out.at hlt
          have c0 := hR.i j hlt
          have ps := HPP.out _ (List.getElem_mem hlt)
          generalize big[j] = x at *
          have nx : ¬ x < 0 := by omega
          clear hR ps
          go_wp2
          go_roundw
          case rel => exact ⟨j + 1, by omega, by go_num, trivial⟩
          case measure => simp [intOf]; omega
        · obtain rfl : j = big.length := by omega
          clear hlt
          obtain ⟨b0, b1, b2⟩ := HB9.out
          obtain ⟨i0, i1, i2⟩ := HI9.out
          obtain ⟨t0, t3, t4⟩ := HT9.out
          by_cases cz : cnt l = 0
          · obtain ⟨z1, z2⟩ := NN.out cz
            rw [z1] at b2
            rw [z2] at t4
            rw [cz] at i1
            go_wp2
            go_ret
            exact ⟨by simp, HK9.out⟩
          · have cp : 0 < cnt l := by omega
            go_wp2
            go_ret
            exact ⟨by simp, HK9.out⟩
/-- StockAll, whatever is handed in. -/
theorem stockAll_walk (a : Option Addr) (l : List Mv) (cap : Nat) (w : World) (hA : JArg eP w a l) (hc : l.length ≤ cap) (hm : cap ≤ maxLen) (h0 : a = none → cap = 0) :
    Calls Try.prog 4 #[.slice a l.length cap] w fun e w' => e = .returned (.bool true) ∧ Below w.heap.size w w' := by
  by_cases e : skE l = 0
  · exact stockAll_yes a l cap w hA (by omega) (skE_ok e)
  · exact stockAll_no a l cap w hA (by omega) e
end Go.Proofs.Ytiilljdeplihoaa
