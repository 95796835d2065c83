/-
  The law StockAhead: for all moves, not too many, it answers true; nothing that was there is turned. No condition but those that each theorem names.
-/
import Derived.Test.YtiilljdeplihoaaPCat
namespace Go.Proofs.Ytiilljdeplihoaa
open Go.RowKit
set_option linter.unusedVariables false

theorem ff_pre (l : List Mv) : ∀ m : List Mv, ∃ t, (ffS (l ++ m)).1 = (ffS l).1 ++ t := by
  have : ∀ (m : List Mv) (s : List Int × List Mv), ∃ t, (m.foldl ffT s).1 = s.1 ++ t := by
    intro m
    induction m with
    | nil => intro s; exact ⟨[], by simp⟩
    | cons x r ih =>
      intro s
      obtain ⟨t, ht⟩ := ih (ffT s x)
      rw [List.foldl_cons, ht]
      unfold ffT
      split
      · exact ⟨t, rfl⟩
      · exact ⟨tkC s.2 (-x.1) :: t, by simp⟩
  intro m
  obtain ⟨t, ht⟩ := this m (ffS l)
  exact ⟨t, by unfold ffS at ht ⊢; rw [List.foldl_append, ht]⟩
theorem mm_pre (l : List Mv) : ∀ m : List Mv, ∃ t, (mmS (l ++ m)).1 = (mmS l).1 ++ t := by
  have : ∀ (m : List Mv) (s : List Int × Mv), ∃ t, (m.foldl mmT s).1 = s.1 ++ t := by
    intro m
    induction m with
    | nil => intro s; exact ⟨[], by simp⟩
    | cons x r ih =>
      intro s
      obtain ⟨t, ht⟩ := ih (mmT s x)
      rw [List.foldl_cons, ht]
      unfold mmT
      split
      · exact ⟨t, rfl⟩
      · exact ⟨mnC s.2 (-x.1) :: t, by simp⟩
  intro m
  obtain ⟨t, ht⟩ := this m (mmS l)
  exact ⟨t, by unfold mmS at ht ⊢; rw [List.foldl_append, ht]⟩
theorem JArg.pre {α : Type} {E : Jec α} {w : World} {a : Option Addr} {l t : List α} (h : JArg E w a (l ++ t)) : JArg E w a l := by
  rcases h with h | ⟨p, off, e, h⟩
  · exact .inl (List.append_eq_nil_iff.1 h).1
  · refine .inr ⟨p, off, e, h.lt, fun j u hj => h.c j u ?_⟩
    have hlt := (List.getElem?_eq_some_iff.1 hj).1
    rw [E.cat_append, List.getElem?_append_left hlt]; exact hj
/-- Fifo's answer, with its error, whatever it is. -/
def FiE (w : World) (er : Int) (e : Ending) (w' : World) : Prop :=
  ∃ au nu cu av nv cv, e = .returned (.tuple #[.slice au nu cu, .slice av nv cv, .int .i64 er]) ∧ Kept w w'
theorem fifo_e (a : Option Addr) (l : List Mv) (cap : Nat) (w : World) (hn : l.length ≤ maxLen) (hA : JArg eP w a l) :
    Calls Try.prog 9 #[.slice a l.length cap] w (FiE w (skE l)) := by
  by_cases h : skE l = 0
  · rw [h]
    refine (fifo_arg a l cap w hA (skE_ok h)).mono fun e w' hh => ?_
    obtain ⟨au, cu, av, cv, rfl, _, _, _, _, _, hK⟩ := hh
    exact ⟨_, _, _, _, _, _, rfl, hK⟩
  · exact (fifo_no a l cap w hn hA h).mono fun e w' hh => ⟨_, _, _, _, _, _, hh.1, hh.2⟩
def MnE (w : World) (er : Int) (e : Ending) (w' : World) : Prop :=
  ∃ au nu cu c k, e = .returned (.tuple #[.slice au nu cu, .agg #[.int .i64 c, .int .i64 k], .int .i64 er]) ∧ Kept w w'
theorem mean_e (a : Option Addr) (l : List Mv) (cap : Nat) (w : World) (hn : l.length ≤ maxLen) (hA : JArg eP w a l) :
    Calls Try.prog 10 #[.slice a l.length cap] w (MnE w (skE l)) := by
  by_cases h : skE l = 0
  · rw [h]
    refine (mean_arg a l cap w hA (skE_ok h)).mono fun e w' hh => ?_
    obtain ⟨au, cu, rfl, _, _, _, _, hK⟩ := hh
    exact ⟨_, _, _, _, _, rfl, hK⟩
  · exact (mean_no a l cap w hn hA h).mono fun e w' hh => ⟨_, _, _, _, _, hh.1, hh.2⟩
abbrev aheadL : List Mv := [(2, 10), (2, 30), (-1, 0)]
theorem ahead_ok : MvOk aheadL := skE_ok (by decide +kernel)
theorem ahead_mm : mmS aheadL = ([10], (3, 30)) := by decide +kernel
set_option maxRecDepth 100000 in
set_option maxHeartbeats 8000000 in
theorem ahead_A (a b : Option Addr) (l m : List Mv) (c c' : Nat) (w : World) (hA : JArg eP w a l) (hB : JArg eP w b m) (z1 : a = none → c = 0) (z2 : b = none → c' = 0) (hn : l.length + m.length ≤ 1000000) (er : skE l ≠ 0)  :
    Calls Try.prog 5 #[.slice a l.length c, .slice b m.length c'] w fun e w' => e = .returned (.bool true) ∧ Below w.heap.size w w' := by
  have M0 := Lib.hid (show Calls Try.prog 10 #[.slice (some ⟨w.heap.size, 0, none⟩) 3 3] (w.alloc (.cells #[.int .i64 2, .int .i64 10, .int .i64 2, .int .i64 30, .int .i64 (-1), .int .i64 0] 40)) (MnA (w.alloc (.cells #[.int .i64 2, .int .i64 10, .int .i64 2, .int .i64 30, .int .i64 (-1), .int .i64 0] 40)) ([10], (3, 30))) from by
    have := mean_arg (some ⟨w.heap.size, 0, none⟩) aheadL 3 (w.alloc (.cells #[.int .i64 2, .int .i64 10, .int .i64 2, .int .i64 30, .int .i64 (-1), .int .i64 0] 40)) (JArg.lit eP aheadL _ _ rfl rfl) ahead_ok
    rwa [ahead_mm] at this)
  have K0 := Lib.hid ((Kept.refl w).alloc (.cells #[.int .i64 2, .int .i64 10, .int .i64 2, .int .i64 30, .int .i64 (-1), .int .i64 0] 40))
  have hl : l.length ≤ maxLen := by unfold maxLen; omega
  have hlm : (l ++ m).length ≤ maxLen := by rw [List.length_append]; unfold maxLen; omega
  have FN := Lib.hid (fun V (k : Kept w V) => fifo_e a l c V hl (hA.later k))
  have MN := Lib.hid (fun V (k : Kept w V) => mean_e a l c V hl (hA.later k))
  have FL := Lib.hid (fun (ad : Option Addr) cc V (h : JArg eP V ad (l ++ m)) => fifo_e ad (l ++ m) cc V hlm h)
  have ML := Lib.hid (fun (ad : Option Addr) cc V (h : JArg eP V ad (l ++ m)) => mean_e ad (l ++ m) cc V hlm h)
  have CC := Lib.hid (fun V (k : Kept w V) bk (hb : bk < V.heap.size) b0 b1 => concat_any bk c c' a b l m V hn hb b0 b1 (hA.later k) (hB.later k) z1 z2)
  have ne : (skE l != 0) = true := by simpa using er
  clear er
  generalize skE l = e1 at *
  generalize skE (l ++ m) = e3 at *
  generalize hlm0 : l ++ m = lm at *
  clear hlm0 hl hlm hn z1 z2 hA hB
  go_enter Try.func5, Try.ntmps5
  go_wp2_with fail
  refine M0.out.mono ?_
  rintro e w1 ⟨au, cu, rfl, hU, _, _, _, hK1⟩
  have kB := (Kept.refl w1).alloc (.cells #[.int .i64 3, .int .i64 30] 29)
  have KL := kB.alloc (.cells #[.int .i64 10] 3)
  have HB0 := Lib.hid ((JBx.new (w := w1) rfl (3, 30) 29).later ((Kept.refl _).alloc (.cells #[.int .i64 10] 3)))
  have E1 := Lib.hid (iequal_yes [10] au (some ⟨w1.heap.size + 1, 0, none⟩) 1 cu 1 ((w1.alloc (.cells #[.int .i64 3, .int .i64 30] 29)).alloc (.cells #[.int .i64 10] 3)) (by decide) rfl (hU.later KL) (JArg.lit eI [10] _ _ (by simp) rfl))
  have K1 := Lib.hid (K0.out.trans (hK1.trans KL))
  clear hU hK1 KL kB
  simp only [List.length_cons, List.length_nil]
  go_wp2_with fail
  refine E1.out.mono ?_
  rintro e w2 ⟨rfl, hK2⟩
  obtain ⟨b0, b1, b2⟩ := HB0.out.later hK2
  have K2 := Lib.hid (K1.out.trans hK2)
  clear hK2
  go_wp2_with fail
  refine (FN.out w2 K2.out).mono ?_
  rintro e w3 ⟨ax, nx, cx, al, nl, cl, rfl, hK3⟩
  have K3 := Lib.hid (K2.out.trans hK3)
  clear hK3
  go_wp2_with fail
  refine (MN.out w3 K3.out).mono ?_
  rintro e w4 ⟨ay, ny, cy, ky1, ky2, rfl, hK4⟩
  have kM := (Kept.refl w4).alloc (.cells #[.int .i64 ky1, .int .i64 ky2] 29)
  have K4 := Lib.hid (K3.out.trans (hK4.trans kM))
  clear hK4 kM
  generalize hV4 : (w4.alloc (.cells #[.int .i64 ky1, .int .i64 ky2] 29)) = V4 at *
  have HV4 := Lib.hid hV4
  clear hV4
  have kC := (Kept.refl V4).alloc (.cells #[.slice a l.length c, .slice b m.length c'] 22)
  have C1 := Lib.hid (CC.out (V4.alloc (.cells #[.slice a l.length c, .slice b m.length c'] 22)) (K4.out.trans kC) V4.heap.size (by simp) (by simp) (by simp))
  have K5 := Lib.hid (K4.out.trans kC)
  go_wp2_with (with_reducible rw [HV4.out])
  refine C1.out.mono ?_
  rintro e w5 ⟨v5, rfl, hQ5, hK5⟩
  obtain ⟨a5, c5, hv, _⟩ := id hQ5.is
  subst hv
  have HQ5 := Lib.hid hQ5.arg
  have K6 := Lib.hid (K5.out.trans hK5)
  have KV5 := Lib.hid (kC.trans hK5)
  clear hQ5 hK5 kC
  go_wp2_with fail
  refine (FL.out _ _ _ HQ5.out).mono ?_
  rintro e w6 ⟨ap, np, cp, aq, nq2, cq, rfl, hK6⟩
  have K7 := Lib.hid (K6.out.trans hK6)
  clear hK6
  have kD := (Kept.refl w6).alloc (.cells #[.slice a l.length c, .slice b m.length c'] 22)
  have C2 := Lib.hid (CC.out (w6.alloc (.cells #[.slice a l.length c, .slice b m.length c'] 22)) (K7.out.trans kD) w6.heap.size (by simp) (by simp) (by simp))
  have K8 := Lib.hid (K7.out.trans kD)
  go_wp2_with fail
  refine C2.out.mono ?_
  rintro e w7 ⟨v7, rfl, hQ7, hK7⟩
  obtain ⟨a7, c7, hv, _⟩ := id hQ7.is
  subst hv
  have HQ7 := Lib.hid hQ7.arg
  have K9 := Lib.hid (K8.out.trans hK7)
  have KD7 := Lib.hid (kD.trans hK7)
  clear hQ7 hK7 kD
  go_wp2_with fail
  refine (ML.out _ _ _ HQ7.out).mono ?_
  rintro e w8 ⟨ar, nr, cr, kr1, kr2, rfl, hK8⟩
  have kE := (Kept.refl w8).alloc (.cells #[.int .i64 kr1, .int .i64 kr2] 29)
  have KK := Lib.hid (K9.out.trans (hK8.trans kE))
  clear hK8 kE
  go_wp2
  go_ret
  exact ⟨by simp, KK.out⟩
set_option maxRecDepth 100000 in
set_option maxHeartbeats 8000000 in
theorem ahead_B (a b : Option Addr) (l m : List Mv) (c c' : Nat) (w : World) (hA : JArg eP w a l) (hB : JArg eP w b m) (z1 : a = none → c = 0) (z2 : b = none → c' = 0) (hn : l.length + m.length ≤ 1000000) (ok : skE l = 0) (er : skE (l ++ m) ≠ 0) :
    Calls Try.prog 5 #[.slice a l.length c, .slice b m.length c'] w fun e w' => e = .returned (.bool true) ∧ Below w.heap.size w w' := by
  have M0 := Lib.hid (show Calls Try.prog 10 #[.slice (some ⟨w.heap.size, 0, none⟩) 3 3] (w.alloc (.cells #[.int .i64 2, .int .i64 10, .int .i64 2, .int .i64 30, .int .i64 (-1), .int .i64 0] 40)) (MnA (w.alloc (.cells #[.int .i64 2, .int .i64 10, .int .i64 2, .int .i64 30, .int .i64 (-1), .int .i64 0] 40)) ([10], (3, 30))) from by
    have := mean_arg (some ⟨w.heap.size, 0, none⟩) aheadL 3 (w.alloc (.cells #[.int .i64 2, .int .i64 10, .int .i64 2, .int .i64 30, .int .i64 (-1), .int .i64 0] 40)) (JArg.lit eP aheadL _ _ rfl rfl) ahead_ok
    rwa [ahead_mm] at this)
  have K0 := Lib.hid ((Kept.refl w).alloc (.cells #[.int .i64 2, .int .i64 10, .int .i64 2, .int .i64 30, .int .i64 (-1), .int .i64 0] 40))
  have hl : l.length ≤ maxLen := by unfold maxLen; omega
  have hlm : (l ++ m).length ≤ maxLen := by rw [List.length_append]; unfold maxLen; omega
  have FN := Lib.hid (fun V (k : Kept w V) => fifo_e a l c V hl (hA.later k))
  have MN := Lib.hid (fun V (k : Kept w V) => mean_e a l c V hl (hA.later k))
  have FL := Lib.hid (fun (ad : Option Addr) cc V (h : JArg eP V ad (l ++ m)) => fifo_e ad (l ++ m) cc V hlm h)
  have ML := Lib.hid (fun (ad : Option Addr) cc V (h : JArg eP V ad (l ++ m)) => mean_e ad (l ++ m) cc V hlm h)
  have CC := Lib.hid (fun V (k : Kept w V) bk (hb : bk < V.heap.size) b0 b1 => concat_any bk c c' a b l m V hn hb b0 b1 (hA.later k) (hB.later k) z1 z2)
  have ne : (skE (l ++ m) != 0) = true := by simpa using er
  rw [ok] at FN MN
  clear er ok
  generalize skE (l ++ m) = e3 at *
  generalize hlm0 : l ++ m = lm at *
  clear hlm0 hl hlm hn z1 z2 hA hB
  go_enter Try.func5, Try.ntmps5
  go_wp2_with fail
  refine M0.out.mono ?_
  rintro e w1 ⟨au, cu, rfl, hU, _, _, _, hK1⟩
  have kB := (Kept.refl w1).alloc (.cells #[.int .i64 3, .int .i64 30] 29)
  have KL := kB.alloc (.cells #[.int .i64 10] 3)
  have HB0 := Lib.hid ((JBx.new (w := w1) rfl (3, 30) 29).later ((Kept.refl _).alloc (.cells #[.int .i64 10] 3)))
  have E1 := Lib.hid (iequal_yes [10] au (some ⟨w1.heap.size + 1, 0, none⟩) 1 cu 1 ((w1.alloc (.cells #[.int .i64 3, .int .i64 30] 29)).alloc (.cells #[.int .i64 10] 3)) (by decide) rfl (hU.later KL) (JArg.lit eI [10] _ _ (by simp) rfl))
  have K1 := Lib.hid (K0.out.trans (hK1.trans KL))
  clear hU hK1 KL kB
  simp only [List.length_cons, List.length_nil]
  go_wp2_with fail
  refine E1.out.mono ?_
  rintro e w2 ⟨rfl, hK2⟩
  obtain ⟨b0, b1, b2⟩ := HB0.out.later hK2
  have K2 := Lib.hid (K1.out.trans hK2)
  clear hK2
  go_wp2_with fail
  refine (FN.out w2 K2.out).mono ?_
  rintro e w3 ⟨ax, nx, cx, al, nl, cl, rfl, hK3⟩
  have K3 := Lib.hid (K2.out.trans hK3)
  clear hK3
  go_wp2_with fail
  refine (MN.out w3 K3.out).mono ?_
  rintro e w4 ⟨ay, ny, cy, ky1, ky2, rfl, hK4⟩
  have kM := (Kept.refl w4).alloc (.cells #[.int .i64 ky1, .int .i64 ky2] 29)
  have K4 := Lib.hid (K3.out.trans (hK4.trans kM))
  clear hK4 kM
  generalize hV4 : (w4.alloc (.cells #[.int .i64 ky1, .int .i64 ky2] 29)) = V4 at *
  have HV4 := Lib.hid hV4
  clear hV4
  have kC := (Kept.refl V4).alloc (.cells #[.slice a l.length c, .slice b m.length c'] 22)
  have C1 := Lib.hid (CC.out (V4.alloc (.cells #[.slice a l.length c, .slice b m.length c'] 22)) (K4.out.trans kC) V4.heap.size (by simp) (by simp) (by simp))
  have K5 := Lib.hid (K4.out.trans kC)
  go_wp2_with (with_reducible rw [HV4.out])
  refine C1.out.mono ?_
  rintro e w5 ⟨v5, rfl, hQ5, hK5⟩
  obtain ⟨a5, c5, hv, _⟩ := id hQ5.is
  subst hv
  have HQ5 := Lib.hid hQ5.arg
  have K6 := Lib.hid (K5.out.trans hK5)
  have KV5 := Lib.hid (kC.trans hK5)
  clear hQ5 hK5 kC
  go_wp2_with fail
  refine (FL.out _ _ _ HQ5.out).mono ?_
  rintro e w6 ⟨ap, np, cp, aq, nq2, cq, rfl, hK6⟩
  have K7 := Lib.hid (K6.out.trans hK6)
  clear hK6
  have kD := (Kept.refl w6).alloc (.cells #[.slice a l.length c, .slice b m.length c'] 22)
  have C2 := Lib.hid (CC.out (w6.alloc (.cells #[.slice a l.length c, .slice b m.length c'] 22)) (K7.out.trans kD) w6.heap.size (by simp) (by simp) (by simp))
  have K8 := Lib.hid (K7.out.trans kD)
  go_wp2_with fail
  refine C2.out.mono ?_
  rintro e w7 ⟨v7, rfl, hQ7, hK7⟩
  obtain ⟨a7, c7, hv, _⟩ := id hQ7.is
  subst hv
  have HQ7 := Lib.hid hQ7.arg
  have K9 := Lib.hid (K8.out.trans hK7)
  have KD7 := Lib.hid (kD.trans hK7)
  clear hQ7 hK7 kD
  go_wp2_with fail
  refine (ML.out _ _ _ HQ7.out).mono ?_
  rintro e w8 ⟨ar, nr, cr, kr1, kr2, rfl, hK8⟩
  have kE := (Kept.refl w8).alloc (.cells #[.int .i64 kr1, .int .i64 kr2] 29)
  have KK := Lib.hid (K9.out.trans (hK8.trans kE))
  clear hK8 kE
  go_wp2
  go_ret
  exact ⟨by simp, KK.out⟩
set_option maxRecDepth 100000 in
set_option maxHeartbeats 8000000 in
theorem ahead_C (a b : Option Addr) (l m : List Mv) (c c' : Nat) (w : World) (hA : JArg eP w a l) (hB : JArg eP w b m) (z1 : a = none → c = 0) (z2 : b = none → c' = 0) (hn : l.length + m.length ≤ 1000000) (ok : MvOk l) (ok2 : MvOk (l ++ m)) :
    Calls Try.prog 5 #[.slice a l.length c, .slice b m.length c'] w fun e w' => e = .returned (.bool true) ∧ Below w.heap.size w w' := by
  have M0 := Lib.hid (show Calls Try.prog 10 #[.slice (some ⟨w.heap.size, 0, none⟩) 3 3] (w.alloc (.cells #[.int .i64 2, .int .i64 10, .int .i64 2, .int .i64 30, .int .i64 (-1), .int .i64 0] 40)) (MnA (w.alloc (.cells #[.int .i64 2, .int .i64 10, .int .i64 2, .int .i64 30, .int .i64 (-1), .int .i64 0] 40)) ([10], (3, 30))) from by
    have := mean_arg (some ⟨w.heap.size, 0, none⟩) aheadL 3 (w.alloc (.cells #[.int .i64 2, .int .i64 10, .int .i64 2, .int .i64 30, .int .i64 (-1), .int .i64 0] 40)) (JArg.lit eP aheadL _ _ rfl rfl) ahead_ok
    rwa [ahead_mm] at this)
  have K0 := Lib.hid ((Kept.refl w).alloc (.cells #[.int .i64 2, .int .i64 10, .int .i64 2, .int .i64 30, .int .i64 (-1), .int .i64 0] 40))
  have hl : l.length ≤ maxLen := by unfold maxLen; omega
  have hlm : (l ++ m).length ≤ maxLen := by rw [List.length_append]; unfold maxLen; omega
  have FN := Lib.hid (fun V (k : Kept w V) => fifo_arg a l c V (hA.later k) ok)
  have MN := Lib.hid (fun V (k : Kept w V) => mean_arg a l c V (hA.later k) ok)
  have FL := Lib.hid (fun (ad : Option Addr) cc V (h : JArg eP V ad (l ++ m)) => fifo_arg ad (l ++ m) cc V h ok2)
  have ML := Lib.hid (fun (ad : Option Addr) cc V (h : JArg eP V ad (l ++ m)) => mean_arg ad (l ++ m) cc V h ok2)
  have f := ffS_ok ok l.length (Nat.le_refl _)
  have mo := mmS_ok ok l.length (Nat.le_refl _)
  rw [List.take_length] at f mo
  have l40 := ok.len
  have n1 : (ffS l).1.length ≤ 1000 := by have := f.l1; omega
  have n2 : (mmS l).1.length ≤ 1000 := by have := mo.l1; omega
  obtain ⟨t1, ht1⟩ := ff_pre l m
  obtain ⟨t2, ht2⟩ := mm_pre l m
  have CC := Lib.hid (fun V (k : Kept w V) bk (hb : bk < V.heap.size) b0 b1 => concat_any bk c c' a b l m V hn hb b0 b1 (hA.later k) (hB.later k) z1 z2)
  generalize hlm0 : l ++ m = lm at *
  clear hlm0 hl hlm hn z1 z2 hA hB
  clear ok ok2 f mo l40
  generalize hs : ffS l = sf at *
  generalize hs2 : mmS l = sm at *
  generalize hs3 : ffS lm = sg at *
  generalize hs4 : mmS lm = sn at *
  clear hs hs2 hs3 hs4
  obtain ⟨s1, s2⟩ := sf
  obtain ⟨u1, u2⟩ := sm
  obtain ⟨s3, s4⟩ := sg
  obtain ⟨u3, u4⟩ := sn
  simp only at n1 n2 ht1 ht2
  subst ht1 ht2
  go_enter Try.func5, Try.ntmps5
  go_wp2_with fail
  refine M0.out.mono ?_
  rintro e w1 ⟨au, cu, rfl, hU, _, _, _, hK1⟩
  have kB := (Kept.refl w1).alloc (.cells #[.int .i64 3, .int .i64 30] 29)
  have KL := kB.alloc (.cells #[.int .i64 10] 3)
  have HB0 := Lib.hid ((JBx.new (w := w1) rfl (3, 30) 29).later ((Kept.refl _).alloc (.cells #[.int .i64 10] 3)))
  have E1 := Lib.hid (iequal_yes [10] au (some ⟨w1.heap.size + 1, 0, none⟩) 1 cu 1 ((w1.alloc (.cells #[.int .i64 3, .int .i64 30] 29)).alloc (.cells #[.int .i64 10] 3)) (by decide) rfl (hU.later KL) (JArg.lit eI [10] _ _ (by simp) rfl))
  have K1 := Lib.hid (K0.out.trans (hK1.trans KL))
  clear hU hK1 KL kB
  simp only [List.length_cons, List.length_nil]
  go_wp2_with fail
  refine E1.out.mono ?_
  rintro e w2 ⟨rfl, hK2⟩
  obtain ⟨b0, b1, b2⟩ := HB0.out.later hK2
  have K2 := Lib.hid (K1.out.trans hK2)
  clear hK2
  go_wp2_with fail
  refine (FN.out w2 K2.out).mono ?_
  rintro e w3 ⟨ax, cx, al, cl, rfl, hX, _, hx1, hx2, _, hK3⟩
  have HX := Lib.hid hX
  have K3 := Lib.hid (K2.out.trans hK3)
  clear hK3 hX
  go_wp2_with fail
  refine (MN.out w3 K3.out).mono ?_
  rintro e w4 ⟨ay, cy, rfl, hY, hy1, hy2, _, hK4⟩
  have kM := (Kept.refl w4).alloc (.cells #[.int .i64 u2.1, .int .i64 u2.2] 29)
  have HX4 := Lib.hid (HX.out.later (hK4.trans kM))
  have HY4 := Lib.hid (hY.later kM)
  have K4 := Lib.hid (K3.out.trans (hK4.trans kM))
  clear hK4 hY kM
  have W4 := Lib.hid (show Kept w (w4.alloc (.cells #[.int .i64 u2.1, .int .i64 u2.2] 29)) from K4.out)
  generalize hV4 : (w4.alloc (.cells #[.int .i64 u2.1, .int .i64 u2.2] 29)) = V4 at *
  have HV4 := Lib.hid hV4
  clear hV4
  have kC := (Kept.refl V4).alloc (.cells #[.slice a l.length c, .slice b m.length c'] 22)
  have C1 := Lib.hid (CC.out (V4.alloc (.cells #[.slice a l.length c, .slice b m.length c'] 22)) (K4.out.trans kC) V4.heap.size (by simp) (by simp) (by simp))
  have K5 := Lib.hid (K4.out.trans kC)
  go_wp2_with (with_reducible rw [HV4.out])
  refine C1.out.mono ?_
  rintro e w5 ⟨v5, rfl, hQ5, hK5⟩
  obtain ⟨a5, c5, hv, _⟩ := id hQ5.is
  subst hv
  have HQ5 := Lib.hid hQ5.arg
  have K6 := Lib.hid (K5.out.trans hK5)
  have KV5 := Lib.hid (kC.trans hK5)
  clear hQ5 hK5 kC
  go_wp2_with fail
  refine (FL.out _ _ _ HQ5.out).mono ?_
  rintro e w6 ⟨ap, cp, aq, cq, rfl, hP, _, hp1, hp2, _, hK6⟩
  have HP := Lib.hid hP
  have K7 := Lib.hid (K6.out.trans hK6)
  have KV6 := Lib.hid (KV5.out.trans hK6)
  clear hK6 hP
  have kD := (Kept.refl w6).alloc (.cells #[.slice a l.length c, .slice b m.length c'] 22)
  have C2 := Lib.hid (CC.out (w6.alloc (.cells #[.slice a l.length c, .slice b m.length c'] 22)) (K7.out.trans kD) w6.heap.size (by simp) (by simp) (by simp))
  have K8 := Lib.hid (K7.out.trans kD)
  go_wp2_with fail
  refine C2.out.mono ?_
  rintro e w7 ⟨v7, rfl, hQ7, hK7⟩
  obtain ⟨a7, c7, hv, _⟩ := id hQ7.is
  subst hv
  have HQ7 := Lib.hid hQ7.arg
  have K9 := Lib.hid (K8.out.trans hK7)
  have KD7 := Lib.hid (kD.trans hK7)
  clear hQ7 hK7 kD
  go_wp2_with fail
  refine (ML.out _ _ _ HQ7.out).mono ?_
  rintro e w8 ⟨ar, cr, rfl, hR, hr1, hr2, _, hK8⟩
  have kE := (Kept.refl w8).alloc (.cells #[.int .i64 u4.1, .int .i64 u4.2] 29)
  have k8 := KD7.out.trans (hK8.trans kE)
  have HP8 := Lib.hid (HP.out.later k8).pre
  have HR8 := Lib.hid (hR.later kE).pre
  have HX8 := Lib.hid (HX4.out.later (KV6.out.trans k8))
  have HY8 := Lib.hid (HY4.out.later (KV6.out.trans k8))
  have KK := Lib.hid (K9.out.trans (hK8.trans kE))
  clear hK8 kE k8 hR
  generalize hnp : (s1 ++ t1).length = np at *
  generalize hnr : (u1 ++ t2).length = nr at *
  rw [List.length_append] at hnp hnr
  have d1 : decide ((s1.length : Int) ≤ (np : Int)) = true := by simp; omega
  have d2 : decide ((u1.length : Int) ≤ (nr : Int)) = true := by simp; omega
  have g1 : (0 : Int) ≤ (s1.length : Int) := by omega
  have g2 : (s1.length : Int) ≤ (cp : Int) := by omega
  have g3 : (0 : Int) ≤ (u1.length : Int) := by omega
  have g4 : (u1.length : Int) ≤ (cr : Int) := by omega
  have g5 : (s1.length : Int) ≤ (np : Int) := by omega
  have g6 : (u1.length : Int) ≤ (nr : Int) := by omega
  have EQ1 := Lib.hid (iequal_yes s1 ap ax s1.length cp cx (w8.alloc (.cells #[.int .i64 u4.1, .int .i64 u4.2] 29)) n1 rfl HP8.out HX8.out)
  clear hnp hnr
  go_wp2_with fail
  refine EQ1.out.mono ?_
  rintro e w9 ⟨rfl, hK9⟩
  have HR9 := Lib.hid (HR8.out.later hK9)
  have HY9 := Lib.hid (HY8.out.later hK9)
  have KL9 := Lib.hid (KK.out.trans hK9)
  clear hK9
  go_wp2_with fail
  refine (iequal_yes u1 ar ay u1.length cr cy w9 n2 rfl HR9.out HY9.out).mono ?_
  rintro e wa ⟨rfl, hKa⟩
  have KF := Lib.hid (KL9.out.trans hKa)
  clear hKa
  go_wp2
  go_ret
  exact ⟨rfl, KF.out⟩
/-- StockAhead, for moves that are not too many. -/
theorem stockAhead_walk (a : Option Addr) (l : List Mv) (c : Nat) (b : Option Addr) (m : List Mv) (c' : Nat) (w : World) (hA : JArg eP w a l) (z1 : a = none → c = 0) (hB : JArg eP w b m) (z2 : b = none → c' = 0) (hn : l.length + m.length ≤ 1000000) :
    Calls Try.prog 5 #[.slice a l.length c, .slice b m.length c'] w fun e w' => e = .returned (.bool true) ∧ Below w.heap.size w w' := by
  by_cases h : skE l = 0
  · by_cases g : skE (l ++ m) = 0
    · exact ahead_C a b l m c c' w hA hB z1 z2 hn (skE_ok h) (skE_ok g)
    · exact ahead_B a b l m c c' w hA hB z1 z2 hn h g
  · exact ahead_A a b l m c c' w hA hB z1 z2 hn h
end Go.Proofs.Ytiilljdeplihoaa
