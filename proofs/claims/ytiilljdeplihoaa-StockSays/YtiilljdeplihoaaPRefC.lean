/-
  What the reference's Mean returns. No condition but those that each theorem names.
-/
import Derived.Test.YtiilljdeplihoaaPRefB
namespace Go.Proofs.Ytiilljdeplihoaa
open Go.RowKit
set_option linter.unusedVariables false

/-- The reference's answer: a row of its own, and a lot. -/
def RmPost (w : World) (s : List Int × Mv) (e : Ending) (w' : World) : Prop :=
  ∃ u, e = .returned (.tuple #[u, .agg #[.int .i64 s.2.1, .int .i64 s.2.2]]) ∧ QRow eI w.heap.size w' u s.1 ∧ Kept w w'
set_option maxRecDepth 100000 in
set_option maxHeartbeats 8000000 in
theorem rmean_yes (a : Option Addr) (l : List Mv) (cap : Nat) (w : World) (hA : JArg eP w a l) (ok : MvOk l) :
    Calls Try.prog 13 #[.slice a l.length cap] w (RmPost w (mmS l)) := by
  have l40 := ok.len
  have FF := Lib.hid (mmS_ok ok)
  have MV := Lib.hid ok.mv
  have HA := Lib.hid hA
  have HR := Lib.hid (LBx.new (w := w) rfl (0, 0) 29)
  have HK := Lib.hid ((Kept.refl w).alloc lotO)
  have HL0 := Lib.hid (LBx.new (w := w.alloc lotO) (p := w.heap.size + 1) (by simp) (0, 0) 29)
  have KL0 := Lib.hid ((Kept.refl (w.alloc lotO)).alloc lotO)
  have hsz : (w.alloc lotO).heap.size = w.heap.size + 1 := by simp
  have CS := Lib.hid (fun j => MvOk.csm (l := l.take j) (fun m hm => ok.mv m (List.mem_of_mem_take hm)))
  have CT := Lib.hid (fun j => MvOk.cnt (l := l.take j) (fun m hm => ok.mv m (List.mem_of_mem_take hm)))
  have NX := Lib.hid (fun j (h : j < l.length) => show 0 ≤ cnt (l.take j) + (l[j]).1 from by
    have := ok.st (j + 1) h
    rw [take_snocP l j h, cnt_app, cnt, cnt] at this
    omega)
  have CN := Lib.hid (fun j (h : j < l.length) => show cnt (l.take (j + 1)) = cnt (l.take j) + (l[j]).1 ∧ csm (l.take (j + 1)) = csm (l.take j) + (l[j]).2 from by
    rw [take_snocP l j h, cnt_app, cnt, cnt, csm_app, csm, csm]
    omega)
  clear ok hA
  go_enter Try.func13, Try.ntmps13
  go_wp2
  generalize w.alloc (.cells #[.int .i64 0, .int .i64 0] 29) = W at *
  generalize hp : w.heap.size + 1 = p at *
  go_loopw [5, 14] (fun u i wr => ∃ j : Nat, j ≤ l.length ∧ i = .int .i64 j ∧ QRow eI (p + 1) wr u (mmS (l.take j)).1 ∧ LBx wr p (mmS (l.take j)).2 ∧ Kept W wr) (fun _ i _ => l.length - (intOf i).toNat)
  case atStart => exact ⟨0, Nat.zero_le _, rfl, QRow.nil _ _ _, HL0.out, KL0.out⟩
  case round =>
    obtain ⟨j, hj, rfl, hU, hL, hK⟩ := hrel
    have hKW := HK.out.trans hK
    by_cases hlt : j < l.length
    · obtain ⟨pp, off, rfl, hR⟩ := (HA.out.later hKW).at hlt
      have c0 := hR.c0 j hlt
      have c1 := hR.c1 j hlt
      have plt := hR.lt
      have SN := Lib.hid (mmS_at hlt)
      obtain ⟨f1, f2, f3, f4, f5, f6, f7⟩ := FF.out j hj
      have ps := sumI_pos f5
      rw [List.length_take, Nat.min_eq_left hj] at f7
      have nx := NX.out j hlt
      have cs := CS.out j
      have cs2 := CS.out (j + 1)
      have ct := CT.out j
      have ct2 := CT.out (j + 1)
      have cn := CN.out j hlt
      rw [List.length_take, Nat.min_eq_left hj] at cs ct
      rw [List.length_take, Nat.min_eq_left (by omega)] at cs2 ct2
      obtain ⟨m1, m2, m3, m4, m5, m6⟩ := ckM_ok (MV.out _ (List.getElem_mem hlt))
      clear hR
      generalize l[j] = x at *
      rw [cn.1] at ct2
      rw [cn.2] at cs2
      clear cn
      generalize cnt (l.take j) = cc at *
      generalize csm (l.take j) = cm at *
      generalize mmS (l.take j) = s at *
      obtain ⟨s1, s2⟩ := s
      simp only at hU hL f1 f2 f3 f4 f5 f6 f7 ps
      obtain ⟨au, cu, hu, _⟩ := id hU.is
      subst hu
      generalize hu : Value.slice au s1.length cu = u at *
      clear hu
      have kA := (Kept.refl wr).alloc (.cells #[.int .i64 x.1, .int .i64 x.2] 40)
      have plt2 := hL.box.lt
      have np : wr.heap.size ≠ p := by omega
      by_cases pos : 0 < x.1
      · have HS := Lib.hid (show mmS (l.take (j + 1)) = (s1, (s2.1 + x.1, s2.2 + x.2)) by rw [SN.out]; unfold mmT; rw [if_pos pos])
        have w1' : IntKind.i64.wrap (s2.1 + x.1) = s2.1 + x.1 := IntWalk.i64_in _ (by omega)
        have w2' : IntKind.i64.wrap (s2.2 + x.2) = s2.2 + x.2 := IntWalk.i64_in _ (by omega)
        have L2 := Lib.hid ((hL.two (s2.1 + x.1) (s2.2 + x.2)).later ((Kept.refl _).alloc (.cells #[.int .i64 x.1, .int .i64 x.2] 40)))
        have U2 := Lib.hid (((hU.other (p := p) (o := 0) (by omega) (.int .i64 (s2.1 + x.1))).other (p := p) (o := 1) (by omega) (.int .i64 (s2.2 + x.2))).later ((Kept.refl _).alloc (.cells #[.int .i64 x.1, .int .i64 x.2] 40)))
        have K2 := Lib.hid (((hK.setAt (b := p) (i := 0) (by omega) (.int .i64 (s2.1 + x.1))).setAt (b := p) (i := 1) (by omega) (.int .i64 (s2.2 + x.2))).alloc (.cells #[.int .i64 x.1, .int .i64 x.2] 40))
        obtain ⟨⟨b0, b1, b2⟩, g0, g1⟩ := id hL
        clear SN f1 f2 f3 f4 m6 nx hU hL hK kA hKW f5 f6 f7 ps cs cs2 ct ct2
        go_wp2
        go_roundw
        case rel => exact ⟨j + 1, by omega, by go_num, by rw [HS.out]; exact U2.out, by rw [HS.out]; exact L2.out, K2.out⟩
        case measure => simp [intOf]; omega
      · have HS := Lib.hid (show mmS (l.take (j + 1)) = (s1 ++ [mnC s2 (-x.1)], (s2.1 + x.1, s2.2 - mnC s2 (-x.1))) by rw [SN.out]; unfold mmT; rw [if_neg pos])
        obtain ⟨mb0, mb1⟩ := mnC_bd (s := s2) (n := -x.1) (by omega) f2 (by omega) (by omega)
        obtain ⟨q, r, rfl, rfl, td, tm, E, q0, q1, r0, r1, p0, p1, o0, o1, t2, d0, d1⟩ := mn_facts (s := s2) (n := -x.1) (by omega) (by omega) f2 (by omega) (by omega) (by omega) (by omega)
        obtain ⟨nx1, hnx⟩ : ∃ nx1, -x.1 = nx1 := ⟨_, rfl⟩
        rw [hnx] at E p0 p1 o0 o1 t2 d0 d1 mb0 mb1
        have nz1 : ¬ s2.1 = 0 := by omega
        have nz2 : ¬ 2 * s2.1 = 0 := by omega
        have z1 : (s2.1 == 0) = false := by rw [beq_eq_false_iff_ne]; omega
        have z2 : (2 * s2.1 == 0) = false := by rw [beq_eq_false_iff_ne]; omega
        have u0 : IntKind.i64.wrap (-x.1) = -x.1 := IntWalk.i64_in _ (by omega)
        have v1 : IntKind.i64.wrap (s2.2 / s2.1) = s2.2 / s2.1 := IntWalk.i64_in _ (by omega)
        have v2 : IntKind.i64.wrap (s2.2 % s2.1) = s2.2 % s2.1 := IntWalk.i64_in _ (by omega)
        have v3 : IntKind.i64.wrap (s2.2 / s2.1 * nx1) = s2.2 / s2.1 * nx1 := IntWalk.i64_in _ (by omega)
        have v4 : IntKind.i64.wrap (2 * (s2.2 % s2.1)) = 2 * (s2.2 % s2.1) := IntWalk.i64_in _ (by omega)
        have v5 : IntKind.i64.wrap (2 * (s2.2 % s2.1) * nx1) = 2 * (s2.2 % s2.1) * nx1 := IntWalk.i64_in _ (by omega)
        have v6 : IntKind.i64.wrap (2 * (s2.2 % s2.1) * nx1 + s2.1) = 2 * (s2.2 % s2.1) * nx1 + s2.1 := IntWalk.i64_in _ (by omega)
        have v7 : IntKind.i64.wrap (2 * s2.1) = 2 * s2.1 := IntWalk.i64_in _ (by omega)
        have v8 : IntKind.i64.wrap ((2 * (s2.2 % s2.1) * nx1 + s2.1) / (2 * s2.1)) = (2 * (s2.2 % s2.1) * nx1 + s2.1) / (2 * s2.1) := IntWalk.i64_in _ (by omega)
        have v9 : IntKind.i64.wrap (s2.2 / s2.1 * nx1 + (2 * (s2.2 % s2.1) * nx1 + s2.1) / (2 * s2.1)) = s2.2 / s2.1 * nx1 + (2 * (s2.2 % s2.1) * nx1 + s2.1) / (2 * s2.1) := IntWalk.i64_in _ (by omega)
        have w2' : IntKind.i64.wrap (s2.1 - nx1) = s2.1 - nx1 := IntWalk.i64_in _ (by omega)
        have w3' : IntKind.i64.wrap (s2.2 - (s2.2 / s2.1 * nx1 + (2 * (s2.2 % s2.1) * nx1 + s2.1) / (2 * s2.1))) = s2.2 - (s2.2 / s2.1 * nx1 + (2 * (s2.2 % s2.1) * nx1 + s2.1) / (2 * s2.1)) := IntWalk.i64_in _ (by rw [E] at mb0 mb1; omega)
        have ad : s2.1 + x.1 = s2.1 - nx1 := by omega
        rw [hnx, ad, E] at HS
        have HN := Lib.hid hnx
        have HB := Lib.hid (LBx.new (w := wr) rfl x 40)
        have HL4 := Lib.hid (hL.later kA)
        have HU4 := Lib.hid (hU.later kA)
        have HK4 := Lib.hid (hK.trans kA)
        obtain ⟨⟨b0, b1, b2⟩, g0, g1⟩ := hL.later kA
        clear SN f1 f2 f3 f4 m6 nx hU hL hK kA hKW f5 f6 ps cs cs2 ct ct2 E hnx ad q0 q1 r0 r1 p0 p1 o0 o1 d0 d1 mb0 mb1
        go_wp2
        rw [HN.out]
        go_quiet (fail)
        have kQ := (Kept.refl (wr.alloc (.cells #[.int .i64 x.1, .int .i64 x.2] 40))).drewN nq
        have HL5 := Lib.hid (HL4.out.later kQ)
        have HU5 := Lib.hid (HU4.out.later kQ)
        have HK5 := Lib.hid (HK4.out.trans kQ)
        have hpW : W.heap.size ≤ p := by omega
        clear b0 b1 b2 g0 g1 kQ HL4 HU4 HK4 HB
        generalize (wr.alloc (.cells #[.int .i64 x.1, .int .i64 x.2] 40)).drewN nq = W5 at *
        obtain ⟨⟨b0, b1, b2⟩, g0, g1⟩ := HL5.out
        generalize s2.2 / s2.1 = q at *
        generalize s2.2 % s2.1 = r at *
        have HL6 := Lib.hid ((HL5.out.two (s2.1 - nx1) (s2.2 - (q * nx1 + (2 * r * nx1 + s2.1) / (2 * s2.1)))).later ((Kept.refl _).alloc (.cells #[.int .i64 (q * nx1 + (2 * r * nx1 + s2.1) / (2 * s2.1))] 3)))
        have hU6 := ((HU5.out.other (p := p) (o := 0) (by omega) (.int .i64 (s2.1 - nx1))).other (p := p) (o := 1) (by omega) (.int .i64 (s2.2 - (q * nx1 + (2 * r * nx1 + s2.1) / (2 * s2.1))))).later ((Kept.refl _).alloc (.cells #[.int .i64 (q * nx1 + (2 * r * nx1 + s2.1) / (2 * s2.1))] 3))
        have hK6 := ((HK5.out.setAt (b := p) (i := 0) hpW (.int .i64 (s2.1 - nx1))).setAt (b := p) (i := 1) hpW (.int .i64 (s2.2 - (q * nx1 + (2 * r * nx1 + s2.1) / (2 * s2.1))))).alloc (.cells #[.int .i64 (q * nx1 + (2 * r * nx1 + s2.1) / (2 * s2.1))] 3)
        have NC := Lib.hid (one_cells (w := (W5.setCell ⟨p, 0, none⟩ (.int .i64 (s2.1 - nx1))).setCell ⟨p, 1, none⟩ (.int .i64 (s2.2 - (q * nx1 + (2 * r * nx1 + s2.1) / (2 * s2.1))))) (p := W5.heap.size) (x := q * nx1 + (2 * r * nx1 + s2.1) / (2 * s2.1)) (by simp) 3)
        go_wp2_with (at_builtin; refine app_q eI 3 23 _ 8 isInt rfl (by decide) Try.underlying23 rfl _ _ rfl (z := q * nx1 + (2 * r * nx1 + s2.1) / (2 * s2.1)) rfl rfl hU6 NC.out (by omega) (by simp; omega) ?_)
        intro u' w7 hU7 hgr hmv
        have hK8 := hU6.kept (by omega) hK6 hgr
        have hL7 := HL6.out.grown hgr (fun e => by have := (hU6.lt p e).1; omega)
        clear hU6 hK6 hgr hmv HL6 b0 b1 b2 g0 g1 c0 c1 plt
        go_wp2
        go_roundw
        case rel => exact ⟨j + 1, by omega, by go_num, by rw [HS.out]; exact hU7, by rw [HS.out]; exact hL7, hK8⟩
        case measure => simp [intOf]; omega
    · obtain rfl : j = l.length := by omega
      clear hlt
      rw [List.take_length] at hU hL
      obtain ⟨au, cu, hu, _⟩ := id hU.is
      subst hu
      generalize hu : Value.slice au (mmS l).1.length cu = u at *
      clear hu
      generalize mmS l = s at *
      obtain ⟨s1, s2⟩ := s
      simp only at hU hL
      obtain ⟨⟨b0, b1, b2⟩, g0, g1⟩ := id hL
      obtain ⟨⟨r0, r1, r2⟩, h0, h1⟩ := HR.out.later hK
      have nq : w.heap.size ≠ p := by omega
      have U9 := Lib.hid ((hU.mono (show w.heap.size + 1 ≤ p + 1 by omega)).other (p := w.heap.size) (o := 0) (by omega) (.int .i64 s2.1) |>.other (p := w.heap.size) (o := 1) (by omega) (.int .i64 s2.2))
      have K9 := Lib.hid (((hKW.setAt (b := w.heap.size) (i := 0) (Nat.le_refl _) (.int .i64 s2.1))).setAt (b := w.heap.size) (i := 1) (Nat.le_refl _) (.int .i64 s2.2))
      clear hU hL hK hKW hp
      go_wp2
      go_region
      all_goals go_wp2
      all_goals exact bodyPost_ret (v := .tuple #[u, .agg #[.int .i64 s2.1, .int .i64 s2.2]]) (by simp [results, Try.results13, go_sem, r1, r2]) rfl ⟨u, rfl, (U9.out.mono (by omega)).later (Kept.drew (Kept.refl _)), K9.out.drew⟩
end Go.Proofs.Ytiilljdeplihoaa
