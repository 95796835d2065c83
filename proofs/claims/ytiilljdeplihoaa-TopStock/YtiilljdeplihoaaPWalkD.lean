/-
  What package stock's meanCost and Mean return. No condition but those that each theorem names.
-/
import Derived.Test.YtiilljdeplihoaaPWalkC
namespace Go.Proofs.Ytiilljdeplihoaa
open Go.RowKit
set_option linter.unusedVariables false

/-- A box of two numbers that may be written. -/
structure LBx (w : World) (p : Nat) (x : Mv) : Prop where
  box : JBx w p x
  f0 : w.frozen? ⟨p, 0, none⟩ = false
  f1 : w.frozen? ⟨p, 1, none⟩ = false
theorem LBx.later {w w' : World} {p : Nat} {x : Mv} (h : LBx w p x) (k : Kept w w') : LBx w' p x :=
  ⟨h.box.later k, (k.rd.2 _ _ h.box.lt).trans h.f0, (k.rd.2 _ _ h.box.lt).trans h.f1⟩
theorem LBx.new {w : World} {p : Nat} (hp : w.heap.size = p) (x : Mv) (t : TypeId) : LBx (w.alloc (.cells #[.int .i64 x.1, .int .i64 x.2] t)) p x := by
  subst hp; exact ⟨JBx.new rfl x t, by simp, by simp⟩
theorem LBx.two {w : World} {p : Nat} {x : Mv} (h : LBx w p x) (a b : Int) : LBx ((w.setCell ⟨p, 0, none⟩ (.int .i64 a)).setCell ⟨p, 1, none⟩ (.int .i64 b)) p (a, b) := by
  obtain ⟨⟨h0, h1, h2⟩, f0, f1⟩ := h
  exact ⟨⟨by simpa using h0, by go_simp, by go_simp⟩, by go_simp, by go_simp⟩
theorem LBx.drewN {w : World} {p : Nat} {x : Mv} (h : LBx w p x) (n : Nat) : LBx (w.drewN n) p x := ⟨⟨h.box.lt, h.box.c0, h.box.c1⟩, h.f0, h.f1⟩
theorem LBx.grown {w w' : World} {r : Option Nat} {p : Nat} {x : Mv} (h : LBx w p x) (hg : w.grownBy w' r) (hr : r ≠ some p) : LBx w' p x := by
  obtain ⟨⟨h0, h1, h2⟩, f0, f1⟩ := h
  have k := fun o => cell_grown hg h0 hr o
  exact ⟨⟨Nat.lt_of_lt_of_le h0 hg.size, (k 0).1.trans h1, (k 1).1.trans h2⟩, (k 0).2.trans f0, (k 1).2.trans f1⟩
/-- What is known of the numbers of a mean. -/
theorem mn_facts {s : Mv} {n : Int} (hc : 0 < s.1) (hc2 : s.1 ≤ 40000000) (hk : 0 ≤ s.2) (hk2 : s.2 ≤ 40000000000000) (h0 : 0 ≤ n) (hn : n ≤ s.1) (hn2 : n ≤ 1000000) :
    ∃ q r, q = s.2 / s.1 ∧ r = s.2 % s.1 ∧ s.2.tdiv s.1 = q ∧ s.2.tmod s.1 = r ∧ mnC s n = q * n + (2 * r * n + s.1) / (2 * s.1) ∧ 0 ≤ q ∧ q ≤ s.2 ∧ 0 ≤ r ∧ r < s.1 ∧ 0 ≤ q * n ∧ q * n ≤ s.2 ∧ 0 ≤ 2 * r * n ∧ 2 * r * n ≤ 80000000000000 ∧
      (2 * r * n + s.1).tdiv (2 * s.1) = (2 * r * n + s.1) / (2 * s.1) ∧ 0 ≤ (2 * r * n + s.1) / (2 * s.1) ∧ (2 * r * n + s.1) / (2 * s.1) ≤ 2 * r * n + s.1 := by
  have q0 : 0 ≤ s.2 / s.1 := Int.ediv_nonneg hk (by omega)
  have r0 := Int.emod_nonneg s.2 (show s.1 ≠ 0 by omega)
  have r1 := Int.emod_lt_of_pos s.2 hc
  have e : s.1 * (s.2 / s.1) + s.2 % s.1 = s.2 := Int.mul_ediv_add_emod s.2 s.1
  have q1 : s.2 / s.1 * n ≤ s.2 / s.1 * s.1 := Int.mul_le_mul_of_nonneg_left hn q0
  have q2 : 0 ≤ s.2 / s.1 * n := Int.mul_nonneg q0 h0
  have q3 : s.2 / s.1 * s.1 = s.1 * (s.2 / s.1) := Int.mul_comm _ _
  have q4 : s.2 / s.1 ≤ s.2 := Int.ediv_le_self _ hk
  have r2 : 0 ≤ s.2 % s.1 * n := Int.mul_nonneg r0 h0
  have r3 : s.2 % s.1 * n ≤ 40000000 * 1000000 := Int.mul_le_mul (by omega) hn2 h0 (by omega)
  have r4 : 2 * (s.2 % s.1) * n = 2 * (s.2 % s.1 * n) := by rw [Int.mul_assoc]
  have t0 : 0 ≤ 2 * (s.2 % s.1) * n + s.1 := by omega
  exact ⟨_, _, rfl, rfl, Int.tdiv_eq_ediv_of_nonneg hk, Int.tmod_eq_emod_of_nonneg hk, rfl, q0, q4, r0, r1, q2, by omega, by omega, by omega, Int.tdiv_eq_ediv_of_nonneg t0, Int.ediv_nonneg t0 (by omega), Int.ediv_le_self _ t0⟩
set_option maxHeartbeats 4000000 in
theorem meanCost_any (s : Mv) (n : Int) (w : World) (hc : 0 < s.1) (hc2 : s.1 ≤ 40000000) (hk : 0 ≤ s.2) (hk2 : s.2 ≤ 40000000000000) (h0 : 0 ≤ n) (hn : n ≤ s.1) (hn2 : n ≤ 1000000) :
    Calls Try.prog 28 #[.agg #[.int .i64 s.1, .int .i64 s.2], .int .i64 n] w fun e w' => e = .returned (.int .i64 (mnC s n)) ∧ Kept w w' := by
  obtain ⟨q, r, rfl, rfl, td, tm, E, q0, q1, r0, r1, p0, p1, o0, o1, t2, d0, d1⟩ := mn_facts hc hc2 hk hk2 h0 hn hn2
  have n1 : ¬ s.1 = 0 := by omega
  have n2 : ¬ 2 * s.1 = 0 := by omega
  have z1 : (s.1 == 0) = false := by rw [beq_eq_false_iff_ne]; omega
  have z2 : (2 * s.1 == 0) = false := by rw [beq_eq_false_iff_ne]; omega
  have w1 : IntKind.i64.wrap (s.2 / s.1) = (s.2 / s.1) := IntWalk.i64_in _ (by omega)
  have w2 : IntKind.i64.wrap (s.2 % s.1) = (s.2 % s.1) := IntWalk.i64_in _ (by omega)
  have w3 : IntKind.i64.wrap ((s.2 / s.1) * n) = (s.2 / s.1) * n := IntWalk.i64_in _ (by omega)
  have w4 : IntKind.i64.wrap (2 * (s.2 % s.1)) = 2 * (s.2 % s.1) := IntWalk.i64_in _ (by omega)
  have w5 : IntKind.i64.wrap (2 * (s.2 % s.1) * n) = 2 * (s.2 % s.1) * n := IntWalk.i64_in _ (by omega)
  have w6 : IntKind.i64.wrap (2 * (s.2 % s.1) * n + s.1) = 2 * (s.2 % s.1) * n + s.1 := IntWalk.i64_in _ (by omega)
  have w7 : IntKind.i64.wrap (2 * s.1) = 2 * s.1 := IntWalk.i64_in _ (by omega)
  have w8 : IntKind.i64.wrap ((2 * (s.2 % s.1) * n + s.1) / (2 * s.1)) = (2 * (s.2 % s.1) * n + s.1) / (2 * s.1) := IntWalk.i64_in _ (by omega)
  have w9 : IntKind.i64.wrap ((s.2 / s.1) * n + (2 * (s.2 % s.1) * n + s.1) / (2 * s.1)) = (s.2 / s.1) * n + (2 * (s.2 % s.1) * n + s.1) / (2 * s.1) := IntWalk.i64_in _ (by omega)
  have EE := Lib.hid E
  obtain ⟨⟨b0, b1, b2⟩, _, _⟩ := LBx.new (w := w) rfl s 29
  have kA := (Kept.refl w).alloc (.cells #[.int .i64 s.1, .int .i64 s.2] 29)
  clear E hc hc2 hk hk2 h0 hn hn2 q0 q1 r0 r1 p0 p1 o0 o1 d0 d1
  go_enter Try.func28, Try.ntmps28
  go_wp2
  go_quiet (fail)
  go_wp2
  go_ret
  exact ⟨ret_int EE.out.symm, kA.drewN _⟩
/-- A row of the call's own beside a box that is written. -/
theorem QRow.other {α : Type} {E : Jec α} {B p o : Nat} {w : World} {v : Value} {l : List α} (h : QRow E B w v l) (hp : p < B) (u : Value) : QRow E B (w.setCell ⟨p, o, none⟩ u) v l :=
  h.grown (grownBy_setAt w p o u) (fun k hk e => by have := (h.lt k hk).1; simp at e; omega)
theorem QRow.drewN {α : Type} {E : Jec α} {B : Nat} {w : World} {v : Value} {l : List α} (h : QRow E B w v l) (n : Nat) : QRow E B (w.drewN n) v l := h.later ((Kept.refl w).drewN n)
/-- Mean's answer where there is no error. -/
def MeanPost (w : World) (s : List Int × Mv) (e : Ending) (w' : World) : Prop :=
  ∃ u, e = .returned (.tuple #[u, .agg #[.int .i64 s.2.1, .int .i64 s.2.2], .int .i64 0]) ∧ QRow eI w.heap.size w' u s.1 ∧ Kept w w'
abbrev lotO : Obj := .cells #[.int .i64 0, .int .i64 0] 29
set_option maxHeartbeats 4000000 in
theorem mean_no (a : Option Addr) (l : List Mv) (cap : Nat) (w : World) (hn : l.length ≤ maxLen) (hA : JArg eP w a l) (er : skE l ≠ 0) :
    Calls Try.prog 10 #[.slice a l.length cap] w fun e w' => e = .returned (.tuple #[.slice none 0 0, .agg #[.int .i64 0, .int .i64 0], .int .i64 (skE l)]) ∧ Kept w w' := by
  have ne : (skE l != 0) = true := by simpa using er
  have CK := Lib.hid (skc_any a l cap (w.alloc lotO) hn (hA.later ((Kept.refl w).alloc _)))
  have HR := Lib.hid (LBx.new (w := w) rfl (0, 0) 29)
  have HK := Lib.hid ((Kept.refl w).alloc lotO)
  clear er hA
  generalize skE l = er at *
  go_enter Try.func10, Try.ntmps10
  go_wp2_with fail
  refine CK.out.mono ?_
  rintro e w1 ⟨rfl, hK1⟩
  obtain ⟨⟨r0, r1, r2⟩, g0, g1⟩ := HR.out.later hK1
  have hK2 := HK.out.trans hK1
  clear hK1
  go_wp2
  exact bodyPost_ret (v := .tuple #[.slice none 0 0, .agg #[.int .i64 0, .int .i64 0], .int .i64 er]) (by simp [results, Try.results10, go_sem, r1, r2]) rfl ⟨rfl, (hK2.setAt (Nat.le_refl _) _).setAt (Nat.le_refl _) _⟩
set_option maxRecDepth 100000 in
set_option maxHeartbeats 8000000 in
theorem mean_yes (a : Option Addr) (l : List Mv) (cap : Nat) (w : World) (hA : JArg eP w a l) (ok : MvOk l) :
    Calls Try.prog 10 #[.slice a l.length cap] w (MeanPost w (mmS l)) := by
  have hn : l.length ≤ maxLen := by have := ok.len; unfold maxLen; omega
  have CK := Lib.hid (show Calls Try.prog 26 #[.slice a l.length cap] (w.alloc lotO) fun e w' => e = .returned (.int .i64 0) ∧ Kept (w.alloc lotO) w' from by
    have := skc_any a l cap (w.alloc lotO) hn (hA.later ((Kept.refl w).alloc _))
    rwa [ok.e] at this)
  have l40 := ok.len
  have FF := Lib.hid (mmS_ok ok)
  have MV := Lib.hid ok.mv
  have HA := Lib.hid hA
  have HR := Lib.hid (LBx.new (w := w) rfl (0, 0) 29)
  have HK := Lib.hid ((Kept.refl w).alloc lotO)
  have CS := Lib.hid (fun j => MvOk.csm (l := l.take j) (fun m hm => ok.mv m (List.mem_of_mem_take hm)))
  have CT := Lib.hid (fun j => MvOk.cnt (l := l.take j) (fun m hm => ok.mv m (List.mem_of_mem_take hm)))
  have NX := Lib.hid (fun j (h : j < l.length) => show 0 ≤ cnt (l.take j) + (l[j]).1 from by
    have := ok.st (j + 1) h
    rw [take_snocP l j h, cnt_app, cnt, cnt] at this
    omega)
  have CN := Lib.hid (fun j (h : j < l.length) => show cnt (l.take (j + 1)) = cnt (l.take j) + (l[j]).1 ∧ csm (l.take (j + 1)) = csm (l.take j) + (l[j]).2 from by
    rw [take_snocP l j h, cnt_app, cnt, cnt, csm_app, csm, csm]
    omega)
  clear ok hA hn
  go_enter Try.func10, Try.ntmps10
  go_wp2_with fail
  refine CK.out.mono ?_
  rintro e w1 ⟨rfl, hK1⟩
  have HK1 := Lib.hid (HK.out.trans hK1)
  have HR1 := Lib.hid (HR.out.later hK1)
  have hle : w.heap.size < w1.heap.size := HR1.out.box.lt
  have HL := Lib.hid (LBx.new (w := w1) rfl (0, 0) 29)
  have KL := Lib.hid ((Kept.refl w1).alloc lotO)
  clear hK1 HR HK
  go_wp2
  generalize hp : w1.heap.size = p at *
  go_loopw [6, 19] (fun u i wr => ∃ j : Nat, j ≤ l.length ∧ i = .int .i64 j ∧ QRow eI (p + 1) wr u (mmS (l.take j)).1 ∧ LBx wr p (mmS (l.take j)).2 ∧ Kept w1 wr) (fun _ i _ => l.length - (intOf i).toNat)
  case atStart => exact ⟨0, Nat.zero_le _, rfl, QRow.nil _ _ _, HL.out, KL.out⟩
  case round =>
    obtain ⟨j, hj, rfl, hU, hL, hK⟩ := hrel
    have hKW := HK1.out.trans hK
    by_cases hlt : j < l.length
    · obtain ⟨pp, off, rfl, hR⟩ := (HA.out.later hKW).at hlt
      have c0 := hR.c0 j hlt
      have c1 := hR.c1 j hlt
      have plt := hR.lt
      have SN := Lib.hid (mmS_at hlt)
      obtain ⟨f1, f2, f3, f4, f5, f6, f7⟩ := FF.out j hj
      have ps := sumI_pos f5
      rw [List.length_take, Nat.min_eq_left hj] at f7
      have nx := NX.out j hlt
      have cs := CS.out j
      have cs2 := CS.out (j + 1)
      have ct := CT.out j
      have ct2 := CT.out (j + 1)
      have cn := CN.out j hlt
      rw [List.length_take, Nat.min_eq_left hj] at cs ct
      rw [List.length_take, Nat.min_eq_left (by omega)] at cs2 ct2
      obtain ⟨m1, m2, m3, m4, m5, m6⟩ := ckM_ok (MV.out _ (List.getElem_mem hlt))
      clear hR
      generalize l[j] = x at *
      rw [cn.1] at ct2
      rw [cn.2] at cs2
      clear cn
      generalize cnt (l.take j) = cc at *
      generalize csm (l.take j) = cm at *
      generalize mmS (l.take j) = s at *
      obtain ⟨s1, s2⟩ := s
      simp only at hU hL f1 f2 f3 f4 f5 f6 f7 ps
      obtain ⟨au, cu, hu, _⟩ := id hU.is
      subst hu
      generalize hu : Value.slice au s1.length cu = u at *
      clear hu
      have kA := (Kept.refl wr).alloc (.cells #[.int .i64 x.1, .int .i64 x.2] 40)
      have plt2 := hL.box.lt
      have np : wr.heap.size ≠ p := by omega
      by_cases pos : 0 < x.1
      · have HS := Lib.hid (show mmS (l.take (j + 1)) = (s1, (s2.1 + x.1, s2.2 + x.2)) by rw [SN.out]; unfold mmT; rw [if_pos pos])
        have w1' : IntKind.i64.wrap (s2.1 + x.1) = s2.1 + x.1 := IntWalk.i64_in _ (by omega)
        have w2' : IntKind.i64.wrap (s2.2 + x.2) = s2.2 + x.2 := IntWalk.i64_in _ (by omega)
        have L2 := Lib.hid ((hL.two (s2.1 + x.1) (s2.2 + x.2)).later ((Kept.refl _).alloc (.cells #[.int .i64 x.1, .int .i64 x.2] 40)))
        have U2 := Lib.hid (((hU.other (p := p) (o := 0) (by omega) (.int .i64 (s2.1 + x.1))).other (p := p) (o := 1) (by omega) (.int .i64 (s2.2 + x.2))).later ((Kept.refl _).alloc (.cells #[.int .i64 x.1, .int .i64 x.2] 40)))
        have K2 := Lib.hid (((hK.setAt (b := p) (i := 0) (by omega) (.int .i64 (s2.1 + x.1))).setAt (b := p) (i := 1) (by omega) (.int .i64 (s2.2 + x.2))).alloc (.cells #[.int .i64 x.1, .int .i64 x.2] 40))
        obtain ⟨⟨b0, b1, b2⟩, g0, g1⟩ := id hL
        clear SN f1 f2 f3 f4 m6 nx hU hL hK kA hKW f5 f6 f7 ps cs cs2 ct ct2
        go_wp2
        go_roundw
        case rel => exact ⟨j + 1, by omega, by go_num, by rw [HS.out]; exact U2.out, by rw [HS.out]; exact L2.out, K2.out⟩
        case measure => simp [intOf]; omega
      · have HS := Lib.hid (show mmS (l.take (j + 1)) = (s1 ++ [mnC s2 (-x.1)], (s2.1 + x.1, s2.2 - mnC s2 (-x.1))) by rw [SN.out]; unfold mmT; rw [if_neg pos])
        have w1' : IntKind.i64.wrap (-x.1) = -x.1 := IntWalk.i64_in _ (by omega)
        have w2' : IntKind.i64.wrap (s2.1 + x.1) = s2.1 + x.1 := IntWalk.i64_in _ (by omega)
        obtain ⟨mb0, mb1⟩ := mnC_bd (s := s2) (n := -x.1) (by omega) f2 (by omega) (by omega)
        have MC := Lib.hid (meanCost_any s2 (-x.1) (wr.alloc (.cells #[.int .i64 x.1, .int .i64 x.2] 40)) (by omega) (by omega) f2 (by omega) (by omega) (by omega) (by omega))
        have w3' : IntKind.i64.wrap (s2.2 - mnC s2 (-x.1)) = s2.2 - mnC s2 (-x.1) := IntWalk.i64_in _ (by omega)
        have HB := Lib.hid (JBx.new (w := wr) rfl x 40)
        have HL4 := Lib.hid (hL.later kA)
        have HU4 := Lib.hid (hU.later kA)
        have HK4 := Lib.hid (hK.trans kA)
        obtain ⟨⟨b0, b1, b2⟩, g0, g1⟩ := hL.later kA
        clear SN f1 f2 f3 f4 m6 nx hU hL hK kA hKW f5 f6 ps cs cs2 ct ct2
        generalize mnC s2 (-x.1) = mc at *
        go_wp2_with fail
        refine MC.out.mono ?_
        rintro e w5 ⟨rfl, hK5⟩
        clear b0 b1 b2 g0 g1
        obtain ⟨⟨b0, b1, b2⟩, g0, g1⟩ := HL4.out.later hK5
        obtain ⟨x0, x1, x2⟩ := HB.out.later hK5
        have hpw : w1.heap.size ≤ w5.heap.size := (HK4.out.trans hK5).le
        have hU5 := ((HU4.out.later hK5).other (p := p) (o := 0) (by omega) (.int .i64 (s2.1 + x.1))).other (p := p) (o := 1) (by omega) (.int .i64 (s2.2 - mc))
        have hL5 := (HL4.out.later hK5).two (s2.1 + x.1) (s2.2 - mc)
        have hK6 := ((HK4.out.trans hK5).setAt (b := p) (i := 0) (by omega) (.int .i64 (s2.1 + x.1))).setAt (b := p) (i := 1) (by omega) (.int .i64 (s2.2 - mc))
        have hU6 := hU5.later ((Kept.refl _).alloc (.cells #[.int .i64 mc] 3))
        have hL6 := Lib.hid (hL5.later ((Kept.refl _).alloc (.cells #[.int .i64 mc] 3)))
        have hK7 := hK6.alloc (.cells #[.int .i64 mc] 3)
        have NC := Lib.hid (one_cells (w := (w5.setCell ⟨p, 0, none⟩ (.int .i64 (s2.1 + x.1))).setCell ⟨p, 1, none⟩ (.int .i64 (s2.2 - mc))) (p := w5.heap.size) (x := mc) (by simp) 3)
        clear hU5 hL5 hK6 HU4 HK4 HL4 MC hK5
        go_wp2_with (at_builtin; refine app_q eI 3 23 _ 8 isInt rfl (by decide) Try.underlying23 rfl _ _ rfl (z := mc) rfl rfl hU6 NC.out (by omega) (by simp; omega) ?_)
        intro u' w7 hU7 hgr hmv
        have hK8 := hU6.kept (by omega) hK7 hgr
        have hL7 := hL6.out.grown hgr (fun e => by have := (hU6.lt p e).1; omega)
        clear hU6 hK7 hgr hmv hL6 b0 b1 b2 g0 g1 x0 x1 x2 c0 c1 plt
        go_wp2
        go_roundw
        case rel => exact ⟨j + 1, by omega, by go_num, by rw [HS.out]; exact hU7, by rw [HS.out]; exact hL7, hK8⟩
        case measure => simp [intOf]; omega
    · obtain rfl : j = l.length := by omega
      clear hlt
      rw [List.take_length] at hU hL
      obtain ⟨au, cu, hu, _⟩ := id hU.is
      subst hu
      generalize hu : Value.slice au (mmS l).1.length cu = u at *
      clear hu
      generalize mmS l = s at *
      obtain ⟨s1, s2⟩ := s
      simp only at hU hL
      obtain ⟨⟨b0, b1, b2⟩, g0, g1⟩ := id hL
      obtain ⟨⟨r0, r1, r2⟩, h0, h1⟩ := HR1.out.later hK
      have nq : w.heap.size ≠ p := by omega
      have U9 := Lib.hid ((hU.mono (show w.heap.size + 1 ≤ p + 1 by omega)).other (p := w.heap.size) (o := 0) (by omega) (.int .i64 s2.1) |>.other (p := w.heap.size) (o := 1) (by omega) (.int .i64 s2.2))
      have K9 := Lib.hid (((hKW.setAt (b := w.heap.size) (i := 0) (Nat.le_refl _) (.int .i64 s2.1))).setAt (b := w.heap.size) (i := 1) (Nat.le_refl _) (.int .i64 s2.2))
      clear hU hL hK hKW
      go_wp2
      go_region
      all_goals go_wp2
      all_goals exact bodyPost_ret (v := .tuple #[u, .agg #[.int .i64 s2.1, .int .i64 s2.2], .int .i64 0]) (by simp [results, Try.results10, go_sem, r1, r2]) rfl ⟨u, rfl, (U9.out.mono (by omega)).later (Kept.drew (Kept.refl _)), K9.out.drew⟩
end Go.Proofs.Ytiilljdeplihoaa
