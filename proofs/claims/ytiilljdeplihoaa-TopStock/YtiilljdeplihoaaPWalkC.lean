/-
  What package stock's Fifo returns. No condition but those that each theorem names.
-/
import Derived.Test.YtiilljdeplihoaaPWalkB
namespace Go.Proofs.Ytiilljdeplihoaa
open Go.RowKit
set_option linter.unusedVariables false

theorem JBx.cells {w : World} {p : Nat} {x : Mv} (h : JBx w p x) : ∀ j u, (eP.cells x)[j]? = some u → w.cell? ⟨p, j, none⟩ = some u := by
  intro j u hj
  match j, hj with
  | 0, hj => simp [eP] at hj; subst hj; exact h.c0
  | 1, hj => simp [eP] at hj; subst hj; exact h.c1
  | k + 2, hj => simp [eP] at hj
theorem one_cells {w : World} {p : Nat} {x : Int} (hp : w.heap.size = p) (t : TypeId) : ∀ j u, (eI.cells x)[j]? = some u → (w.alloc (.cells #[.int .i64 x] t)).cell? ⟨p, j, none⟩ = some u := by
  subst hp
  intro j u hj
  match j, hj with
  | 0, hj => simp [eI] at hj; subst hj; simp
  | k + 1, hj => simp [eI] at hj
theorem isInt : IsE eI 3 (.int .i64 0) 8 := by unfold IsE; kernel_rfl
theorem isLot : IsE eP 29 (.agg #[.int .i64 0, .int .i64 0]) 16 := by unfold IsE; kernel_rfl
/-- Fifo's answer where there is no error: two rows of its own, apart. -/
def FifoPost (w : World) (s : List Int × List Mv) (e : Ending) (w' : World) : Prop :=
  ∃ u v, e = .returned (.tuple #[u, v, .int .i64 0]) ∧ QRow eI w.heap.size w' u s.1 ∧ QRow eP w.heap.size w' v s.2 ∧ ApartQ u v ∧ Kept w w'
set_option maxHeartbeats 4000000 in
theorem fifo_no (a : Option Addr) (l : List Mv) (cap : Nat) (w : World) (hn : l.length ≤ maxLen) (hA : JArg eP w a l) (er : skE l ≠ 0) :
    Calls Try.prog 9 #[.slice a l.length cap] w fun e w' => e = .returned (.tuple #[.slice none 0 0, .slice none 0 0, .int .i64 (skE l)]) ∧ Kept w w' := by
  have ne : (skE l != 0) = true := by simpa using er
  have CK := Lib.hid (skc_any a l cap w hn hA)
  clear er hA
  generalize skE l = er at *
  go_enter Try.func9, Try.ntmps9
  go_wp2_with fail
  refine CK.out.mono ?_
  rintro e w1 ⟨rfl, hK1⟩
  go_wp2
  exact bodyPost_ret (v := .tuple #[.slice none 0 0, .slice none 0 0, .int .i64 er]) (by simp [results, Try.results9, go_sem]) rfl ⟨rfl, hK1⟩
set_option maxRecDepth 100000 in
set_option maxHeartbeats 8000000 in
theorem fifo_yes (a : Option Addr) (l : List Mv) (cap : Nat) (w : World) (hA : JArg eP w a l) (ok : MvOk l) :
    Calls Try.prog 9 #[.slice a l.length cap] w (FifoPost w (ffS l)) := by
  have hn : l.length ≤ maxLen := by have := ok.len; unfold maxLen; omega
  have CK := Lib.hid (show Calls Try.prog 26 #[.slice a l.length cap] w fun e w' => e = .returned (.int .i64 0) ∧ Kept w w' from by
    have := skc_any a l cap w hn hA
    rwa [ok.e] at this)
  have l40 := ok.len
  have FF := Lib.hid (ffS_ok ok)
  have MV := Lib.hid ok.mv
  have HA := Lib.hid hA
  have NX := Lib.hid (fun j (h : j < l.length) => show 0 ≤ cnt (l.take j) + (l[j]).1 from by
    have := ok.st (j + 1) h
    rw [take_snocP l j h, cnt_app, cnt, cnt] at this
    omega)
  clear ok hA hn
  go_enter Try.func9, Try.ntmps9
  go_wp2_with fail
  refine CK.out.mono ?_
  rintro e w1 ⟨rfl, hK1⟩
  go_wp2
  go_loopw [6, 7, 18] (fun u v i wr => ∃ j : Nat, j ≤ l.length ∧ i = .int .i64 j ∧ QRow eI w.heap.size wr u (ffS (l.take j)).1 ∧ QRow eP w.heap.size wr v (ffS (l.take j)).2 ∧ ApartQ u v ∧ Kept w wr) (fun _ _ i _ => l.length - (intOf i).toNat)
  case atStart => exact ⟨0, Nat.zero_le _, rfl, QRow.nil _ _ _, QRow.nil _ _ _, ApartQ.nilR _, hK1⟩
  case round =>
    clear hK1
    obtain ⟨j, hj, rfl, hU, hV, hAp, hK⟩ := hrel
    by_cases hlt : j < l.length
    · obtain ⟨p, off, rfl, hR⟩ := (HA.out.later hK).at hlt
      have c0 := hR.c0 j hlt
      have c1 := hR.c1 j hlt
      have plt := hR.lt
      have SN := Lib.hid (ffS_at hlt)
      obtain ⟨f1, f2, f3, f4, f5, f6⟩ := FF.out j hj
      rw [List.length_take, Nat.min_eq_left hj] at f5 f6
      have nx := NX.out j hlt
      obtain ⟨m1, m2, m3, m4, m5, m6⟩ := ckM_ok (MV.out _ (List.getElem_mem hlt))
      clear hR
      generalize l[j] = x at *
      generalize cnt (l.take j) = cc at *
      generalize ffS (l.take j) = s at *
      obtain ⟨s1, s2⟩ := s
      simp only at hU hV f1 f2 f4 f5 f6
      obtain ⟨au, cu, hu, _⟩ := id hU.is
      obtain ⟨av, cv, hv, _⟩ := id hV.is
      subst hu hv
      generalize hu : Value.slice au s1.length cu = u at *
      generalize hv : Value.slice av s2.length cv = v at *
      clear hu hv
      have kA := (Kept.refl wr).alloc (.cells #[.int .i64 x.1, .int .i64 x.2] 40)
      by_cases pos : 0 < x.1
      · have HS := Lib.hid (show ffS (l.take (j + 1)) = (s1, s2 ++ [x]) by rw [SN.out]; unfold ffT; rw [if_pos pos])
        have kB := kA.alloc (.cells #[.int .i64 x.1, .int .i64 x.2] 29)
        have hV4 := hV.later kB
        have hU4 := Lib.hid (hU.later kB)
        have hK4 := hK.trans kB
        have NC := Lib.hid (JBx.new (w := wr.alloc (.cells #[.int .i64 x.1, .int .i64 x.2] 40)) (p := wr.heap.size + 1) (by simp) x 29).cells
        clear SN f1 f2 f3 f4 m6 nx
        go_wp2_with (at_builtin; refine app_q eP 29 24 _ 16 isLot rfl (by decide) Try.underlying24 rfl _ _ rfl (z := x) rfl rfl hV4 NC.out (by omega) (by have := hK4.size; omega) ?_)
        intro v' w6 hV6 hgr hmv
        have hK6 := hV4.kept (Nat.le_refl _) hK4 hgr
        have hU6 := hAp.symm.keep hU4.out hgr
        have hA6 := (hAp.symm.moved hmv hU4.out).symm
        clear hV4 hK4 hgr hmv c0 c1 plt hV hU hK kA kB
        go_wp2
        go_roundw
        case rel => exact ⟨j + 1, by omega, by go_num, by rw [HS.out]; exact hU6, by rw [HS.out]; exact hV6, hA6, hK6⟩
        case measure => simp [intOf]; omega
      · have HS := Lib.hid (show ffS (l.take (j + 1)) = (s1 ++ [tkC s2 (-x.1)], tkL s2 (-x.1)) by rw [SN.out]; unfold ffT; rw [if_neg pos])
        have w1 : IntKind.i64.wrap (-x.1) = -x.1 := IntWalk.i64_in _ (by omega)
        have TK := Lib.hid (take_any v s2 (-x.1) w.heap.size (wr.alloc (.cells #[.int .i64 x.1, .int .i64 x.2] 40)) (hV.later kA) f1 (by omega) (by omega) (by omega))
        have hU4 := Lib.hid (hU.later kA)
        have hK4 := Lib.hid (hK.trans kA)
        have hVA := Lib.hid (hV.later kA)
        clear SN f1 f2 f3 f4 m6 nx hV hU hK kA
        go_wp2_with fail
        refine TK.out.mono ?_
        rintro e w5 ⟨v', rfl, hV5, hob, hgr⟩
        generalize tkC s2 (-x.1) = tc at *
        generalize tkL s2 (-x.1) = tl at *
        have hK5 := hVA.out.kept (Nat.le_refl _) hK4.out hgr
        have hU5 := hAp.symm.keep hU4.out hgr
        have hA5 : ApartQ u v' := fun k e1 e2 => hAp k e1 (hob ▸ e2)
        have kC := (Kept.refl w5).alloc (.cells #[.int .i64 tc] 3)
        have hU6 := hU5.later kC
        have hV6 := Lib.hid (hV5.later kC)
        have hK6 := hK5.trans kC
        have NC := Lib.hid (one_cells (w := w5) (x := tc) rfl 3)
        clear hU5 hK5 hgr hob c0 c1 plt kC TK hVA hU4 hK4 hV5
        go_wp2_with (at_builtin; refine app_q eI 3 23 _ 8 isInt rfl (by decide) Try.underlying23 rfl _ _ rfl (z := tc) rfl rfl hU6 NC.out (by omega) (by have := hK6.size; omega) ?_)
        intro u' w7 hU7 hgr hmv
        have hK7 := hU6.kept (Nat.le_refl _) hK6 hgr
        have hV7 := hA5.keep hV6.out hgr
        have hA7 := hA5.moved hmv hV6.out
        clear hU6 hK6 hgr hmv
        go_wp2
        go_roundw
        case rel => exact ⟨j + 1, by omega, by go_num, by rw [HS.out]; exact hU7, by rw [HS.out]; exact hV7, hA7, hK7⟩
        case measure => simp [intOf]; omega
    · obtain rfl : j = l.length := by omega
      clear hlt
      rw [List.take_length] at hU hV
      obtain ⟨au, cu, hu, _⟩ := id hU.is
      obtain ⟨av, cv, hv, _⟩ := id hV.is
      subst hu hv
      generalize hu : Value.slice au (ffS l).1.length cu = u at *
      generalize hv : Value.slice av (ffS l).2.length cv = v at *
      clear hu hv
      go_wp2
      exact bodyPost_ret (v := .tuple #[u, v, .int .i64 0]) (by simp [results, Try.results9, go_sem]) rfl ⟨_, _, rfl, hU, hV, hAp, hK⟩
end Go.Proofs.Ytiilljdeplihoaa
