/-
  What the reference's Fifo returns. No condition but those that each theorem names.
-/
import Derived.Test.YtiilljdeplihoaaPRefA
namespace Go.Proofs.Ytiilljdeplihoaa
open Go.RowKit
set_option linter.unusedVariables false

theorem isSpan : IsE e3 69 (.agg #[.int .i64 0, .int .i64 0, .int .i64 0]) 24 := by unfold IsE; kernel_rfl
/-- A box of three numbers. -/
structure TBx (w : World) (p : Nat) (x : Sp) : Prop where
  lt : p < w.heap.size
  c0 : w.cell? ⟨p, 0, none⟩ = some (.int .i64 x.1)
  c1 : w.cell? ⟨p, 1, none⟩ = some (.int .i64 x.2.1)
  c2 : w.cell? ⟨p, 2, none⟩ = some (.int .i64 x.2.2)
theorem TBx.later {w w' : World} {p : Nat} {x : Sp} (h : TBx w p x) (k : Kept w w') : TBx w' p x :=
  ⟨Nat.lt_of_lt_of_le h.lt k.le, (k.rd.1 _ _ h.lt).trans h.c0, (k.rd.1 _ _ h.lt).trans h.c1, (k.rd.1 _ _ h.lt).trans h.c2⟩
theorem TBx.new {w : World} {p : Nat} (hp : w.heap.size = p) (x : Sp) (t : TypeId) : TBx (w.alloc (.cells #[.int .i64 x.1, .int .i64 x.2.1, .int .i64 x.2.2] t)) p x := by
  subst hp; exact ⟨by simp, by simp, by simp, by simp⟩
theorem TBx.cells {w : World} {p : Nat} {x : Sp} (h : TBx w p x) : ∀ j u, (e3.cells x)[j]? = some u → w.cell? ⟨p, j, none⟩ = some u := by
  intro j u hj
  match j, hj with
  | 0, hj => simp [e3] at hj; subst hj; exact h.c0
  | 1, hj => simp [e3] at hj; subst hj; exact h.c1
  | 2, hj => simp [e3] at hj; subst hj; exact h.c2
  | k + 3, hj => simp [e3] at hj
theorem e3_set : ∀ (l : List Sp) (i : Nat) (h : i < l.length) (x : Sp), e3.cat (l.set i x) = (((e3.cat l).set (i * 3) (.int .i64 x.1)).set (i * 3 + 1) (.int .i64 x.2.1)).set (i * 3 + 2) (.int .i64 x.2.2)
  | y :: r, 0, _, x => rfl
  | y :: r, i + 1, h, x => by
    rw [List.set_cons_succ, Jec.cat, e3_set r i (by simpa using h) x, Jec.cat]
    have e : (e3.cells y).length = 3 := rfl
    rw [List.set_append_right _ _ (by rw [e]; omega), List.set_append_right _ _ (by rw [e]; omega), List.set_append_right _ _ (by rw [e]; omega), e,
      show (i + 1) * 3 - 3 = i * 3 by omega, show (i + 1) * 3 + 1 - 3 = i * 3 + 1 by omega, show (i + 1) * 3 + 2 - 3 = i * 3 + 2 by omega]
/-- One span written. -/
theorem QMem.span {w : World} {p off c : Nat} {l : List Sp} (h : QMem e3 w p off c l) {i : Nat} (hi : i < l.length) (x : Sp) :
    QMem e3 (((w.setCell ⟨p, off + i * 3, none⟩ (.int .i64 x.1)).setCell ⟨p, off + i * 3 + 1, none⟩ (.int .i64 x.2.1)).setCell ⟨p, off + i * 3 + 2, none⟩ (.int .i64 x.2.2)) p off c (l.set i x) := by
  have hk : e3.k = 3 := rfl
  have len : (e3.cat l).length = l.length * 3 := by rw [e3.cat_len, hk]
  -- through the cells alone
  have key : ∀ (w : World) (cs : List Value) (o : Nat) (u : Value), p < w.heap.size → (∀ j v, cs[j]? = some v → w.cell? ⟨p, off + j, none⟩ = some v) → (∀ j, j < c * e3.k → (w.cell? ⟨p, off + j, none⟩).isSome = true ∧ w.frozen? ⟨p, off + j, none⟩ = false) → o < cs.length →
      p < (w.setCell ⟨p, off + o, none⟩ u).heap.size ∧ (∀ j v, (cs.set o u)[j]? = some v → (w.setCell ⟨p, off + o, none⟩ u).cell? ⟨p, off + j, none⟩ = some v) ∧ (∀ j, j < c * e3.k → ((w.setCell ⟨p, off + o, none⟩ u).cell? ⟨p, off + j, none⟩).isSome = true ∧ (w.setCell ⟨p, off + o, none⟩ u).frozen? ⟨p, off + j, none⟩ = false) := by
    intro w cs o u hp hcs hroom ho
    obtain ⟨u0, hu0⟩ : ∃ u0, w.cell? ⟨p, off + o, none⟩ = some u0 := ⟨_, hcs o _ (List.getElem?_eq_getElem ho)⟩
    refine ⟨Nat.lt_of_lt_of_le hp (grownBy_setAt w p (off + o) u).size, fun j v hj => ?_, fun j hj => ?_⟩
    · by_cases e : o = j
      · subst e
        rw [List.getElem?_set_self ho] at hj
        rw [World.cell?_setCell_same _ _ _ hu0]; exact hj
      · rw [List.getElem?_set_ne e] at hj
        rw [World.cell?_setCell_other _ _ _ _ (fun q => e (by have := congrArg Addr.off q; dsimp only at this; omega))]
        exact hcs j v hj
    · rw [World.frozen?_setCell]
      refine ⟨?_, (hroom j hj).2⟩
      by_cases e : o = j
      · subst e
        rw [World.cell?_setCell_same _ _ _ hu0]; rfl
      · rw [World.cell?_setCell_other _ _ _ _ (fun q => e (by have := congrArg Addr.off q; dsimp only at this; omega))]
        exact (hroom j hj).1
  obtain ⟨a1, a2, a3⟩ := key w (e3.cat l) (i * 3) (.int .i64 x.1) h.row.lt h.row.c h.room (by omega)
  obtain ⟨b1, b2, b3⟩ := key _ _ (i * 3 + 1) (.int .i64 x.2.1) a1 a2 a3 (by simp; omega)
  obtain ⟨c1, c2, c3⟩ := key _ _ (i * 3 + 2) (.int .i64 x.2.2) b1 b2 b3 (by simp; omega)
  rw [← e3_set l i hi x] at c2
  simp only [← Nat.add_assoc] at c1 c2 c3
  exact ⟨⟨c1, c2⟩, c3⟩
theorem QMem.frozen3 {w : World} {p off c : Nat} {l : List Sp} (h : QMem e3 w p off c l) (hc : l.length ≤ c) {i : Nat} (hi : i < l.length) : w.frozen? ⟨p, off + i * 3, none⟩ = false ∧ w.frozen? ⟨p, off + i * 3 + 1, none⟩ = false ∧ w.frozen? ⟨p, off + i * 3 + 2, none⟩ = false := by
  have hk : c * e3.k = c * 3 := rfl
  have a := (h.room (i * 3) (by omega)).2
  have b := (h.room (i * 3 + 1) (by omega)).2
  have d := (h.room (i * 3 + 2) (by omega)).2
  rw [← Nat.add_assoc] at b d
  exact ⟨a, b, d⟩
theorem QRow.span {B : Nat} {w : World} {q qo n c : Nat} {l : List Sp} (h : QRow e3 B w (.slice (some ⟨q, qo, none⟩) n c) l) {i : Nat} (hi : i < l.length) (x : Sp) :
    QRow e3 B (((w.setCell ⟨q, qo + i * 3, none⟩ (.int .i64 x.1)).setCell ⟨q, qo + i * 3 + 1, none⟩ (.int .i64 x.2.1)).setCell ⟨q, qo + i * 3 + 2, none⟩ (.int .i64 x.2.2)) (.slice (some ⟨q, qo, none⟩) n c) (l.set i x) := by
  obtain ⟨a', c', e, h1, h2, h3⟩ := h.is
  obtain ⟨rfl, rfl, rfl⟩ : a' = some ⟨q, qo, none⟩ ∧ l.length = n ∧ c' = c := by simp at e; exact ⟨e.1.symm, e.2.1.symm, e.2.2.symm⟩
  rcases h3 with ⟨h3, _⟩ | ⟨p, off, h3, hb, hm⟩
  · cases h3
  · obtain ⟨rfl, rfl⟩ : q = p ∧ qo = off := by simpa using h3
    exact ⟨_, _, by rw [List.length_set], by rw [List.length_set]; exact h1, h2, .inr ⟨_, _, rfl, hb, hm.span hi x⟩⟩
theorem QRow.beside {α : Type} {E : Jec α} {B : Nat} {w : World} {q a b c : Nat} {u v1 v2 v3 : Value} {l : List α} (h : QRow E B w u l) (hu : u.ownBlock ≠ some q) :
    QRow E B (((w.setCell ⟨q, a, none⟩ v1).setCell ⟨q, b, none⟩ v2).setCell ⟨q, c, none⟩ v3) u l :=
  h.grown (grownBy_trans (grownBy_trans (grownBy_setAt w q a v1) (grownBy_setAt _ q b v2)) (grownBy_setAt _ q c v3)) (fun k hk e => hu (by rw [hk, e]))
theorem spS_bd (g t : Int) : ∀ {S : List Sp}, (∀ s ∈ S, SpOk s) → 0 ≤ spS g t S ∧ spS g t S ≤ 1000000000000 * (S.length : Int)
  | [], _ => by simp [spS]
  | s :: r, h => by
    have h1 := (h s (List.mem_cons_self ..)).part g t
    have h2 := (h s (List.mem_cons_self ..)).c1
    have h3 := spS_bd g t (S := r) (fun x hx => h x (List.mem_cons_of_mem _ hx))
    rw [spS, List.length_cons]; omega
/-- The reference's answer: two rows of its own. -/
def RfPost (w : World) (s : List Int × List Mv) (e : Ending) (w' : World) : Prop :=
  ∃ u v, e = .returned (.tuple #[u, v]) ∧ QRow eI w.heap.size w' u s.1 ∧ QRow eP w.heap.size w' v s.2 ∧ Kept w w'
set_option maxRecDepth 100000 in
set_option maxHeartbeats 8000000 in
theorem rfifo_yes (a : Option Addr) (l : List Mv) (cap : Nat) (w : World) (hA : JArg eP w a l) (ok : MvOk l) :
    Calls Try.prog 12 #[.slice a l.length cap] w (RfPost w (ffS l)) := by
  have l40 := ok.len
  have FF := Lib.hid (ffS_ok ok)
  have MV := Lib.hid ok.mv
  have HA := Lib.hid hA
  have NX := Lib.hid (fun j (h : j < l.length) => show 0 ≤ cnt (l.take j) + (l[j]).1 from by
    have := ok.st (j + 1) h
    rw [take_snocP l j h, cnt_app, cnt, cnt] at this
    omega)
  clear ok hA
  go_enter Try.func12, Try.ntmps12
  go_wp2
  go_loopw [4, 5, 6, 7, 22] (fun sp n g u i wr => ∃ (j : Nat) (S : List Sp) (nn gg : Int), j ≤ l.length ∧ i = .int .i64 j ∧ n = .int .i64 nn ∧ g = .int .i64 gg ∧ Hid (RfOk (l.take j) S nn gg) ∧ QRow e3 w.heap.size wr sp S ∧ QRow eI w.heap.size wr u (ffS (l.take j)).1 ∧ ApartQ sp u ∧ Kept w wr) (fun _ _ _ _ i _ => l.length - (intOf i).toNat)
  case atStart => exact ⟨0, [], 0, 0, Nat.zero_le _, rfl, rfl, rfl, Lib.hid RfOk.nil, QRow.nil _ _ _, QRow.nil _ _ _, ApartQ.nilR _, Kept.refl _⟩
  case round =>
    obtain ⟨j, S, n, g, hj, rfl, rfl, rfl, HR, hS, hU, hAp, hK⟩ := hrel
    obtain ⟨ch, spo, lv, n1, g0, gn, ct, ln⟩ := HR.out
    rw [List.length_take, Nat.min_eq_left hj] at n1 ln
    obtain ⟨asp, csp, hv, hcs, _⟩ := id hS.is
    subst hv
    obtain ⟨au, cu, hv, _⟩ := id hU.is
    subst hv
    by_cases hlt : j < l.length
    · obtain ⟨p, off, rfl, hR⟩ := (HA.out.later hK).at hlt
      have c0 := hR.c0 j hlt
      have c1 := hR.c1 j hlt
      have plt := hR.lt
      have SN := Lib.hid (ffS_at hlt)
      have TS := Lib.hid (take_snocP l j hlt)
      have nx := NX.out j hlt
      have hm := MV.out _ (List.getElem_mem hlt)
      have f5 := (FF.out j hj).l1
      rw [List.length_take, Nat.min_eq_left hj] at f5
      obtain ⟨m1, m2, m3, m4, m5, m6⟩ := ckM_ok hm
      have HM := Lib.hid hm
      clear hR hm
      generalize l[j] = x at *
      have HTL := Lib.hid (show (l.take j).length = j by rw [List.length_take]; omega)
      by_cases pos : 0 < x.1
      · have kA := (Kept.refl wr).alloc (.cells #[.int .i64 x.1, .int .i64 x.2] 40)
        have kB := kA.alloc (.cells #[.int .i64 n, .int .i64 (n + x.1), .int .i64 x.2] 69)
        have RN := Lib.hid (show RfOk (l.take (j + 1)) (S ++ [(n, n + x.1, x.2)]) (n + x.1) g by rw [TS.out]; exact HR.out.recv HM.out pos (by rw [HTL.out]; omega))
        have UF := Lib.hid (show (ffS (l.take (j + 1))).1 = (ffS (l.take j)).1 by rw [SN.out]; unfold ffT; rw [if_pos pos])
        have hS4 := hS.later kB
        have hU4 := Lib.hid (hU.later kB)
        have hK4 := hK.trans kB
        have u1 : IntKind.i64.wrap (n + x.1) = n + x.1 := IntWalk.i64_in _ (by omega)
        have HBX := Lib.hid ((LBx.new (w := wr) rfl x 40).later ((Kept.refl _).alloc (.cells #[.int .i64 n, .int .i64 (n + x.1), .int .i64 x.2] 69)))
        have hsb := fun e => (hS.lt wr.heap.size e).2
        have NC := Lib.hid (TBx.new (w := wr.alloc (.cells #[.int .i64 x.1, .int .i64 x.2] 40)) (p := wr.heap.size + 1) (by simp) (n, n + x.1, x.2) 69).cells
        clear ch spo lv SN
        go_wp2_with (at_builtin; refine app_q e3 69 67 _ 24 isSpan rfl (by decide) Try.underlying67 rfl _ _ rfl (z := (n, n + x.1, x.2)) rfl rfl hS4 NC.out (by omega) (by have := hK4.size; omega) ?_)
        intro v' w6 hS6 hgr hmv
        have hK6 := hS4.kept (Nat.le_refl _) hK4 hgr
        have hU6 := hAp.keep hU4.out hgr
        have hA6 := hAp.moved hmv hU4.out
        obtain ⟨⟨y0, y1, y2⟩, _, _⟩ := HBX.out.grown hgr (fun e => by have := hsb e; omega)
        clear hS4 hK4 hgr hmv c0 c1 plt hS hU hK kA kB
        go_wp2
        go_roundw
        case rel => exact ⟨j + 1, S ++ [(n, n + x.1, x.2)], n + x.1, g, by omega, by go_num, rfl, rfl, RN.out, hS6, by rw [UF.out]; exact hU6, hA6, hK6⟩
        case measure => simp [intOf]; omega
      · have kA := (Kept.refl wr).alloc (.cells #[.int .i64 x.1, .int .i64 x.2] 40)
        obtain ⟨rn, ss⟩ := HR.out.send HM.out pos nx
        have RN := Lib.hid (show RfOk (l.take (j + 1)) (S.map (spN g (g - x.1))) n (g - x.1) by rw [TS.out]; exact rn)
        have UF := Lib.hid (show (ffS (l.take (j + 1))).1 = (ffS (l.take j)).1 ++ [spS g (g - x.1) S] by rw [SN.out]; unfold ffT; rw [if_neg pos, ss])
        have u1 : IntKind.i64.wrap (g - x.1) = g - x.1 := IntWalk.i64_in _ (by omega)
        have hS4 := Lib.hid (hS.later kA)
        have hU4 := Lib.hid (hU.later kA)
        have hK4 := Lib.hid (hK.trans kA)
        have SPO := Lib.hid spo
        have t0 : 0 ≤ g - x.1 := by omega
        have t1 : g - x.1 ≤ 40000000 := by omega
        have g1 : g ≤ 40000000 := by omega
        clear ch spo lv SN rn ss hS hU hK n1 ct nx kA
        generalize hou : (ffS (l.take j)).1 = outs at *
        clear hou
        go_wp2
        generalize g - x.1 = t at *
        clear u1
        generalize hW5 : wr.alloc (.cells #[.int .i64 x.1, .int .i64 x.2] 40) = W5 at *
        clear hW5
        go_loopw [11, 50] (fun c i wq => ∃ k : Nat, k ≤ S.length ∧ i = .int .i64 k ∧ c = .int .i64 (spS g t (S.take k)) ∧ QRow e3 w.heap.size wq (.slice asp S.length csp) (mixN g t S k) ∧ QRow eI w.heap.size wq (.slice au outs.length cu) outs ∧ Kept w wq) (fun _ i _ => S.length - (intOf i).toNat)
        case atStart => exact ⟨0, Nat.zero_le _, rfl, rfl, by rw [mixN_zero]; exact hS4.out, hU4.out, hK4.out⟩
        case round =>
          clear hS4 hU4 hK4 c0 c1 plt
          obtain ⟨k, hk, rfl, rfl, hM, hU, hK⟩ := hrel
          have sb := spS_bd g t (S := S.take (k + 1)) (fun s hs => SPO.out s (List.mem_of_mem_take hs))
          rw [List.length_take] at sb
          by_cases hlt2 : k < S.length
          · obtain ⟨q, qo, rfl, hb, hMM, hcc⟩ : ∃ q qo, asp = some ⟨q, qo, none⟩ ∧ w.heap.size ≤ q ∧ QMem e3 wr q qo csp (mixN g t S k) ∧ S.length ≤ csp := by
              obtain ⟨a', c', e, h1, h2, h3⟩ := hM.is
              obtain ⟨rfl, _, rfl⟩ : asp = a' ∧ S.length = (mixN g t S k).length ∧ csp = c' := by simpa using e
              rw [mixN_len] at h1
              rcases h3 with ⟨_, h3⟩ | ⟨q, qo, e2, hb, hm⟩
              · omega
              · exact ⟨q, qo, e2, hb, hm, h1⟩
            have hu : (Value.slice au outs.length cu).ownBlock ≠ some q := fun e => hAp q rfl e
            have hkm : k < (mixN g t S k).length := by rw [mixN_len]; exact hlt2
            have x0 := hMM.row.t0 k hkm
            have x1 := hMM.row.t1 k hkm
            have x2 := hMM.row.t2 k hkm
            rw [mixN_at g t S hlt2] at x0 x1 x2
            obtain ⟨f0, f1, f2⟩ := hMM.frozen3 (by rw [mixN_len]; exact hcc) hkm
            have qlt := hMM.row.lt
            have SK := Lib.hid (show spS g t (S.take (k + 1)) = spS g t (S.take k) + spP g t S[k] by rw [take_snocP S k hlt2, spS_app, spS, spS]; omega)
            have MX := Lib.hid (mixN_next g t S hlt2)
            have MS := Lib.hid (fun h => mixN_same g t S hlt2 h)
            have HMM2 := Lib.hid hMM
            have HM2 := Lib.hid hM
            have HU2 := Lib.hid hU
            have HK2 := Lib.hid hK
            have so := SPO.out _ (List.getElem_mem hlt2)
            rw [SK.out] at sb
            clear hMM hM hU hK
            generalize S[k] = s at *
            have pb := so.part g t
            obtain ⟨s0, s1, s2, s3, s4, s5⟩ := so
            have hmx : (if s.1 < g then g else s.1) = spA g s := rfl
            have hmn : (if t < s.2.1 then t else s.2.1) = spB t s := rfl
            have A1 : s.1 ≤ spA g s := by unfold spA; split <;> omega
            have A2 : spA g s ≤ 40000000 := by unfold spA; split <;> omega
            have B1 : spB t s ≤ s.2.1 := by unfold spB; split <;> omega
            have B0 : 0 ≤ spB t s := by unfold spB; split <;> omega
            have HSP := Lib.hid (show spP g t s = if spB t s ≤ spA g s then 0 else if spB t s < s.2.1 then s.2.2 * (spB t s - spA g s) / (s.2.1 - spA g s) else s.2.2 from rfl)
            have HSN2 := Lib.hid (show spN g t s = if spB t s ≤ spA g s then s else (spB t s, s.2.1, s.2.2 - spP g t s) from rfl)
            generalize spA g s = A at *
            generalize spB t s = B at *
            generalize spS g t (S.take k) = cs at *
            generalize spP g t s = P at *
            generalize spN g t s = N at *
            go_wp2
            go_quiet (fail)
            have kW := ((Kept.refl wr).alloc (.cells #[.int .i64 s.1, .int .i64 s.2.1, .int .i64 s.2.2] 69)).drewN nq
            have HBX := Lib.hid ((TBx.new (w := wr) rfl s 69).later ((Kept.refl _).drewN nq))
            have hQ6 := HM2.out.later kW
            have hU6 := HU2.out.later kW
            have hK6 := HK2.out.trans kW
            have hM6 := HMM2.out.later kW
            clear x0 x1 x2 f0 f1 f2 qlt HMM2 HM2 HU2 HK2 kW hmx hmn
            generalize (wr.alloc (.cells #[.int .i64 s.1, .int .i64 s.2.1, .int .i64 s.2.2] 69)).drewN nq = W6 at *
            obtain ⟨y0, y1, y2, y3⟩ := HBX.out
            have x0 := hM6.row.t0 k hkm
            have x1 := hM6.row.t1 k hkm
            have x2 := hM6.row.t2 k hkm
            obtain ⟨f0, f1, f2⟩ := hM6.frozen3 (by rw [mixN_len]; exact hcc) hkm
            have i0 : (0 : Int) ≤ (k : Int) := by omega
            have i1 : (k : Int) < (S.length : Int) := by omega
            have HSN := Lib.hid (fun (y : Sp) => QRow.span hQ6 hkm y)
            have HUB := Lib.hid (fun (y : Sp) => QRow.beside (a := qo + k * 3) (b := qo + k * 3 + 1) (c := qo + k * 3 + 2) (v1 := .int .i64 y.1) (v2 := .int .i64 y.2.1) (v3 := .int .i64 y.2.2) hU6 hu)
            have HKK := Lib.hid (fun (y : Sp) => ((hK6.setAt (b := q) (i := qo + k * 3) hb (.int .i64 y.1)).setAt (b := q) (i := qo + k * 3 + 1) hb (.int .i64 y.2.1)).setAt (b := q) (i := qo + k * 3 + 2) hb (.int .i64 y.2.2))
            have HQ6 := Lib.hid hQ6
            have HU6 := Lib.hid hU6
            have HK6 := Lib.hid hK6
            clear hQ6 hU6 hK6 hM6 HBX hu
            by_cases ba : B ≤ A
            · have HP0 := Lib.hid (show P = 0 by rw [HSP.out, if_pos ba])
              have MSB := Lib.hid (MS.out ba)
              clear HSN2 HSP HSN HUB HKK x0 x1 x2 f0 f1 f2 MX MS
              go_wp2
              go_roundw
              case rel => exact ⟨k + 1, by omega, by go_num, by rw [SK.out, HP0.out, Int.add_zero], by rw [MSB.out]; exact HQ6.out, HU6.out, HK6.out⟩
              case measure => simp [intOf]; omega
            · have nab : A < B := by omega
              by_cases bs : B < s.2.1
              · have HP := Lib.hid (show P = s.2.2 * (B - A) / (s.2.1 - A) by rw [HSP.out, if_neg ba, if_pos bs])
                have HN := Lib.hid (show N = (B, s.2.1, s.2.2 - P) by rw [HSN2.out, if_neg ba])
                have q0 : 0 ≤ s.2.2 * (B - A) := Int.mul_nonneg s4 (by omega)
                have q1 : s.2.2 * (B - A) ≤ 1000000000000 * 1000000 := Int.mul_le_mul s5 (by omega) (by omega) (by omega)
                have td : (s.2.2 * (B - A)).tdiv (s.2.1 - A) = P := by rw [HP.out]; exact Int.tdiv_eq_ediv_of_nonneg q0
                have td2 : s.2.2 * (B - A) / (s.2.1 - A) = P := HP.out.symm
                have w1 : IntKind.i64.wrap (B - A) = B - A := IntWalk.i64_in _ (by omega)
                have w2 : IntKind.i64.wrap (s.2.2 * (B - A)) = s.2.2 * (B - A) := IntWalk.i64_in _ (by omega)
                have w3 : IntKind.i64.wrap (s.2.1 - A) = s.2.1 - A := IntWalk.i64_in _ (by omega)
                have w4 : IntKind.i64.wrap P = P := IntWalk.i64_in _ (by omega)
                have w5 : IntKind.i64.wrap (s.2.2 - P) = s.2.2 - P := IntWalk.i64_in _ (by omega)
                have w6 : IntKind.i64.wrap (cs + P) = cs + P := IntWalk.i64_in _ (by omega)
                have z1 : (s.2.1 - A == 0) = false := by rw [beq_eq_false_iff_ne]; omega
                have z2 : ¬ s.2.1 - A = 0 := by omega
                have E1 := Lib.hid (HSN.out (B, s.2.1, s.2.2 - P))
                have E2 := Lib.hid (HUB.out (B, s.2.1, s.2.2 - P))
                have E3 := Lib.hid (HKK.out (B, s.2.1, s.2.2 - P))
                clear HSN2 HSP HSN HUB HKK MS q0 q1 HP HQ6 HU6 HK6
                go_wp2
                go_roundw
                case rel => exact ⟨k + 1, by omega, by go_num, by rw [SK.out], by rw [MX.out, HN.out]; exact E1.out, E2.out, E3.out⟩
                case measure => simp [intOf]; omega
              · have bs2 : B = s.2.1 := by omega
                have HP := Lib.hid (show P = s.2.2 by rw [HSP.out, if_neg ba, if_neg bs])
                have HN := Lib.hid (show N = (B, s.2.1, 0) by rw [HSN2.out, if_neg ba, HP.out, Int.sub_self])
                have w6 : IntKind.i64.wrap (cs + s.2.2) = cs + s.2.2 := IntWalk.i64_in _ (by rw [HP.out] at sb; omega)
                have E1 := Lib.hid (HSN.out (B, s.2.1, 0))
                have E2 := Lib.hid (HUB.out (B, s.2.1, 0))
                have E3 := Lib.hid (HKK.out (B, s.2.1, 0))
                clear HSN2 HSP HSN HUB HKK MS HQ6 HU6 HK6 bs2
                go_wp2
                go_roundw
                case rel => exact ⟨k + 1, by omega, by go_num, by rw [SK.out, HP.out], by rw [MX.out, HN.out]; exact E1.out, E2.out, E3.out⟩
                case measure => simp [intOf]; omega
          · obtain rfl : k = S.length := by omega
            rw [mixN_end] at hM
            rw [List.take_length]
            clear hlt2
            have hk0 := (Kept.refl wr).alloc (.cells #[.int .i64 (spS g t S)] 3)
            have HM4 := Lib.hid (hM.later hk0)
            have hU4 := hU.later hk0
            have hK4 := hK.trans hk0
            have NC := Lib.hid (one_cells (w := wr) (x := spS g t S) rfl 3)
            have HAP := Lib.hid hAp
            clear hM hU hK hk0 sb hAp
            generalize spS g t S = cs at *
            go_wp2_with (at_builtin; refine app_q eI 3 23 _ 8 isInt rfl (by decide) Try.underlying23 rfl _ _ rfl (z := cs) rfl rfl hU4 NC.out (by omega) (by have := hK4.size; omega) ?_)
            intro u' w7 hU7 hgr hmv
            have hK7 := hU4.kept (Nat.le_refl _) hK4 hgr
            have hM7 := HAP.out.symm.keep HM4.out hgr
            have hA7 := (HAP.out.symm.moved hmv HM4.out).symm
            clear hU4 hK4 hgr hmv HM4
            go_wp2
            go_roundw
            case rel => exact ⟨j + 1, S.map (spN g t), n, t, by omega, by go_num, rfl, rfl, RN.out, by rw [show S.length = (S.map (spN g t)).length by simp] at hM7; simpa using hM7, by rw [UF.out]; exact hU7, by simpa using hA7, hK7⟩
            case measure => simp [intOf]; omega
    · obtain rfl : j = l.length := by omega
      rw [List.take_length] at hU lv ⊢
      have SPO := Lib.hid spo
      have LV := Lib.hid lv
      have LT := Lib.hid (fun k (h : k < S.length) => show live (S.take (k + 1)) = live (S.take k) ++ (if (S[k]).1 < (S[k]).2.1 then [((S[k]).2.1 - (S[k]).1, (S[k]).2.2)] else []) from by
        rw [take_snocP S k h, live_app]; simp [live])
      clear hlt ch spo lv HR n1 ct g0 gn hAp
      generalize hou : (ffS l).1 = outs at *
      have HOU := Lib.hid hou
      clear hou
      go_wp2
      go_loopw [17, 106] (fun v i wq => ∃ (k : Nat) (lo : List Mv), k ≤ S.length ∧ i = .int .i64 k ∧ lo.length ≤ k ∧ Hid (lo = live (S.take k)) ∧ QRow eP w.heap.size wq v lo ∧ QRow e3 w.heap.size wq (.slice asp S.length csp) S ∧ QRow eI w.heap.size wq (.slice au outs.length cu) outs ∧ ApartQ v (.slice asp S.length csp) ∧ ApartQ v (.slice au outs.length cu) ∧ Kept w wq) (fun _ i _ => S.length - (intOf i).toNat)
      case atStart => exact ⟨0, [], Nat.zero_le _, rfl, Nat.le_refl _, Lib.hid rfl, QRow.nil _ _ _, hS, hU, (ApartQ.nilR _).symm, (ApartQ.nilR _).symm, hK⟩
      case round =>
        clear hS hU hK
        obtain ⟨k, lo, hk, rfl, hlo, HLO, hV, hS, hU, hA1, hA2, hK⟩ := hrel
        obtain ⟨av, cv, hv, _⟩ := id hV.is
        subst hv
        by_cases hlt : k < S.length
        · obtain ⟨q, qo, rfl, hR⟩ := hS.arg.at hlt
          have x0 := hR.t0 k hlt
          have x1 := hR.t1 k hlt
          have x2 := hR.t2 k hlt
          have qlt := hR.lt
          have LK := Lib.hid (LT.out k hlt)
          obtain ⟨s0, s1, s2, s3, s4, s5⟩ := SPO.out _ (List.getElem_mem hlt)
          clear hR
          generalize S[k] = s at *
          have kA := (Kept.refl wr).alloc (.cells #[.int .i64 s.1, .int .i64 s.2.1, .int .i64 s.2.2] 69)
          by_cases pos : s.1 < s.2.1
          · have LN := Lib.hid (show lo ++ [(s.2.1 - s.1, s.2.2)] = live (S.take (k + 1)) by rw [LK.out, if_pos pos, HLO.out])
            have kB := kA.alloc (.cells #[.int .i64 (s.2.1 - s.1), .int .i64 s.2.2] 29)
            have hV4 := hV.later kB
            have HS4 := Lib.hid (hS.later kB)
            have HU4 := Lib.hid (hU.later kB)
            have hK4 := hK.trans kB
            have u1 : IntKind.i64.wrap (s.2.1 - s.1) = s.2.1 - s.1 := IntWalk.i64_in _ (by omega)
            have NC := Lib.hid (JBx.new (w := wr.alloc (.cells #[.int .i64 s.1, .int .i64 s.2.1, .int .i64 s.2.2] 69)) (p := wr.heap.size + 1) (by simp) (s.2.1 - s.1, s.2.2) 29).cells
            clear hV hS hU hK kA kB HLO
            go_wp2_with (at_builtin; refine app_q eP 29 24 _ 16 isLot rfl (by decide) Try.underlying24 rfl _ _ rfl (z := (s.2.1 - s.1, s.2.2)) rfl rfl hV4 NC.out (by omega) (by have := hK4.size; omega) ?_)
            intro v' w6 hV6 hgr hmv
            have hK6 := hV4.kept (Nat.le_refl _) hK4 hgr
            have hS6 := hA1.keep HS4.out hgr
            have hU6 := hA2.keep HU4.out hgr
            have hB1 := hA1.moved hmv HS4.out
            have hB2 := hA2.moved hmv HU4.out
            clear hV4 hK4 hgr hmv x0 x1 x2 qlt
            go_wp2
            go_roundw
            case rel => exact ⟨k + 1, lo ++ [(s.2.1 - s.1, s.2.2)], by omega, by go_num, by simp; omega, LN, hV6, hS6, hU6, hB1, hB2, hK6⟩
            case measure => simp [intOf]; omega
          · have LN := Lib.hid (show lo = live (S.take (k + 1)) by rw [LK.out, if_neg pos, HLO.out]; simp)
            have HV4 := Lib.hid (hV.later kA)
            have HS4 := Lib.hid (hS.later kA)
            have HU4 := Lib.hid (hU.later kA)
            have HK4 := Lib.hid (hK.trans kA)
            clear hV hS hU hK kA HLO
            go_wp2
            go_roundw
            case rel => exact ⟨k + 1, lo, by omega, by go_num, by omega, LN, HV4.out, HS4.out, HU4.out, hA1, hA2, HK4.out⟩
            case measure => simp [intOf]; omega
        · obtain rfl : k = S.length := by omega
          have EL : lo = (ffS l).2 := by rw [HLO.out, List.take_length, LV.out]
          clear hlt
          go_wp2
          exact bodyPost_ret (v := .tuple #[.slice au outs.length cu, .slice av lo.length cv]) (by simp [results, Try.results12, go_sem]) rfl ⟨_, _, rfl, by rw [HOU.out]; exact hU, by rw [← EL]; exact hV, hK⟩
end Go.Proofs.Ytiilljdeplihoaa
