/-
  The law TieSelf: for all items and a number it answers true; nothing that was there is turned. No condition but those that each theorem names.
-/
import Derived.Test.YtdgiljndoeldcaaGTieL
namespace Go.Proofs.Ytdgiljndoeldcaa
open Go.RowKit Go.Sort
set_option linter.unusedVariables false

theorem isItemT : IsE eP 31 (.agg #[.int .i64 0, .int .i64 0]) 16 := by unfold IsE; kernel_rfl
/-- Items of other amounts. -/
def shf (l : List Mv) : List Mv := l.map fun x => (x.1, x.2 + 500000000000)
theorem shf_len (l : List Mv) : (shf l).length = l.length := by simp [shf]
theorem shf_snoc (l : List Mv) (j : Nat) (h : j < l.length) : shf (l.take (j + 1)) = shf (l.take j) ++ [((l[j]).1, (l[j]).2 + 500000000000)] := by
  unfold shf; rw [take_snocP l j h, List.map_append]; rfl
theorem shf_ok {l : List Mv} (ok : ItOk l) (h : ∀ x ∈ l, x.2 ≤ 500000000000) : ItOk (shf l) := by
  refine ⟨by rw [shf_len]; exact ok.len, fun y hy => ?_⟩
  obtain ⟨x, hx, rfl⟩ := List.mem_map.1 hy
  have := ok.it x hx
  have := h x hx
  simp only
  omega
theorem shf_apart {l : List Mv} (ok : ItOk l) (h : ∀ x ∈ l, x.2 ≤ 500000000000) : ∀ x ∈ l, ∀ y ∈ shf l, x.2 ≠ y.2 := by
  intro x hx y hy
  obtain ⟨z, hz, rfl⟩ := List.mem_map.1 hy
  have := h x hx
  have := ok.it z hz
  simp only
  omega
set_option maxRecDepth 100000 in
set_option maxHeartbeats 8000000 in
theorem tieSelf_walk (a : Option Addr) (l : List Mv) (cap : Nat) (k1 : Int) (w : World) (hA : JArg eP w a l) (hc : l.length ≤ cap) (hn : cap ≤ maxLen) (z : a = none → cap = 0) :
    Calls Try.prog 13 #[.slice a l.length cap, .int .i64 k1] w fun e w' => e = .returned (.bool true) ∧ Below w.heap.size w w' := by
  obtain ⟨W1, hW1⟩ : ∃ W1, W1 = (w.alloc (.cells #[.int .i64 0, .int .i64 1] 31)).alloc (.cells #[.int .i64 0, .int .i64 2] 31) := ⟨_, rfl⟩
  have KA : Kept w W1 := by rw [hW1]; exact ((Kept.refl w).alloc _).alloc _
  have F0 : Calls Try.prog 23 #[.slice (some ⟨w.heap.size, 0, none⟩) 1 1, .slice (some ⟨w.heap.size + 1, 0, none⟩) 1 1, .int .i64 9] W1 (TiePost W1 [-1]) := by
    rw [hW1]
    obtain ⟨q1, q2⟩ := lit2 (w := w) [(0, 1)] [(0, 2)] #[.int .i64 0, .int .i64 1] #[.int .i64 0, .int .i64 2] rfl rfl
    exact tie_is _ _ [(0, 1)] [(0, 2)] 1 1 1 1 9 _ [-1] rfl rfl q1 q2 (ti_ok (by decide +kernel)) (by decide +kernel)
  have F0 := Lib.hid F0
  have HW1 := Lib.hid hW1
  clear hW1
  have HA := Lib.hid hA
  have hl : l.length ≤ maxLen := Nat.le_trans hc hn
  clear hA
  go_enter Try.func13, Try.ntmps13
  go_wp2_with fail
  rw [← HW1.out]
  refine F0.out.mono ?_
  rintro e w1 ⟨g, rfl, hg, hO, hK0⟩
  have hK1 := KA.trans hK0
  have EQ := Lib.hid (iequal_yes [-1] (some ⟨g, 0, none⟩) (some ⟨w1.heap.size, 0, none⟩) 1 1 1 (w1.alloc (.cells #[.int .i64 (-1)] 3)) (by decide) rfl ((own_argT hO).later ((Kept.refl w1).alloc _)) (JArg.lit eI _ _ _ rfl rfl))
  have kE := hK1.alloc (.cells #[.int .i64 (-1)] 3)
  clear F0 KA HW1 hO hK0 hK1 hg
  go_wp2_with fail
  refine EQ.out.mono ?_
  rintro e w2 ⟨rfl, hK2⟩
  have hK12 := kE.trans hK2
  clear EQ kE hK2
  go_wp2_with fail
  refine (skWithin_any _ _ _ (by decide) (by decide)).mono ?_
  rintro e w3 ⟨h, h0, h1, rfl, rfl⟩
  by_cases er : itE l = 0
  · have ok := itE_iff.1 er
    have l40 : l.length ≤ 40 := ok.len
    have T1 := Lib.hid (fun (W : World) (k : Kept w W) => tie_yes a a l l cap cap h W (HA.out.later k) (HA.out.later k) ⟨ok, ok, h0, by omega⟩)
    have T2 := Lib.hid (fun (all : ∀ x ∈ l, x.2 ≤ 500000000000) (b : Option Addr) (c : Nat) (W : World) (k : Kept w W) (hB : JArg eP W b (shf l)) => tie_is a b l (shf l) l.length l.length cap c h W _ rfl (shf_len l) (HA.out.later k) hB ⟨ok, shf_ok ok all, h0, by omega⟩ rfl)
    have S1 := Lib.hid (tie_self l h0)
    have S2 := Lib.hid (fun (all : ∀ x ∈ l, x.2 ≤ 500000000000) => tie_apart l (shf l) h (shf_apart ok all))
    have L1 := Lib.hid (tieL_len l l h)
    have L2 := Lib.hid (tieL_len l (shf l) h)
    have IT := Lib.hid ok.it
    have SS := Lib.hid (shf_snoc l)
    have SF := Lib.hid (shf_len l)
    generalize tieL l l h = s at *
    generalize tieL l (shf l) h = t at *
    clear ok er
    go_wp2_with fail
    refine (T1.out _ hK12).mono ?_
    rintro e w4 ⟨g1, rfl, hg1, hO1, hK4⟩
    have hK14 := hK12.trans hK4
    have TD := Lib.hid (fun (W : World) (k : Kept w4 W) => tied_any (some ⟨g1, 0, none⟩) s s.length W (by rw [L1.out]; omega) (own_argT (hO1.later k)))
    rw [S1.out] at TD
    clear hO1 hK12 hK4 T1
    go_wp2
    go_loopw [9, 45] (fun v i wr => ∃ k : Nat, k ≤ l.length ∧ i = .int .i64 k ∧ Hid (∀ x ∈ l.take k, x.2 ≤ 500000000000) ∧ QRow eP w4.heap.size wr v (shf (l.take k)) ∧ Kept w4 wr) (fun _ i _ => l.length - (intOf i).toNat)
    case atStart => exact ⟨0, Nat.zero_le _, rfl, Lib.hid (fun x hx => by cases hx), QRow.nil _ _ _, Kept.refl _⟩
    case round =>
      obtain ⟨k, hk, rfl, HL, hQ, hK4⟩ := hrel
      have hK := hK14.trans hK4
      by_cases hlt : k < l.length
      · obtain ⟨p, off, rfl, hR⟩ := (HA.out.later hK).at hlt
        have v0 := hR.c0 k hlt
        have v1 := hR.c1 k hlt
        have plt := hR.lt
        have X := IT.out _ (List.getElem_mem hlt)
        have SN := Lib.hid (SS.out k hlt)
        have AL := Lib.hid (fun (c : (l[k]).2 ≤ 500000000000) => show ∀ x ∈ l.take (k + 1), x.2 ≤ 500000000000 from fun x hx => by
          rw [take_snocP l k hlt] at hx
          rcases List.mem_append.1 hx with q | q
          · exact HL.out x q
          · rw [List.mem_singleton] at q; rw [q]; exact c)
        have i1 : (k : Int) < (l.length : Int) := by omega
        clear hR
        generalize l[k] = x at *
        have kB := (Kept.refl wr).alloc (.cells #[.int .i64 x.1, .int .i64 x.2] 31)
        have hQ2 := hQ.later kB
        have hK4b := hK4.trans kB
        have hKb := hK.trans kB
        by_cases c : 500000000000 < x.2
        · have TD1 := Lib.hid (TD.out _ hK4b)
          go_wp2_with fail
          refine TD1.out.mono ?_
          rintro e w5 ⟨rfl, rfl⟩
          go_wp2
          go_ret
          exact ⟨rfl, hKb⟩
        · have AL2 := Lib.hid (AL.out (by omega))
          have x3 := X.2.2.1
          have u1 : IntKind.i64.wrap (x.2 + 500000000000) = x.2 + 500000000000 := IntWalk.i64_in _ (by omega)
          have bx0 : (wr.alloc (.cells #[.int .i64 x.1, .int .i64 x.2] 31)).cell? ⟨wr.heap.size, 0, none⟩ = some (.int .i64 x.1) := by simp
          have bx1 : (wr.alloc (.cells #[.int .i64 x.1, .int .i64 x.2] 31)).cell? ⟨wr.heap.size, 1, none⟩ = some (.int .i64 x.2) := by simp
          clear hQ hK4 hK AL kB
          go_upto_region 14 with fail
          generalize wr.alloc (.cells #[.int .i64 x.1, .int .i64 x.2] 31) = wa at *
          generalize wr.heap.size = bx at *
          have NC := Lib.hid (JBx.new (w := wa) rfl (x.1, x.2 + 500000000000) 31).cells
          have kC := (Kept.refl wa).alloc (.cells #[.int .i64 x.1, .int .i64 (x.2 + 500000000000)] 31)
          have hQ3 := hQ2.later kC
          have hK4c := hK4b.trans kC
          go_wp2_with (at_builtin; refine app_q eP 31 22 _ 16 isItemT rfl (by decide) Try.underlying22 rfl _ _ rfl (z := (x.1, x.2 + 500000000000)) rfl rfl hQ3 NC.out (by rw [shf_len, List.length_take]; omega) (by have := hK4c.size; omega) ?_)
          intro v' w6 hQ6 hgr hmv
          have hK46 := hQ3.kept (Nat.le_refl _) hK4c hgr
          rw [← SN.out] at hQ6
          clear hQ3 hK4c hgr hmv hQ2 hK4b hKb kC
          go_wp2
          go_roundw
          case rel => exact ⟨k + 1, by omega, by go_num, AL2, hQ6, hK46⟩
          case measure => simp [intOf]; omega
      · obtain rfl : k = l.length := by omega
        rw [List.take_length] at hQ HL
        obtain ⟨a5, c5, rfl, q1, q2, q3⟩ := id hQ.is
        have hA5 := Lib.hid hQ.arg
        have Q2 := Lib.hid (T2.out HL.out a5 c5 wr hK hA5.out)
        have Z := Lib.hid (S2.out HL.out)
        rw [SF.out]
        clear hlt q3 hQ hA5 T2
        go_wp2_with fail
        refine Q2.out.mono ?_
        rintro e w5 ⟨g2, rfl, hg2, hO2, hK5⟩
        have TD1 := Lib.hid (TD.out _ (hK4.trans hK5))
        have TE := Lib.hid (tied_any (some ⟨g2, 0, none⟩) t t.length w5 (by rw [L2.out]; omega) (own_argT hO2))
        rw [Z.out] at TE
        have hK15 := hK.trans hK5
        clear hO2 hK5 hK4 hK Q2 TD
        go_wp2_with fail
        refine TD1.out.mono ?_
        rintro e w6 ⟨rfl, rfl⟩
        go_wp2_with fail
        refine TE.out.mono ?_
        rintro e w6 ⟨rfl, rfl⟩
        go_wp2
        go_ret
        exact ⟨rfl, hK15⟩
  · have ee : tiE l l h = itE l := by unfold tiE; rw [if_neg er]
    have T1 := Lib.hid (fun (W : World) (k : Kept w W) => tie_no a a l l cap cap h W hl hl (HA.out.later k) (HA.out.later k) (by rw [ee]; exact er))
    rw [ee] at T1
    have nb : (itE l != 0) = true := by rw [bne_iff_ne]; exact er
    generalize itE l = q at *
    clear er ee
    go_wp2_with fail
    refine (T1.out _ hK12).mono ?_
    rintro e w4 ⟨rfl, hK4⟩
    go_wp2
    go_ret
    exact ⟨rfl, hK12.trans hK4⟩
end Go.Proofs.Ytdgiljndoeldcaa
