/-
  The law TieWider: for all items and numbers it answers true; nothing that was there is turned. No condition but those that each theorem names.
-/
import Derived.Test.YtdgiljndoeldcaaGTieL
import Derived.Deep.AppendLies
namespace Go.Proofs.Ytdgiljndoeldcaa
open Go.RowKit Go.WideShapes Go.Sort
set_option linter.unusedVariables false

theorem isItemW : IsE eP 31 (.agg #[.int .i64 0, .int .i64 0]) 16 := by unfold IsE; kernel_rfl
/-- A row of items of the call's own, as a whole block. -/
def PGr (B : Nat) (w : World) (v : Value) (l : List Mv) : Prop := w.ownsRow B 31 2 v l.length (eP.cat l)
theorem PGr.later {B : Nat} {w w' : World} {v : Value} {l : List Mv} (a : PGr B w v l) (k : Kept w w') : PGr B w' v l := by
  refine ⟨a.1, ?_⟩
  rcases a.2 with h | ⟨b, cap, cur, rfl, hb, hh, hr⟩
  · exact .inl h
  · exact .inr ⟨b, cap, cur, rfl, hb, (k.block b (Array.getElem?_eq_some_iff.1 hh).1).trans hh, hr⟩
theorem PGr.mono {B B' : Nat} {w : World} {v : Value} {l : List Mv} (a : PGr B w v l) (h : B' ≤ B) : PGr B' w v l := by
  refine ⟨a.1, ?_⟩
  rcases a.2 with h | ⟨b, cap, cur, rfl, hb, hh, hr⟩
  · exact .inl h
  · exact .inr ⟨b, cap, cur, rfl, by omega, hh, hr⟩
theorem PGr.lt {B : Nat} {w : World} {v : Value} {l : List Mv} (a : PGr B w v l) : ∀ j, v.ownBlock = some j → B ≤ j ∧ j < w.heap.size := by
  intro j hj
  rcases a.2 with ⟨rfl, _⟩ | ⟨b, cap, cur, rfl, hb, hh, hr⟩
  · cases hj
  · simp [Value.ownBlock] at hj
    subst hj
    exact ⟨hb, (Array.getElem?_eq_some_iff.1 hh).1⟩
theorem PGr.arg {B c : Nat} {w : World} {a : Option Addr} {l : List Mv} (hl : l ≠ []) (h : PGr B w (.slice a l.length c) l) : JArg eP w a l := (ownsRow_q (E := eP) (T := 31) hl h).arg
set_option maxHeartbeats 2000000 in
theorem pclone_any (a : Option Addr) (l : List Mv) (cap : Nat) (w : World) (hn : l.length ≤ 1000) (hA : JArg eP w a l) (z : a = none → cap = 0) :
    Calls Try.prog 30 #[.slice a l.length cap] w fun e w' => ∃ v, e = .returned v ∧ PGr w.heap.size w' v l ∧ Kept w w' := by
  have hK := (Kept.refl w).alloc (.cells #[] 31)
  obtain ⟨i0, hi, hz0, hz1, hz2⟩ := info_parts isItemW
  have hz1' : i0.size = 2 := hz1
  by_cases h0 : l = []
  · subst h0
    cases a with
    | none =>
      rw [z rfl]
      have ne : ∀ w : World, (binOp .eql 22 (.slice none 0 0) (.slice none 0 0)).run Try.prog w = .ok (.bool true) w := fun w => by
        rw [Lib.run_eql_slice_nil w 22 31 _ 0 0 0 0 Try.underlying22]; rfl
      have N0 := Lib.hid (show PGr w.heap.size w (.slice none 0 0) [] from World.ownsRow_nil w _ _ _)
      clear hA
      go_enter Try.func30, Try.ntmps30
      go_wp2
      go_ret
      exact ⟨_, rfl, N0.out, Kept.refl _⟩
    | some ad =>
      have ne : ∀ w : World, (binOp .eql 22 (.slice (some ad) 0 cap) (.slice none 0 0)).run Try.prog w = .ok (.bool false) w := fun w => by
        rw [Lib.run_eql_slice_nil w 22 31 _ 0 cap 0 0 Try.underlying22]; rfl
      have hsrc : Src Try.prog i0.size 22 (.slice (some ad) 0 cap) 0 [] (w.alloc (.cells #[] 31)) :=
        Src.ofSlice _ Try.underlying22 ad 0 cap [] (by simp) (fun j u hj => by simp at hj) (fun u hu => by cases hu)
      have hr : ∀ ty, _ := fun ty => run_append_nothing (P := Try.prog) (w.alloc (.cells #[] 31)) 22 22 ty 31 i0 Try.underlying22 hi (some ⟨w.heap.size, 0, none⟩) 0 0 (Nat.le_refl _) (.slice (some ad) 0 cap) hsrc
      have N0 := Lib.hid (show PGr w.heap.size (w.alloc (.cells #[] 31)) (.slice (some ⟨w.heap.size, 0, none⟩) 0 0) [] from World.ownsRow_made w #[] 0 (Nat.le_refl _) (by decide) rfl)
      clear hA
      go_enter Try.func30, Try.ntmps30
      go_wp2_with (at_builtin; refine Lib.wpList_append_run _ rfl _ _ _ _ rfl _ _ rfl rfl _ _ (hr _) ?_)
      go_ret
      exact ⟨_, rfl, N0.out, hK⟩
  · obtain ⟨p, off, rfl, hR⟩ := hA.at (j := 0) (List.length_pos_iff.2 h0)
    have ne : ∀ w : World, (binOp .eql 22 (.slice (some ⟨p, off, none⟩) l.length cap) (.slice none 0 0)).run Try.prog w = .ok (.bool false) w := fun w => by
      rw [Lib.run_eql_slice_nil w 22 31 _ l.length cap 0 0 Try.underlying22]; rfl
    have hR1 := hR.later hK
    have hl : 0 < l.length := List.length_pos_iff.2 h0
    have hnews : ∀ (j : Nat) (u : Value), (eP.cat l)[j]? = some u → (w.alloc (.cells #[] 31)).cell? ((⟨p, off, none⟩ : Addr).add j) = some u := by
      intro j u hj
      rw [add_plain]; exact hR1.c j u hj
    have hlen : (eP.cat l).length = l.length * 2 := eP.cat_len l
    clear hR hR1 hA
    go_enter Try.func30, Try.ntmps30
    go_wp2_with (at_builtin; refine wpList_append_grows _ rfl _ _ 22 rfl 31 i0 _ 2 16 Try.underlying22 hi hz0 hz1' hz2 rfl (by decide) (some ⟨w.heap.size, 0, none⟩) 0 0 [] rfl (fun e => by cases e) (by simp) (fun b hb j u hj => by simp at hj) ⟨p, off, none⟩ l.length cap (eP.cat l) rfl hlen hnews (eP.cat_all l) (by omega) (by unfold maxLen; omega) (by omega) ?_)
    intro v' w1 hown hgrow
    have hK1 : Kept w w1 := hK.grew hgrow (fun j e => by cases e)
    have HO := Lib.hid (PGr.mono (B' := w.heap.size) (show PGr _ w1 v' l from hown) (by omega))
    clear hown hgrow
    go_wp2
    go_ret
    exact ⟨v', rfl, HO.out, hK1⟩
/-- One item appended, as a step of a region that draws. -/
theorem step_item {ops : Array Oper} {o : Oper} {a : Act} {K : Act → World → Prop} {Q : Exit → Act → World → Prop} {E : Prop} {Y V : World} {B hb : Nat} {v : Value} {l : List Mv} {z : Mv} (hgd : o.guard = none) (s t : Operand)
    (ho : o.op = .call { callee := .builtin .append, args := #[s, t], argTypes := #[22, 22] }) (hs : a.eval s = v) (hx : a.eval t = .slice (some ⟨hb, 0, none⟩) 1 1)
    (hG : PGr B Y v l) (hY : Kept Y V) (hB : B ≤ Y.heap.size) (x0 : V.cell? ⟨hb, 0, none⟩ = some (.int .i64 z.1)) (x1 : V.cell? ⟨hb, 1, none⟩ = some (.int .i64 z.2)) (hm : l.length + 1 ≤ 1000000)
    (h : ∀ g cap w1, PGr B w1 (.slice (some ⟨g, 0, none⟩) (l.length + 1) cap) (l ++ [z]) → V.grownBy w1 v.ownBlock → K (a.put o.dst (.slice (some ⟨g, 0, none⟩) (l.length + 1) cap)) w1) :
    if Region.wanted o (yielded ops a.tmps) = true then Oper.wp Try.prog o a V K Q else E := by
  have own := hG.later hY
  obtain ⟨i0, hi, hz0, hz1, hz2⟩ := info_parts isItemW
  have hnews : ∀ (j : Nat) (u : Value), (eP.cells z)[j]? = some u → V.cell? ((⟨hb, 0, none⟩ : Addr).add j) = some u := by
    intro j u hj
    match j, hj with
    | 0, hj => simp [eP] at hj; subst hj; simpa [Addr.add] using x0
    | 1, hj => simp [eP] at hj; subst hj; simpa [Addr.add] using x1
    | k + 2, hj => simp [eP] at hj
  refine step_append_lies (P := Try.prog) V hgd s t 22 ho B 31 i0 _ 2 16 Try.underlying22 hi hz0 hz1 hz2 rfl (by decide) v l.length (eP.cat l) hs own ⟨hb, 0, none⟩ 1 1 (eP.cells z) hx rfl hnews (eP.one z) (by decide) (by unfold maxLen; omega) (by omega) (Nat.le_trans hB hY.le) V.heap.size rfl ?_
  intro g cap w1 h2 h3 h4 h5
  refine h g cap w1 ?_ h3
  unfold PGr
  rw [List.length_append, List.length_singleton, eP.cat_append, eP.cat_one]
  exact h2
/-- Tie's answer, whatever it is. -/
def TieAny (w : World) (E : Int) (s : List Int) (e : Ending) (w' : World) : Prop :=
  ∃ a c, e = .returned (.tuple #[.slice a s.length c, .int .i64 E]) ∧ JArg eI w' a s ∧ Kept w w'
theorem tie_all (a b : Option Addr) (l m : List Mv) (ca cb : Nat) (h : Int) (w : World) (hl : l.length ≤ maxLen) (hm : m.length ≤ maxLen) (hA : JArg eP w a l) (hB : JArg eP w b m) :
    Calls Try.prog 23 #[.slice a l.length ca, .slice b m.length cb, .int .i64 h] w (TieAny w (tiE l m h) (if tiE l m h = 0 then tieL l m h else [])) := by
  by_cases er : tiE l m h = 0
  · rw [if_pos er, er]
    refine (tie_yes a b l m ca cb h w hA hB (ti_ok er)).mono ?_
    rintro e w1 ⟨g, rfl, hg, hO, hK⟩
    exact ⟨_, _, rfl, own_argT hO, hK⟩
  · rw [if_neg er]
    refine (tie_no a b l m ca cb h w hl hm hA hB er).mono ?_
    rintro e w1 ⟨rfl, hK⟩
    exact ⟨_, _, rfl, .inl rfl, hK⟩
theorem tie_item (b : Option Addr) (l m : List Mv) (z : Mv) (B cb : Nat) (h : Int) (hl : (l ++ [z]).length ≤ maxLen) (hm : m.length ≤ maxLen) (V : World) (g c : Nat) (hG : PGr B V (.slice (some ⟨g, 0, none⟩) (l.length + 1) c) (l ++ [z])) (hB : JArg eP V b m) :
    Calls Try.prog 23 #[.slice (some ⟨g, 0, none⟩) (l.length + 1) c, .slice b m.length cb, .int .i64 h] V (TieAny V (tiE (l ++ [z]) m h) (if tiE (l ++ [z]) m h = 0 then tieL (l ++ [z]) m h else [])) := by
  have e : (l ++ [z]).length = l.length + 1 := by simp
  rw [← e] at hG ⊢
  exact tie_all _ b (l ++ [z]) m c cb h V hl hm (hG.arg (by simp)) hB
/-- What is known behind the region. -/
def WiSt (W : World) (E : Int) (s : List Int) (v e : Value) (wx : World) : Prop := ∃ a c, v = .slice a s.length c ∧ e = .int .i64 E ∧ JArg eI wx a s ∧ Kept W wx
abbrev wiA : List Mv := [(0, 2)]
abbrev wiB : List Mv := [(3, 2)]
set_option maxRecDepth 100000 in
set_option maxHeartbeats 16000000 in
theorem tieWider_walk (a : Option Addr) (l : List Mv) (cap : Nat) (b : Option Addr) (m : List Mv) (cap' : Nat) (k1 k2 x0 x1 : Int) (w : World) (hA : JArg eP w a l) (hc : l.length ≤ cap) (hn : cap ≤ maxLen) (z : a = none → cap = 0) (hB : JArg eP w b m) (hc' : m.length ≤ cap') (hn' : cap' ≤ maxLen) (z' : b = none → cap' = 0) :
    Calls Try.prog 10 #[.slice a l.length cap, .slice b m.length cap', .int .i64 k1, .int .i64 k2, .agg #[.int .i64 x0, .int .i64 x1]] w fun e w' => e = .returned (.bool true) ∧ Below w.heap.size w w' := by
  have hs : (w.alloc (.cells #[.int .i64 x0, .int .i64 x1] 31)).heap.size = w.heap.size + 1 := by simp
  have cb0 : (w.alloc (.cells #[.int .i64 x0, .int .i64 x1] 31)).cell? ⟨w.heap.size, 0, none⟩ = some (.int .i64 x0) := by simp
  have cb1 : (w.alloc (.cells #[.int .i64 x0, .int .i64 x1] 31)).cell? ⟨w.heap.size, 1, none⟩ = some (.int .i64 x1) := by simp
  obtain ⟨W1, hW1⟩ : ∃ W1, W1 = ((w.alloc (.cells #[.int .i64 x0, .int .i64 x1] 31)).alloc (.cells #[.int .i64 0, .int .i64 2] 31)).alloc (.cells #[.int .i64 3, .int .i64 2] 31) := ⟨_, rfl⟩
  have KX : Kept (w.alloc (.cells #[.int .i64 x0, .int .i64 x1] 31)) W1 := by rw [hW1]; exact ((Kept.refl _).alloc _).alloc _
  have KA : Kept w W1 := ((Kept.refl w).alloc _).trans KX
  have F0 : Calls Try.prog 23 #[.slice (some ⟨w.heap.size + 1, 0, none⟩) 1 1, .slice (some ⟨w.heap.size + 1 + 1, 0, none⟩) 1 1, .int .i64 3] W1 (TiePost W1 [0]) := by
    obtain ⟨q1, q2⟩ := lit2 (w := w.alloc (.cells #[.int .i64 x0, .int .i64 x1] 31)) wiA wiB #[.int .i64 0, .int .i64 2] #[.int .i64 3, .int .i64 2] rfl rfl
    rw [hs] at q1 q2
    rw [hW1]
    exact tie_is _ _ wiA wiB 1 1 1 1 3 _ [0] rfl rfl q1 q2 (ti_ok (by decide +kernel)) (by decide +kernel)
  have F0 := Lib.hid F0
  have HW1 := Lib.hid hW1
  have BX := Lib.hid (fun (V : World) (k : Kept W1 V) => show V.cell? ⟨w.heap.size, 0, none⟩ = some (.int .i64 x0) ∧ V.cell? ⟨w.heap.size, 1, none⟩ = some (.int .i64 x1) from
    ⟨((KX.trans k).rd.1 _ _ (by simp)).trans cb0, ((KX.trans k).rd.1 _ _ (by simp)).trans cb1⟩)
  clear hW1 hs cb0 cb1 KX
  have HA := Lib.hid hA
  have HB := Lib.hid hB
  have HZ := Lib.hid z
  have hl : l.length ≤ maxLen := Nat.le_trans hc hn
  have hl' : m.length ≤ maxLen := Nat.le_trans hc' hn'
  clear hA hB hc hn z hc' hn' z'
  go_enter Try.func10, Try.ntmps10
  go_wp2_with fail
  rw [← HW1.out]
  refine F0.out.mono ?_
  rintro e w1 ⟨g, rfl, hg, hO, hK0⟩
  have hK1 := KA.trans hK0
  have BX1 := Lib.hid (fun (V : World) (k : Kept w1 V) => BX.out V (hK0.trans k))
  have T0 := Lib.hid (tied_any (some ⟨g, 0, none⟩) [0] 1 w1 (by decide) (own_argT hO))
  have t0 : tdI [0] = 1 := by decide
  rw [t0] at T0
  clear F0 KA HW1 hO hK0 hg BX t0
  go_wp2_with fail
  refine T0.out.mono ?_
  rintro e w2 ⟨rfl, rfl⟩
  clear T0
  go_wp2_with fail
  refine (skWithin_any _ _ _ (by decide) (by decide)).mono ?_
  rintro e w2 ⟨h, h0, h1, rfl, rfl⟩
  go_wp2_with fail
  refine (skWithin_any _ _ _ (by decide) (by decide)).mono ?_
  rintro e w2 ⟨u, u0, u1, rfl, rfl⟩
  by_cases er : tiE l m h = 0
  · have ok := ti_ok er
    have l40 : l.length ≤ 40 := ok.oa.len
    have m40 : m.length ≤ 40 := ok.ob.len
    have T1 := Lib.hid (tie_yes a b l m cap cap' h w1 (HA.out.later hK1) (HB.out.later hK1) ok)
    have T2 := Lib.hid (fun (V : World) (k : Kept w V) => tie_yes a b l m cap cap' (h + u) V (HA.out.later k) (HB.out.later k) ⟨ok.oa, ok.ob, by omega, by omega⟩)
    have T3 := Lib.hid (fun (V : World) (k : Kept w V) => tie_yes b a m l cap' cap h V (HB.out.later k) (HA.out.later k) ⟨ok.ob, ok.oa, h0, by omega⟩)
    have e1 : tdI (tieL l m h) ≤ tdI (tieL l m (h + u)) := tie_wider l m (by omega)
    have e2 : tdI (tieL m l h) = tdI (tieL l m h) := (tie_flip l m h).symm
    have e3 : tdI (tieL l m h) ≤ tdI (tieL (l ++ [(x0, x1)]) m h) := tie_more l m (x0, x1) h
    have L1 := Lib.hid (tieL_len l m h)
    have L2 := Lib.hid (tieL_len l m (h + u))
    have L3 := Lib.hid (tieL_len m l h)
    have L4 := Lib.hid (show (if tiE (l ++ [(x0, x1)]) m h = 0 then tieL (l ++ [(x0, x1)]) m h else []).length ≤ 41 from by
      split
      · rw [tieL_len]; simp; omega
      · simp)
    have E4 := Lib.hid (show tiE (l ++ [(x0, x1)]) m h = 0 → tdI (tieL l m h) ≤ tdI (if tiE (l ++ [(x0, x1)]) m h = 0 then tieL (l ++ [(x0, x1)]) m h else []) from fun c => by rw [if_pos c]; exact e3)
    have TI := Lib.hid (fun (B : Nat) (V : World) (k : Kept w V) (g c : Nat) (hG : PGr B V (.slice (some ⟨g, 0, none⟩) (l.length + 1) c) (l ++ [(x0, x1)])) => tie_item b l m (x0, x1) B cap' h (by simp; unfold maxLen; omega) hl' V g c hG (HB.out.later k))
    generalize tieL l m h = s1 at *
    generalize tieL l m (h + u) = s2 at *
    generalize tieL m l h = s3 at *
    generalize (if tiE (l ++ [(x0, x1)]) m h = 0 then tieL (l ++ [(x0, x1)]) m h else []) = s4 at *
    generalize tiE (l ++ [(x0, x1)]) m h = E at *
    have ws : IntKind.i64.wrap (h + u) = h + u := IntWalk.i64_in _ (by omega)
    clear ok er e3
    go_wp2_with fail
    refine T1.out.mono ?_
    rintro e w2 ⟨g1, rfl, hg1, hO1, hK2⟩
    have hK12 := hK1.trans hK2
    go_wp2_with fail
    refine (T2.out _ hK12).mono ?_
    rintro e w3 ⟨g2, rfl, hg2, hO2, hK3⟩
    have hK13 := hK12.trans hK3
    go_wp2_with fail
    refine (T3.out _ hK13).mono ?_
    rintro e w4 ⟨g3, rfl, hg3, hO3, hK4⟩
    have hK14 := hK13.trans hK4
    have A1 := Lib.hid (own_argT ((hO1.later hK3).later hK4))
    have A2 := Lib.hid (own_argT (hO2.later hK4))
    have A3 := Lib.hid (own_argT hO3)
    have BX4 := Lib.hid (fun (V : World) (k : Kept w4 V) => BX1.out V (((hK2.trans hK3).trans hK4).trans k))
    have CL := Lib.hid (fun (V : World) (k : Kept w4 V) => (pclone_any a l cap V (by omega) ((HA.out.later hK14).later k) HZ.out).mono fun e w' hh => show (∃ v, e = .returned v ∧ PGr V.heap.size w' v l ∧ Kept V w') ∧ w4.heap.size ≤ V.heap.size from ⟨hh, k.le⟩)
    have CK := Lib.hid (fun (V : World) (k : Kept w4 V) => show Kept w4 V ∧ (V.cell? ⟨w.heap.size, 0, none⟩ = some (.int .i64 x0) ∧ V.cell? ⟨w.heap.size, 1, none⟩ = some (.int .i64 x1)) from ⟨k, BX4.out V k⟩)
    have TJ := Lib.hid (fun (B : Nat) (V : World) (k : Kept w4 V) (g c : Nat) (hG : PGr B V (.slice (some ⟨g, 0, none⟩) (l.length + 1) c) (l ++ [(x0, x1)])) => TI.out B V (hK14.trans k) g c hG)
    clear T1 T2 T3 hO1 hO2 hO3 hK2 hK3 hK4 hK12 hK13 TI BX1 BX4 hg1 hg2 hg3 hK1
    go_upto_region 10 with fail
    go_cut [19, 20] (fun s t wx => WiSt w4 E s4 s t wx)
    case first =>
      go_region_held3 (fun w' => Kept w4 w' ∧ (w'.cell? ⟨w.heap.size, 0, none⟩ = some (.int .i64 x0) ∧ w'.cell? ⟨w.heap.size, 1, none⟩ = some (.int .i64 x1)))
        (first | (refine CK.out _ ?_; repeat' (first | (with_reducible assumption) | (with_reducible refine Kept.drew ?_) | (with_reducible refine Kept.alloc ?_ _) | (with_reducible exact Kept.refl _) | omega)))
        (first
          | (go_at_call 30; refine (CL.out _ (And.left (by assumption))).mono ?_; rintro e w' ⟨⟨v, rfl, hG, hkC⟩, hle0⟩; have hKa := Kept.trans (a := w4) (And.left (by assumption)) hkC; have hGl := hG.lt)
          | (go_at_call 23; refine (TJ.out _ _ (And.left (by assumption)) _ _ hG1).mono ?_; rintro e w' ⟨a9, c9, rfl, hJ9, hkT⟩; have hKa9 := Kept.trans (a := w4) (And.left (by assumption)) hkT)
          | (refine step_item (z := (x0, x1)) rfl (.tmp 70) (.tmp 72) rfl rfl rfl hG (by repeat' (first | (with_reducible exact Kept.refl _) | (with_reducible refine Kept.drew ?_) | (with_reducible refine Kept.alloc ?_ _))) hkC.le (by first | (simp; done) | exact (hkC.rd.1 _ _ (by simp)).trans (by simp)) (by first | (simp; done) | exact (hkC.rd.1 _ _ (by simp)).trans (by simp)) (by omega) ?_; intro g9 cap9 w9 hG1 hgr; have hK9 : Kept w4 w9 := Below.grown (And.left (by assumption)) hgr (Kept.le (And.left (by assumption))) (fun j ej => Nat.le_trans hle0 (hGl j ej).1)))
      all_goals go_wp2_with fail
      all_goals go_meet
      all_goals exact ⟨_, _, rfl, rfl, hJ9, hKa9⟩
    case rest =>
      obtain ⟨a4, c4, rfl, rfl, hJ4, hK4⟩ := hcut
      have U1 := Lib.hid (tied_any (some ⟨g1, 0, none⟩) s1 s1.length wc (by have := L1.out; omega) (A1.out.later hK4))
      have U2 := Lib.hid (tied_any (some ⟨g2, 0, none⟩) s2 s2.length wc (by have := L2.out; omega) (A2.out.later hK4))
      have U3 := Lib.hid (tied_any (some ⟨g3, 0, none⟩) s3 s3.length wc (by have := L3.out; omega) (A3.out.later hK4))
      have U4 := Lib.hid (tied_any a4 s4 c4 wc (by have := L4.out; omega) hJ4)
      have hK5 := Lib.hid (hK14.trans hK4)
      clear hK14 hK4 hJ4 A1 A2 A3 CL CK TJ HA HB HZ L1 L2 L3 L4
      rw [e2] at U3
      generalize tdI s1 = d1 at *
      generalize tdI s2 = d2 at *
      generalize tdI s4 = d4 at *
      have b1 : decide (d1 ≤ d2) = true := decide_eq_true e1
      by_cases eE : E = 0
      · have b4 : decide (d1 ≤ d4) = true := decide_eq_true (E4.out eE)
        subst eE
        clear e1 e2 E4
        go_wp2_with fail
        refine U2.out.mono ?_
        rintro e w5 ⟨rfl, rfl⟩
        go_wp2_with fail
        refine U1.out.mono ?_
        rintro e w5 ⟨rfl, rfl⟩
        go_wp2_with fail
        refine U3.out.mono ?_
        rintro e w5 ⟨rfl, rfl⟩
        go_wp2_with fail
        refine U1.out.mono ?_
        rintro e w5 ⟨rfl, rfl⟩
        go_wp2_with fail
        refine U4.out.mono ?_
        rintro e w5 ⟨rfl, rfl⟩
        go_wp2_with fail
        refine U1.out.mono ?_
        rintro e w5 ⟨rfl, rfl⟩
        go_wp2
        go_ret
        exact ⟨by simp, hK5.out⟩
      · have nE : (E != 0) = true := by rw [bne_iff_ne]; exact eE
        have nE' : (E == 0) = false := by rw [beq_eq_false_iff_ne]; exact eE
        clear e1 e2 E4 eE
        go_wp2_with fail
        refine U2.out.mono ?_
        rintro e w5 ⟨rfl, rfl⟩
        go_wp2_with fail
        refine U1.out.mono ?_
        rintro e w5 ⟨rfl, rfl⟩
        go_wp2_with fail
        refine U3.out.mono ?_
        rintro e w5 ⟨rfl, rfl⟩
        go_wp2_with fail
        refine U1.out.mono ?_
        rintro e w5 ⟨rfl, rfl⟩
        go_wp2
        go_ret
        exact ⟨by simp, hK5.out⟩
  · have T1 := Lib.hid (tie_no a b l m cap cap' h w1 hl hl' (HA.out.later hK1) (HB.out.later hK1) er)
    have nb : (tiE l m h != 0) = true := by rw [bne_iff_ne]; exact er
    generalize tiE l m h = q at *
    clear er
    go_wp2_with fail
    refine T1.out.mono ?_
    rintro e w2 ⟨rfl, hK2⟩
    go_wp2
    go_ret
    exact ⟨rfl, hK1.trans hK2⟩
end Go.Proofs.Ytdgiljndoeldcaa
