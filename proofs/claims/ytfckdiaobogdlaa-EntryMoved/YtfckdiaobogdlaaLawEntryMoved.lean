/-
  The law EntryMoved: for every entry and every two numbers it answers true; nothing that was there is turned. Condition: lengths that a machine's memory lets in.
-/
import Derived.Test.YtfckdiaobogdlaaBWalkD
import Derived.Test.YtfckdiaobogdlaaLawEntryTurned
import Derived.StillTailTactics
namespace Go.Proofs.Ytfckdiaobogdlaa
open Go.RowKit
set_option linter.unusedVariables false

/-- The lines that do not come to nothing. -/
def oneL : List Pr := [(⟨#[49]⟩, 1), (⟨#[50]⟩, 1)]
theorem one_bad : enE ⟨#[97]⟩ 0 oneL = 7 := by decide +kernel
theorem short_one : Shortish oneL := by
  intro x hx
  simp [oneL] at hx
  rcases hx with rfl | rfl
  · show 1 ≤ maxLen; decide
  · show 1 ≤ maxLen; decide
theorem one_rowL (w : World) (p : Nat) (t : TypeId) (hp : w.heap.size = p) : PRow (w.alloc (.cells #[.string ⟨#[49]⟩, .int .i64 1, .string ⟨#[50]⟩, .int .i64 1] t)) p 0 oneL := by
  subst hp
  refine ⟨by simp, fun j hj => ?_, fun j hj => ?_⟩
  all_goals
    have hj' : j < 2 := hj
    match j, hj' with
    | 0, _ => simp [oneL]
    | 1, _ => simp [oneL]
theorem PRow.take {w : World} {p off : Nat} {l : List Pr} (h : PRow w p off l) (k : Nat) : PRow w p off (l.take k) := by
  refine ⟨h.lt, fun j hj => ?_, fun j hj => ?_⟩
  · rw [List.length_take] at hj
    rw [List.getElem_take]; exact h.c0 j (by omega)
  · rw [List.length_take] at hj
    rw [List.getElem_take]; exact h.c1 j (by omega)
theorem PRow.drop {w : World} {p off : Nat} {l : List Pr} (h : PRow w p off l) (k : Nat) : PRow w p (off + k * 2) (l.drop k) := by
  refine ⟨h.lt, fun j hj => ?_, fun j hj => ?_⟩
  · rw [List.length_drop] at hj
    have := h.c0 (k + j) (by omega)
    rw [List.getElem_drop, ← this]
    congr 2; omega
  · rw [List.length_drop] at hj
    have := h.c1 (k + j) (by omega)
    rw [List.getElem_drop, ← this]
    congr 2; omega
theorem EBx.other {w : World} {p r i : Nat} {k : ByteArray} {d : Int} {v u : Value} (h : EBx w p k d v) (hr : r ≠ p) : EBx (w.setCell ⟨r, i, none⟩ u) p k d v := by
  obtain ⟨h0, h1, h2, h3⟩ := h
  have hr' : p ≠ r := fun e => hr e.symm
  exact ⟨by simpa using h0, by go_simp, by go_simp, by go_simp⟩
theorem WBx.set2 {w : World} {p : Nat} {k : ByteArray} {d : Int} {v u : Value} (h : WBx w p k d v) : WBx (w.setCell ⟨p, 2, none⟩ u) p k d u := by
  obtain ⟨⟨h0, h1, h2, h3⟩, f0, f1, f2⟩ := h
  exact ⟨⟨by simpa using h0, by go_simp, by go_simp, by go_simp⟩, by go_simp, by go_simp, by go_simp⟩
theorem PRow.other {w : World} {p off r i : Nat} {l : List Pr} {v : Value} (h : PRow w p off l) (hr : r ≠ p) : PRow (w.setCell ⟨r, i, none⟩ v) p off l := by
  have hr' : p ≠ r := fun e => hr e.symm
  refine ⟨by simpa using h.lt, fun j hj => ?_, fun j hj => ?_⟩
  · have hc := h.c0 j hj
    go_simp
  · have hc := h.c1 j hj
    go_simp
theorem PGr.other {T : TypeId} {B r i : Nat} {w : World} {v u : Value} {l : List Pr} (h : PGr T B w v l) (hr : r < B) : PGr T B (w.setCell ⟨r, i, none⟩ u) v l := ⟨ownsRow_setCell_below h.own hr u⟩
theorem PGr.at {T : TypeId} {B : Nat} {w : World} {v : Value} {l : List Pr} (h : PGr T B w v l) (n1 : 1 ≤ l.length) : ∃ q c, v = .slice (some ⟨q, 0, none⟩) l.length c ∧ B ≤ q ∧ l.length ≤ c ∧ c ≤ maxLen ∧ POwn w q l := by
  obtain ⟨a, c, rfl, h1, h2⟩ := h.form
  rcases h.own.2 with ⟨_, h0⟩ | ⟨q, c', cur, e, hb, _⟩
  · omega
  · obtain ⟨rfl, rfl⟩ : a = some ⟨q, 0, none⟩ ∧ c = c' := by simpa using e
    have own := h.own
    rcases h.arg with h3 | ⟨p, off, e, h3⟩
    · rw [h3] at n1; simp at n1
    · obtain ⟨rfl, rfl⟩ : q = p ∧ 0 = off := by simpa using e
      exact ⟨q, c, rfl, hb, h1, h2, h3, fun o _ => own.frozenAt o⟩
/-- One amount written. -/
theorem POwn.amount {w : World} {p : Nat} {l : List Pr} (h : POwn w p l) (i : Nat) (z : Int) (hi : i < l.length) : POwn (w.setCell ⟨p, i * 2 + 1, none⟩ (.int .i64 z)) p (setA l i z) := by
  have hc1 := h.row.c1 i hi
  rw [Nat.zero_add] at hc1
  rw [setA_eq hi]
  refine ⟨⟨by simpa using h.row.lt, fun j hj => ?_, fun j hj => ?_⟩, fun o ho => ?_⟩
  · rw [List.length_set] at hj
    have hcj := h.row.c0 j hj
    rw [Nat.zero_add] at hcj ⊢
    have e1 : j * 2 ≠ i * 2 + 1 := by omega
    by_cases e : i = j
    · subst e
      rw [List.getElem_set_self]
      go_simp
    · rw [List.getElem_set_ne e]
      go_simp
  · rw [List.length_set] at hj
    have hcj := h.row.c1 j hj
    rw [Nat.zero_add] at hcj ⊢
    by_cases e : i = j
    · subst e
      rw [List.getElem_set_self]
      go_simp
    · rw [List.getElem_set_ne e]
      have e2 : j * 2 + 1 ≠ i * 2 + 1 := by omega
      go_simp
  · rw [List.length_set] at ho
    have hf := h.free o ho
    go_simp
set_option maxRecDepth 100000 in
set_option maxHeartbeats 8000000 in
theorem entryMoved_walk (k : ByteArray) (d : Int) (a : Option Addr) (l : List Pr) (cap : Nat) (turn i : Int) (w : World) (hs : k.size ≤ maxLen) (hA : PArg w a l) (hS : Shortish l) (hn : l.length ≤ maxLen) (hc : l.length ≤ cap) (hcm : cap ≤ maxLen) :
    Calls Try.prog 5 #[enV k d a l.length cap, .int .i64 turn, .int .i64 i] w fun e w' => e = .returned (.bool true) ∧ Kept w w' := by
  have hK0 := (Kept.refl w).alloc (.cells #[.string k, .int .i64 d, .slice a l.length cap] 39)
  have hE0 := EBx.new w k d (.slice a l.length cap) 39
  have HA := Lib.hid hA
  have HS := Lib.hid hS
  have HN := Lib.hid hn
  have HC := Lib.hid hc
  have HM := Lib.hid hcm
  have H1 := Lib.hid hs
  clear hA hS hn hc hcm hs
  go_enter Try.func5, Try.ntmps5
  go_wp2_with fail
  refine (sale_any _ _ _ _ (by decide) (by decide)).mono ?_
  rintro e w1 ⟨p, hp, rfl, hR, hK1⟩
  have HR := Lib.hid hR
  clear hR
  go_wp2_with fail
  refine (echeck_any ⟨#[97]⟩ 5 (some ⟨p, 0, none⟩) (saleL 7) 2 w1 (by decide) (by decide) (.inr ⟨p, 0, rfl, HR.out⟩) (short_sale 7) (by decide) (by decide)).mono ?_
  rintro e w2 ⟨rfl, hK2⟩
  rw [sale_ok]
  have kb := (Kept.refl w2).alloc (.cells #[.string ⟨#[49]⟩, .int .i64 1, .string ⟨#[50]⟩, .int .i64 1] 44)
  have hK3 := ((hK0.trans hK1).trans hK2).trans kb
  have hE3 := ((hE0.later hK1).later hK2).later kb
  clear hK0 hK1 hK2 hE0 HR hp kb
  go_wp2_with fail
  refine (echeck_any ⟨#[97]⟩ 0 (some ⟨w2.heap.size, 0, none⟩) oneL 2 _ (by decide) (by decide) (.inr ⟨w2.heap.size, 0, rfl, one_rowL w2 _ 44 rfl⟩) short_one (by decide) (by decide)).mono ?_
  rintro e w3 ⟨rfl, hK4⟩
  rw [one_bad]
  have hK5 := hK3.trans hK4
  have hE5 := hE3.later hK4
  clear hK3 hK4 hE3
  obtain ⟨e0, e1, e2, e3⟩ := id hE5
  have HX := Lib.hid (echeck_any k d a l cap w3 H1.out HN.out (HA.out.later hK5) HS.out HC.out HM.out)
  by_cases ok : enE k d l = 0
  · have OK := Lib.hid ok
    rw [ok] at HX
    obtain ⟨_, l2, l12, _, _⟩ := enE_ok ok
    clear ok
    go_wp2_with fail
    refine HX.out.mono ?_
    rintro e w4 ⟨rfl, hK6⟩
    have hK7 := hK5.trans hK6
    have hE7 := hE5.later hK6
    clear hK5 hK6 hE5 e0 e1 e2 e3 HX
    obtain ⟨e0, e1, e2, e3⟩ := id hE7
    go_wp2_with fail
    refine (within_any _ _ _ (by omega) (by omega)).mono ?_
    rintro e w5 ⟨r, r0, r1, rfl, rfl⟩
    obtain ⟨t, rfl⟩ : ∃ t : Nat, r = t := ⟨r.toNat, by omega⟩
    obtain ⟨pa, off, rfl, hP0⟩ := HA.out.at (j := 0) (by omega)
    have plt : pa < w.heap.size := hP0.lt
    have hP := hP0.later hK7
    clear hP0
    have kb := (Kept.refl w4).alloc (.cells #[.string k, .int .i64 d, .slice (some ⟨pa, off, none⟩) l.length cap] 39)
    have hK8 := hK7.trans kb
    have hE8 := hE7.later kb
    have hP8 := hP.later kb
    have hY8 := WBx.new w4 k d (.slice (some ⟨pa, off, none⟩) l.length cap) 39 _ rfl
    have b0 := hE7.lt
    go_wp2_with fail
    generalize w4.alloc (.cells #[.string k, .int .i64 d, .slice (some ⟨pa, off, none⟩) l.length cap] 39) = V at *
    generalize w4.heap.size = by_ at *
    generalize hbx : w.heap.size = bx at *
    clear hK7 kb hE7 hP e0 e1 e2 e3
    obtain ⟨e0, e1, e2, e3⟩ := id hE8
    have g0 : (0 : Int) ≤ (t : Int) := by omega
    have g1 : (t : Int) ≤ (l.length : Int) := by omega
    have g2 : (t : Int) ≤ (cap : Int) := by have := HC.out; omega
    have g3 : (l.length : Int) ≤ (cap : Int) := by have := HC.out; omega
    have ct : ¬ cap = t := by have := HC.out; omega
    go_still_tail 8, (by kernel_rfl)
    change wpList _ _ _ _ _ V.drew
    clear ct
    have kd := (Kept.refl V).drew
    have hK9 := hK8.trans kd
    have hE9 := hE8.later kd
    have hP9 := hP8.later kd
    have hY9 := hY8.later kd
    have hbl : bx < V.drew.heap.size := hE9.lt
    have hyb : bx < by_ := b0
    clear g0 g1 g2 g3 hK8 hE8 hP8 hY8 e0 e1 e2 e3 b0
    generalize V.drew = V1 at *
    have kc := (Kept.refl V1).alloc (.cells #[.slice (some ⟨pa, off + t * 2, none⟩) (l.length - t) (cap - t), .slice (some ⟨pa, off, none⟩) t cap] 37)
    have HX := concat_two V1.heap.size pa (off + t * 2) (cap - t) pa off cap (l.drop t) (l.take t) _ (by rw [List.length_drop]; omega) (by rw [List.length_drop]; omega) (by rw [take_len (by omega)]; omega) (by simp) (by rw [List.length_drop]; simp) (by rw [take_len (by omega)]; simp) ((hP9.later kc).drop t) ((hP9.later kc).take t)
    have HX := Lib.hid HX
    have hK10 := hK9.trans kc
    have hE10 := hE9.later kc
    have hY10 := hY9.later kc
    have hP10 := hP9.later kc
    have hY9lt : by_ < V1.heap.size := hY9.box.lt
    clear kc hK9 hE9 hY9 hP9
    go_wp2_with fail
    refine HX.out.mono ?_
    rintro e w6 ⟨v6, rfl, hG, hK11⟩
    have hK12 := hK10.trans hK11
    have hE12 := hE10.later hK11
    have hY12 := hY10.later hK11
    have hP12 := hP10.later hK11
    rw [show l.drop t ++ l.take t = rotL l t from rfl] at hG
    have rl := (rotL_perm l t).length_eq
    obtain ⟨q6, c6, rfl, hq6, lc6, mc6, hQ6⟩ := hG.at (by omega)
    have hR6 := hQ6.row
    have q6l : q6 < w6.heap.size := hR6.lt
    have vb : V1.heap.size = (V1.alloc (.cells #[.slice (some ⟨pa, off + t * 2, none⟩) (l.length - t) (cap - t), .slice (some ⟨pa, off, none⟩) t cap] 37)).heap.size - 1 := by simp
    have yq : by_ ≠ q6 := by omega
    have RL := Lib.hid rl
    clear HX hK10 hE10 hY10 hP10 hK11 vb hG hQ6 rl
    obtain ⟨⟨y0, y1, y2, y3⟩, f0, f1, f2⟩ := id hY12
    obtain ⟨e0, e1, e2, e3⟩ := id hE12
    go_wp2_with fail
    have yx : by_ ≠ bx := by omega
    have yp : by_ ≠ pa := by omega
    have yw : w.heap.size ≤ by_ := by omega
    have hK13 := hK12.setAt (i := 2) yw (.slice (some ⟨q6, 0, none⟩) (rotL l t).length c6)
    have hE13 := hE12.other (i := 2) (u := .slice (some ⟨q6, 0, none⟩) (rotL l t).length c6) yx
    have hY13 := hY12.set2 (u := .slice (some ⟨q6, 0, none⟩) (rotL l t).length c6)
    have hP13 := hP12.other (i := 2) (v := .slice (some ⟨q6, 0, none⟩) (rotL l t).length c6) yp
    have hR13 := hR6.other (i := 2) (v := .slice (some ⟨q6, 0, none⟩) (rotL l t).length c6) yq
    have w6s : (w6.setCell ⟨by_, 2, none⟩ (.slice (some ⟨q6, 0, none⟩) (rotL l t).length c6)).heap.size = w6.heap.size := by simp
    have y6 : by_ < w6.heap.size := hY12.box.lt
    have kz := (Kept.refl (w6.setCell ⟨by_, 2, none⟩ (.slice (some ⟨q6, 0, none⟩) (rotL l t).length c6))).alloc (.cells #[.string k, .int .i64 d, .slice (some ⟨pa, off, none⟩) l.length cap] 39)
    have hZ14 := WBx.new (w6.setCell ⟨by_, 2, none⟩ (.slice (some ⟨q6, 0, none⟩) (rotL l t).length c6)) k d (.slice (some ⟨pa, off, none⟩) l.length cap) 39 _ w6s
    have hK14 := hK13.trans kz
    have hE14 := hE13.later kz
    have hY14 := hY13.later kz
    have hP14 := hP13.later kz
    have hR14 := hR13.later kz
    clear hK12 hE12 hY12 hP12 hR6 hK13 hE13 hY13 hP13 hR13 kz w6s y0 y1 y2 y3 f0 f1 f2 e0 e1 e2 e3
    refine (lclone_row pa off cap l _ (by omega) hP14).mono ?_
    rintro e w7 ⟨v7, rfl, hC, hK15⟩
    obtain ⟨q7, c7, rfl, hq7, lc7, mc7, hO⟩ := hC.at (by omega)
    have w6l : w6.heap.size < q7 := by
      have : w6.heap.size < ((w6.setCell ⟨by_, 2, none⟩ (.slice (some ⟨q6, 0, none⟩) (rotL l t).length c6)).alloc (.cells #[.string k, .int .i64 d, .slice (some ⟨pa, off, none⟩) l.length cap] 39)).heap.size := by simp
      omega
    have hK16 := hK14.trans hK15
    have hE16 := hE14.later hK15
    have hY16 := hY14.later hK15
    have hZ16 := hZ14.later hK15
    have hR16 := hR14.later hK15
    clear hK14 hE14 hY14 hZ14 hR14 hP14 hK15 hC hq7
    generalize w6.heap.size = bz at *
    obtain ⟨⟨z0, z1, z2, z3⟩, f0, f1, f2⟩ := id hZ16
    obtain ⟨e0, e1, e2, e3⟩ := id hE16
    have xz : bx ≠ bz := by omega
    go_wp2_with fail
    have zx : bz ≠ bx := by omega
    have zy : bz ≠ by_ := by omega
    have zq : bz ≠ q7 := by omega
    have zw : w.heap.size ≤ bz := by omega
    have zr : bz ≠ q6 := by omega
    have hK17 := hK16.setAt (i := 2) zw (.slice (some ⟨q7, 0, none⟩) l.length c7)
    have hE17 := hE16.other (i := 2) (u := .slice (some ⟨q7, 0, none⟩) l.length c7) zx
    have hY17 := hY16.box.other (i := 2) (u := .slice (some ⟨q7, 0, none⟩) l.length c7) zy
    have hZ17 := hZ16.set2 (u := .slice (some ⟨q7, 0, none⟩) l.length c7)
    have hO17 := hO.other (i := 2) (v := .slice (some ⟨q7, 0, none⟩) l.length c7) zq
    have hR17 := hR16.other (i := 2) (v := .slice (some ⟨q7, 0, none⟩) l.length c7) zr
    generalize w7.setCell ⟨bz, 2, none⟩ (.slice (some ⟨q7, 0, none⟩) l.length c7) = W8 at *
    clear hK16 hE16 hY16 hZ16 hR16 hO z0 z1 z2 z3 f0 f1 f2 e0 e1 e2 e3
    refine (within_any _ _ _ (by omega) (by omega)).mono ?_
    rintro e w9 ⟨r, r0, r1, rfl, rfl⟩
    obtain ⟨s, rfl⟩ : ∃ s : Nat, r = s := ⟨r.toNat, by omega⟩
    have sl : s < l.length := by omega
    obtain ⟨_, _, _, okl, _, _⟩ := enE_iff.1 OK.out
    obtain ⟨_, a1, a2, a0⟩ := okl l[s] (List.getElem_mem _)
    have A0 := Lib.hid a0
    have c0 := hO17.row.c1 s sl
    rw [Nat.zero_add] at c0
    have cf := hO17.free (s * 2 + 1) (by omega)
    have olt := hO17.row.lt
    obtain ⟨⟨z0, z1, z2, z3⟩, f0, f1, f2⟩ := id hZ17
    have g0 : (0 : Int) ≤ (s : Int) := by omega
    have g1 : (s : Int) < (l.length : Int) := by omega
    have HB := Lib.hid (half_bd a1 a2)
    have HN2 := Lib.hid (half_ne a0)
    have q1 : IntKind.i64.wrap (-(l[s]).2) = -(l[s]).2 := IntWalk.i64_in _ (by omega)
    clear okl a0
    go_wp2_with fail
    go_still_tail 13, (by kernel_rfl)
    change wpList _ _ _ _ _ W8.drew
    rw [show IntKind.i64.wrap (-(l[s]).2.tdiv 2) = -(l[s]).2.tdiv 2 from IntWalk.i64_in _ (by have := HB.out; omega)]
    have kd := (Kept.refl W8).drew
    have hK18 := hK17.trans kd
    have hY18 := hY17.later kd
    have hZ18 := hZ17.later kd
    have hO18 := hO17.later kd
    have hR18 := hR17.later kd
    have HZ := Lib.hid (show ∀ z, z ≠ 0 → -1000000000000 ≤ z → z ≤ 1000000000000 → z ≠ (l[s]).2 → enE k d (setA l s z) = 7 from fun z h0 h1 h2 h3 => enE_set sl OK.out h1 h2 h0 h3)
    obtain ⟨hb1, hb2⟩ := HB.out
    clear hK17 hE17 hY17 hZ17 hO17 hR17 kd c0 cf olt z0 z1 z2 z3 f0 f1 f2 q1 HB
    generalize -(l[s]).2.tdiv 2 = z at *
    generalize W8.drew = W9 at *
    have c0 := hO18.row.c1 s sl
    rw [Nat.zero_add] at c0
    have cf := hO18.free (s * 2 + 1) (by omega)
    have olt := hO18.row.lt
    obtain ⟨⟨z0, z1, z2, z3⟩, f0, f1, f2⟩ := id hZ18
    have q7w : w.heap.size ≤ q7 := by omega
    have hK19 := hK18.setAt (i := s * 2 + 1) q7w (.int .i64 z)
    have hY19 := hY18.other (i := s * 2 + 1) (u := .int .i64 z) (r := q7) (by omega)
    have hZ19 := hZ18.box.other (i := s * 2 + 1) (u := .int .i64 z) (r := q7) (by omega)
    have hR19 := hR18.other (i := s * 2 + 1) (v := .int .i64 z) (r := q7) (by omega)
    have hO19 := hO18.amount s z sl
    have SA := Lib.hid (setA_len l s z)
    have SS := Lib.hid (short_setA sl z HS.out)
    have q7z : bz ≠ q7 := by omega
    have ER := Lib.hid (enE_rot t OK.out)
    have SR := Lib.hid (short_rot t HS.out)
    have HCY := Lib.hid (echeck_any k d (some ⟨q6, 0, none⟩) (rotL l t) c6 _ H1.out (by rw [RL.out]; exact HN.out) (.inr ⟨q6, 0, rfl, hR19⟩) SR.out lc6 mc6)
    rw [ER.out] at HCY
    obtain ⟨y0, y1, y2, y3⟩ := id hY18
    have yq7 : by_ ≠ q7 := by omega
    by_cases zz : z = 0
    · subst zz
      go_wp2_with fail
      refine HCY.out.mono ?_
      rintro e wA ⟨rfl, hKA⟩
      go_wp2
      go_ret
      exact ⟨rfl, hK19.trans hKA⟩
    · have zz2 : (z == 0) = false := by rw [beq_eq_false_iff_ne]; exact zz
      have HZ7 := Lib.hid (HZ.out z zz hb1 hb2 HN2.out)
      clear zz
      go_wp2_with fail
      refine HCY.out.mono ?_
      rintro e wA ⟨rfl, hKA⟩
      obtain ⟨x0, x1, x2, x3⟩ := hZ19.later hKA
      have HCZ := Lib.hid (echeck_any k d (some ⟨q7, 0, none⟩) (setA l s z) c7 wA H1.out (by rw [SA.out]; exact HN.out) (.inr ⟨q7, 0, rfl, hO19.row.later hKA⟩) SS.out (by rw [SA.out]; exact lc7) mc7)
      rw [SA.out, HZ7.out] at HCZ
      go_wp2_with fail
      refine HCZ.out.mono ?_
      rintro e wB ⟨rfl, hKB⟩
      go_wp2
      go_ret
      exact ⟨rfl, (hK19.trans hKA).trans hKB⟩
  · have E2 : (enE k d l != 0) = true := by simpa using ok
    clear ok
    generalize enE k d l = er at *
    go_wp2_with fail
    refine HX.out.mono ?_
    rintro e w4 ⟨rfl, hK6⟩
    go_wp2
    go_ret
    exact ⟨rfl, hK5.trans hK6⟩
end Go.Proofs.Ytfckdiaobogdlaa
