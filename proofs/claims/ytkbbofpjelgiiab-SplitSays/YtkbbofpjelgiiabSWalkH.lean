/-
  The reference's By (package talref), for weights that may be: one by one, each to the one that has most left. No condition but those that each theorem names.
-/
import Derived.Test.YtkbbofpjelgiiabSWalkG
import Derived.Test.YtkbbofpjelgiiabSMathE
import Derived.BigQuiet
namespace Go.Proofs.Ytkbbofpjelgiiab
open Go.RowKit

/-- A row of yes and no, of the call's own. -/
structure BRow (w : World) (p n : Nat) (f : Nat → Bool) : Prop where
  lt : p < w.heap.size
  cell : ∀ j, j < n → w.cell? ⟨p, j, none⟩ = some (.bool (f j))
  free : ∀ j, j < n → w.frozen? ⟨p, j, none⟩ = false
theorem BRow.drewN {w : World} {p n : Nat} {f : Nat → Bool} (h : BRow w p n f) (m : Nat) : BRow (w.drewN m) p n f := ⟨h.lt, h.cell, h.free⟩
theorem BRow.set {w : World} {p n : Nat} {f : Nat → Bool} (h : BRow w p n f) (i : Nat) (hi : i < n) : BRow (w.setCell ⟨p, i, none⟩ (.bool true)) p n (fun j => if j = i then true else f j) := by
  have hc := h.cell i hi
  refine ⟨by simpa using h.lt, fun j hj => ?_, fun j hj => ?_⟩
  · have hcj := h.cell j hj
    by_cases e : j = i
    · subst e; rw [if_pos rfl]; go_simp
    · rw [if_neg e]; go_simp
  · have hf := h.free j hj
    go_simp
theorem BRow.other {w : World} {p n r i : Nat} {f : Nat → Bool} {v : Value} (h : BRow w p n f) (hr : r ≠ p) : BRow (w.setCell ⟨r, i, none⟩ v) p n f := by
  have hr' : p ≠ r := fun e => hr e.symm
  refine ⟨by simpa using h.lt, fun j hj => ?_, fun j hj => ?_⟩
  · have hc := h.cell j hj
    go_simp
  · have hf := h.free j hj
    go_simp
theorem BRow.congr {w : World} {p n : Nat} {f g : Nat → Bool} (h : BRow w p n f) (e : ∀ j, j < n → f j = g j) : BRow w p n g := ⟨h.lt, fun j hj => by rw [← e j hj]; exact h.cell j hj, h.free⟩
def zb (n : Nat) : Array Value := madeCells #[.bool false] n
theorem zb_cell (n j : Nat) (h : j < n) : (zb n)[j]? = some (.bool false) := by
  unfold zb madeCells
  simp [h, Nat.mod_one]
theorem BRow.made {w : World} {n p : Nat} {t : TypeId} (hp : w.heap.size = p) : BRow (w.alloc (.cells (zb n) t)) p n (fun _ => false) := by
  subst hp
  refine ⟨by simp, fun j hj => ?_, fun j hj => ?_⟩
  · simp [zb_cell n j hj]
  · simp
theorem infoBool : (Try.prog.info? 4).map (fun i => (i.zero, i.size, i.bytes)) = some (some (.bool false), 1, 1) := by kernel_rfl
theorem make_bools (n : Nat) (hn : n ≤ 1000000) (w : World) :
    (Instr.makeSlice 43 (.int .i64 (n : Int)) (.int .i64 (n : Int))).run Try.prog w = .ok (.slice (some ⟨w.heap.size, 0, none⟩) n n) (w.alloc (.cells (zb n) 4)) := by
  obtain ⟨i0, hi, hz0, hz1, hz2⟩ := info_parts infoBool
  have h := run_make (P := Try.prog) w 43 4 i0 (.bool false) Try.underlying43 hi hz0 .i64 .i64 n n (by omega) (Int.le_refl _) (by rw [hz2]; omega) (by omega)
  rw [hz1] at h
  simpa [zb, Value.cells] using h

/-- What the rounds keep. -/
structure RSt (w wr : World) (po pb n s : Nat) (bsv d : Nat → Int) : Prop where
  out : Own wr po (tab n (addU d bsv s))
  got : BRow wr pb n (gotB d s)
  kept : Kept w wr
theorem RSt.drewN {w wr : World} {po pb n s : Nat} {bsv d : Nat → Int} (h : RSt w wr po pb n s bsv d) (m : Nat) : RSt w (wr.drewN m) po pb n s bsv d :=
  ⟨h.out.drewN m, h.got.drewN m, Kept.trans h.kept (Drew.kept (⟨m, rfl⟩ : Drew wr (wr.drewN m)))⟩
theorem RSt.step {w wr : World} {po pb n s c : Nat} {bsv d : Nat → Int} (h : RSt w wr po pb n s bsv d) (hc : c < n) (e : d s = c) (ne : po ≠ pb) (hw1 : w.heap.size ≤ po) (hw2 : w.heap.size ≤ pb) :
    RSt w ((wr.setCell ⟨pb, c, none⟩ (.bool true)).setCell ⟨po, c, none⟩ (.int .i64 (addU d bsv s c + 1))) po pb n (s + 1) bsv d := by
  refine ⟨?_, ?_, (h.kept.setAt hw2 _).setAt hw1 _⟩
  · have a := (h.out.other (r := pb) (i := c) (v := .bool true) (fun z => ne z.symm)).set c (addU d bsv s c + 1) (by rw [tab_len]; exact hc)
    rw [tab_set] at a
    have e2 : addU d bsv (s + 1) = up (addU d bsv s) c (addU d bsv s c + 1) := by rw [addU, e, Int.toNat_natCast]
    rw [e2]
    exact a
  · refine ((h.got.set c hc).other ne).congr (fun j _ => ?_)
    have := up_got (d := d) (s := s) j (by omega)
    rw [e, Int.toNat_natCast] at this
    exact this

set_option maxRecDepth 100000 in
set_option maxHeartbeats 4000000 in
theorem rby_pos (W : Int) (wp off n cap u : Nat) (wt d : Nat → Int) (T : Int) (w : World) (n1 : 1 ≤ n) (n40 : n ≤ 40) (W0 : 0 ≤ W) (W1 : W ≤ 1000000000000) (hw : WtOk wt n) (hT : sumTo wt n = T) (T0 : 0 < T)
    (hu : W - sumTo (bs W wt T) n = u) (un : u ≤ n) (ho : Ordered (keyOf (rs W wt T)) n d) (hR : Rd w wp off (tab n wt)) :
    Calls Try.prog 14 #[.int .i64 W, .slice (some ⟨wp, off, none⟩) n cap] w fun e w' => ∃ po, w.heap.size ≤ po ∧ e = .returned (.slice (some ⟨po, 0, none⟩) n n) ∧ Own w' po (tab n (addU d (bs W wt T) u)) ∧ Kept w w' := by
  have mk := make_ints n (by omega)
  have mb := make_bools n (by omega)
  have T1 : T ≤ 40000000 := by
    have a := sum_le wt n 1000000 (fun i hi => (hw i hi).2)
    rw [← hT]; have : (1000000 : Int) * n ≤ 1000000 * 40 := by omega
    omega
  have HT := Lib.hid hT
  have HU := Lib.hid hu
  have HO := Lib.hid ho
  have HW := Lib.hid hw
  have HK := Lib.hid ((okWts_iff wt n).2 hw)
  clear hT hu ho hw
  have wn : decide (W < 0) = false := by simp; omega
  have tz : (T == 0) = false := by rw [beq_eq_false_iff_ne]; omega
  go_enter Try.func14, Try.ntmps14
  go_wp2_with fail
  refine (rweights_ok _ n _ wt _ n40 (Arg.of hR) HK.out).mono ?_
  rintro e w0 ⟨rfl, rfl⟩
  rw [HT.out]
  go_wp2_with fail
  have hP := Own.made (w := w) (n := n) (t := 3) rfl
  have hK := (Kept.refl w).alloc (.cells (zs n) 3)
  rw [tab_zero] at hP
  generalize w.alloc (.cells (zs n) 3) = w1 at *
  go_loopw [10, 48] (fun s i wr => ∃ j : Nat, j ≤ n ∧ i = .int .i64 j ∧ s = .int .i64 (sumTo (bs W wt T) j) ∧ Own wr w.heap.size (tab n (mix (bs W wt T) (fun _ => 0) j)) ∧ Kept w wr) (fun _ i _ => (n - intOf i).toNat)
  case atStart => exact ⟨0, by omega, rfl, by simp [sumTo], by rw [mix_zero]; exact hP, hK⟩
  case round =>
    clear hP hK
    obtain ⟨j, hj, rfl, rfl, hP, hK⟩ := hrel
    by_cases hlt : j < n
    · have hc := (hR.later hK).cell j (by rw [tab_len]; exact hlt)
      have hp1 := hP.cell j (by rw [tab_len]; exact hlt)
      have hp2 := hP.free j (by rw [tab_len]; exact hlt)
      rw [tab_get] at hc
      rw [tab_get, mix_at] at hp1
      have w2 := HW.out j hlt
      have bb := bs_bd HW.out W0 T HT.out.symm T0 j hlt
      have sb := sumTo_bd (bs W wt T) 1000000000000 j (fun i hi => by have := bs_bd HW.out W0 T HT.out.symm T0 i (by omega); omega)
      have q0 : 0 ≤ W / T := Int.ediv_nonneg W0 (by omega)
      have q1 : W / T ≤ W := Int.ediv_le_self _ W0
      have m0 := Int.emod_nonneg W (show T ≠ 0 by omega)
      have m1 := Int.emod_lt_of_pos W T0
      have p0 : 0 ≤ W / T * wt j := Int.mul_nonneg q0 w2.1
      have p1 : 0 ≤ W % T * wt j := Int.mul_nonneg m0 w2.1
      have p2 : W % T * wt j ≤ 40000000 * 1000000 := Int.mul_le_mul (by omega) w2.2 w2.1 (by omega)
      have r0 : 0 ≤ W % T * wt j / T := Int.ediv_nonneg p1 (by omega)
      have E1 := Lib.hid (show W / T * wt j + W % T * wt j / T = bs W wt T j from bs_split W T (wt j) T0)
      have e2 : W / T * wt j ≤ 1000000000000 := by have := E1.out; omega
      have e3 : W % T * wt j / T ≤ 1000000000000 := by have := E1.out; omega
      have E3 := Lib.hid (show sumTo (bs W wt T) (j + 1) = sumTo (bs W wt T) j + bs W wt T j from rfl)
      have e4 : 0 ≤ W / T * wt j + W % T * wt j / T ∧ W / T * wt j + W % T * wt j / T ≤ 1000000000000 := by rw [E1.out]; omega
      have NP : Hid (Own (wr.setCell ⟨w.heap.size, j, none⟩ (.int .i64 (W / T * wt j + W % T * wt j / T))) w.heap.size (tab n (mix (bs W wt T) (fun _ => 0) (j + 1)))) := by
        have a := hP.set j (bs W wt T j) (by rw [tab_len]; exact hlt)
        rw [tab_set, mix_set (bs W wt T) (fun _ => 0) j] at a
        rw [E1.out]; exact a
      have NK : Hid (Kept w (wr.setCell ⟨w.heap.size, j, none⟩ (.int .i64 (W / T * wt j + W % T * wt j / T)))) := hK.setAt (Nat.le_refl _) _
      have pl := hP.lt
      clear hP hK
      have j1 : (j : Int) < (n : Int) := by omega
      go_wp2
      go_region
      all_goals go_wp2
      all_goals
        go_roundw
        case rel => exact ⟨j + 1, by omega, by go_num, by rw [E3.out, E1.out], NP.out.drew, NK.out.drew⟩
        case measure => simp [intOf]; omega
    · obtain rfl : j = n := by omega
      clear hlt hj
      rw [mix_end] at hP
      have pl := hP.lt
      go_wp2_with fail
      have hS : RSt w (wr.alloc (.cells (zb j) 4)) w.heap.size wr.heap.size j 0 (bs W wt T) d :=
        ⟨hP.later ((Kept.refl wr).alloc _), (BRow.made rfl).congr (fun q _ => (gotB_zero d q).symm), hK.alloc _⟩
      have hpb : w.heap.size ≤ wr.heap.size := hK.size
      have ne : w.heap.size ≠ wr.heap.size := by omega
      generalize wr.alloc (.cells (zb j) 4) = w3 at *
      generalize wr.heap.size = pb at *
      have S0 := sumTo_bd (bs W wt T) 1000000000000 j (fun i hi => by have := bs_bd HW.out W0 T HT.out.symm T0 i (by omega); omega)
      clear hP hK mk mb pl
      go_loopw [10] (fun g wx => ∃ s : Nat, s ≤ u ∧ g = .int .i64 (sumTo (bs W wt T) j + s) ∧ RSt w wx w.heap.size pb j s (bs W wt T) d) (fun g _ => (W - intOf g).toNat)
      case atStart => exact ⟨0, by omega, by simp, hS⟩
      case round =>
        clear hS
        obtain ⟨s, hs, rfl, hS⟩ := hrel
        have hu2 := HU.out
        by_cases hlt : s < u
        · have g1 : sumTo (bs W wt T) j + s < W := by omega
          have g2 : decide (sumTo (bs W wt T) j + s < W) = true := by simpa using g1
          go_wp2_with fail
          go_loopw [14, 86] (fun b i wy => ∃ (t : Nat) (bb : Int), t ≤ j ∧ i = .int .i64 t ∧ b = .int .i64 bb ∧ Best (rs W wt T) (gotB d s) t bb ∧ RSt w wy w.heap.size pb j s (bs W wt T) d) (fun _ i _ => (j - intOf i).toNat)
          case atStart => exact ⟨0, -1, by omega, rfl, rfl, Best.start _ _, hS⟩
          case round =>
            clear hS
            obtain ⟨t, bb, ht, rfl, rfl, hB, hS⟩ := hrel
            by_cases hlt2 : t < j
            · have hc := (hR.later hS.kept).cell t (by rw [tab_len]; exact hlt2)
              have hg := hS.got.cell t hlt2
              rw [tab_get] at hc
              have t1 : (t : Int) < (j : Int) := by omega
              cases gt : gotB d s t
              · rw [gt] at hg
                rcases hB with ⟨rfl, hB⟩ | ⟨c, rfl, hct, gc, hB⟩
                · have HN := Lib.hid (Best.none (.inl ⟨rfl, hB⟩ : Best (rs W wt T) (gotB d s) t (-1)) gt)
                  clear hB gt
                  go_wp2
                  go_quiet (fail)
                  go_wp2
                  go_roundw
                  case rel => exact ⟨t + 1, t, by omega, by go_num, rfl, HN.out, hS.drewN _⟩
                  case measure => simp [intOf]; omega
                · have hB' : Best (rs W wt T) (gotB d s) t (c : Int) := .inr ⟨c, rfl, hct, gc, hB⟩
                  have hc2 := (hR.later hS.kept).cell c (by rw [tab_len]; omega)
                  have hx1 := hS.out.rd.cell t (by rw [tab_len]; exact hlt2)
                  have hx2 := hS.out.rd.cell c (by rw [tab_len]; omega)
                  rw [tab_get] at hc2 hx1 hx2
                  rw [Nat.zero_add] at hx1 hx2
                  have k1 := key_left HO.out (by omega) gt
                  have k2 := key_left HO.out (by omega) gc
                  have r1 := rs_bd W wt T T0 t
                  have r2 := rs_bd W wt T T0 c
                  have v1 := wt_bd HW.out W0 W1 t hlt2
                  have v2 := wt_bd HW.out W0 W1 c (by omega)
                  have o1 : 0 ≤ addU d (bs W wt T) s t ∧ addU d (bs W wt T) s t ≤ 1000000000000 := by
                    rw [addU_not d _ j s HO.out.inR (by omega) t (gotB_not gt)]
                    have := bs_bd HW.out W0 T HT.out.symm T0 t hlt2; omega
                  have o2 : 0 ≤ addU d (bs W wt T) s c ∧ addU d (bs W wt T) s c ≤ 1000000000000 := by
                    rw [addU_not d _ j s HO.out.inR (by omega) c (gotB_not gc)]
                    have := bs_bd HW.out W0 T HT.out.symm T0 c (by omega); omega
                  have cj : (c : Int) < (j : Int) := by omega
                  have cz : decide ((c : Int) < 0) = false := by simp
                  by_cases cm : rs W wt T c < rs W wt T t
                  · have HN := Lib.hid (hB'.more gt cm)
                    clear hB hB' gt gc
                    generalize addU d (bs W wt T) s t = xt at *
                    generalize addU d (bs W wt T) s c = xc at *
                    have m1 : 0 ≤ xt * T ∧ xt * T ≤ 1000000000000000000 := ⟨Int.mul_nonneg o1.1 (by omega), by omega⟩
                    have m2 : 0 ≤ xc * T ∧ xc * T ≤ 1000000000000000000 := ⟨Int.mul_nonneg o2.1 (by omega), by omega⟩
                    have dd : decide (W * wt c - xc * T < W * wt t - xt * T) = true := by simp; omega
                    clear k1 k2 r1 r2 cm
                    go_wp2
                    go_quiet (fail)
                    go_wp2
                    go_roundw
                    case rel => exact ⟨t + 1, t, by omega, by go_num, rfl, HN.out, hS.drewN _⟩
                    case measure => simp [intOf]; omega
                  · have HN := Lib.hid (hB'.less cm)
                    clear hB hB' gt gc
                    generalize addU d (bs W wt T) s t = xt at *
                    generalize addU d (bs W wt T) s c = xc at *
                    have m1 : 0 ≤ xt * T ∧ xt * T ≤ 1000000000000000000 := ⟨Int.mul_nonneg o1.1 (by omega), by omega⟩
                    have m2 : 0 ≤ xc * T ∧ xc * T ≤ 1000000000000000000 := ⟨Int.mul_nonneg o2.1 (by omega), by omega⟩
                    have dd : decide (W * wt c - xc * T < W * wt t - xt * T) = false := by simp; omega
                    clear k1 k2 r1 r2 cm
                    go_wp2
                    go_quiet (fail)
                    go_wp2
                    go_roundw
                    case rel => exact ⟨t + 1, c, by omega, by go_num, rfl, HN.out, hS.drewN _⟩
                    case measure => simp [intOf]; omega
              · rw [gt] at hg
                have HN := Lib.hid (hB.got gt)
                clear hB gt
                go_wp2
                go_quiet (fail)
                go_wp2
                go_roundw
                case rel => exact ⟨t + 1, bb, by omega, by go_num, rfl, HN.out, hS.drewN _⟩
                case measure => simp [intOf]; omega
            · obtain rfl : t = j := by omega
              obtain ⟨e, b0, b1⟩ := hB.next HO.out (by omega)
              obtain ⟨c, rfl⟩ := Int.eq_ofNat_of_zero_le b0
              have cn : c < t := by omega
              have hN := Lib.hid (hS.step cn e.symm ne (Nat.le_refl _) hpb)
              have h1 := hS.got.cell c cn
              have h2 := hS.got.free c cn
              have h3 := hS.out.cell c (by rw [tab_len]; exact cn)
              have h4 := hS.out.free c (by rw [tab_len]; exact cn)
              rw [tab_get] at h3
              have gc : gotB d s c = false := by
                rcases hB with ⟨e', _⟩ | ⟨c', e', _, g, _⟩
                · omega
                · obtain rfl : c = c' := by omega
                  exact g
              have ab : 0 ≤ addU d (bs W wt T) s c ∧ addU d (bs W wt T) s c ≤ 1000000000000 := by
                rw [addU_not d _ t s HO.out.inR (by omega) c (gotB_not gc)]
                have := bs_bd HW.out W0 T HT.out.symm T0 c cn; omega
              clear gc
              clear hB e b0 hS hlt2 ht
              generalize addU d (bs W wt T) s c = x at *
              go_wp2
              go_roundw
              case rel => exact ⟨s + 1, by omega, by go_num, hN.out⟩
              case measure => simp [intOf]; omega
        · have g2 : decide (sumTo (bs W wt T) j + s < W) = false := by simp; omega
          obtain rfl : s = u := by omega
          clear hlt
          go_wp2
          go_ret
          exact ⟨_, Nat.le_refl _, rfl, hS.out, hS.kept⟩
end Go.Proofs.Ytkbbofpjelgiiab
