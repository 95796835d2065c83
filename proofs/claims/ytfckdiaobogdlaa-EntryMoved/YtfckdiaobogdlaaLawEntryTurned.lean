/-
  The law EntryTurned: for every entry, key and day it answers true; nothing that was there is turned. Condition: lengths that a machine's memory lets in.
-/
import Derived.Test.YtfckdiaobogdlaaBWalkC
namespace Go.Proofs.Ytfckdiaobogdlaa
open Go.RowKit
set_option linter.unusedVariables false

theorem negL_cons (x : Pr) (l : List Pr) : negL (x :: l) = negP x :: negL l := rfl
theorem negL_append (l m : List Pr) : negL (l ++ m) = negL l ++ negL m := by simp [negL]
theorem negL_neg (l : List Pr) : negL (negL l) = l := by
  unfold negL
  rw [List.map_map]
  conv => rhs; rw [← List.map_id l]
  apply List.map_congr_left
  intro x _
  simp [negP]
theorem hasB_neg (s : ByteArray) (l : List Pr) : hasB s (negL l) = hasB s l := by
  unfold hasB negL
  rw [List.any_map]; rfl
theorem lnE_neg (x : Pr) (l : List Pr) : lnE (negP x) (negL l) = lnE x l := by
  unfold lnE
  rw [show (negP x).1 = x.1 from rfl, hasB_neg, show (negP x).2 = -x.2 from rfl]
  by_cases c : codeB x.1 = true
  · rw [if_pos c, if_pos c]
    by_cases h : x.2 < -1000000000000 ∨ 1000000000000 < x.2 ∨ x.2 = 0
    · rw [if_pos h, if_pos (by omega)]
    · rw [if_neg h, if_neg (by omega)]
  · rw [if_neg c, if_neg c]
theorem lnsE_neg : ∀ (l done : List Pr), lnsE (negL done) (negL l) = lnsE done l
  | [], _ => rfl
  | x :: r, done => by
    rw [negL_cons, lnsE, lnsE, lnE_neg, ← lnsE_neg r (done ++ [x]), negL_append]; rfl
theorem sumL_neg : ∀ l : List Pr, sumL (negL l) = - sumL l
  | [] => rfl
  | x :: r => by rw [negL_cons, sumL, sumL, sumL_neg r, show (negP x).2 = -x.2 from rfl]; omega
theorem enE_neg {k key : ByteArray} {d day : Int} {l : List Pr} (h : enE k d l = 0) (g : hdE key day = 0) : enE key day (negL l) = 0 := by
  obtain ⟨_, l2, l12, lz, s0⟩ := enE_ok h
  unfold enE
  rw [if_pos g, negL_len, if_neg (by omega)]
  exact tlE_ok (by have := lnsE_neg l []; rw [lz] at this; exact this) (by rw [negL_len]; omega) (by rw [sumL_neg, s0]; rfl)
theorem short_neg {l : List Pr} (h : Shortish l) : Shortish (negL l) := by
  intro x hx
  obtain ⟨y, hy, rfl⟩ := List.mem_map.1 hx
  exact h y hy
theorem sale_ok : enE ⟨#[97]⟩ 5 (saleL 7) = 0 := by decide +kernel
theorem b_ok : hdE ⟨#[98]⟩ 6 = 0 := by decide +kernel
theorem short_sale (n : Int) : Shortish (saleL n) := by
  intro x hx
  simp [saleL] at hx
  rcases hx with rfl | rfl
  · show 2 ≤ maxLen; decide
  · show 2 ≤ maxLen; decide
set_option maxRecDepth 100000 in
set_option maxHeartbeats 8000000 in
theorem entryTurned_walk (k : ByteArray) (d : Int) (a : Option Addr) (l : List Pr) (cap : Nat) (key : ByteArray) (day : Int) (w : World) (hs : k.size ≤ maxLen) (hA : PArg w a l) (hS : Shortish l) (hn : l.length ≤ maxLen) (hc : l.length ≤ cap) (hcm : cap ≤ maxLen) (hs2 : key.size ≤ maxLen) :
    Calls Try.prog 4 #[enV k d a l.length cap, .string key, .int .i64 day] w fun e w' => e = .returned (.bool true) ∧ Kept w w' := by
  have hK0 := (Kept.refl w).alloc (.cells #[.string k, .int .i64 d, .slice a l.length cap] 39)
  have hE0 := EBx.new w k d (.slice a l.length cap) 39
  have HA := Lib.hid hA
  have HS := Lib.hid hS
  have HN := Lib.hid hn
  have HC := Lib.hid hc
  have HM := Lib.hid hcm
  have H1 := Lib.hid hs
  have H2 := Lib.hid hs2
  clear hA hS hn hc hcm hs hs2
  go_enter Try.func4, Try.ntmps4
  go_wp2_with fail
  refine (sale_any _ _ _ _ (by decide) (by decide)).mono ?_
  rintro e w1 ⟨p, hp, rfl, hR, hK1⟩
  have HR := Lib.hid hR
  clear hR
  go_wp2_with fail
  refine (turned_yes ⟨#[97]⟩ 5 (some ⟨p, 0, none⟩) (saleL 7) 2 ⟨#[98]⟩ 6 w1 (by decide) (by decide) (by decide) (.inr ⟨p, 0, rfl, HR.out⟩) (short_sale 7) (by decide) (by decide) sale_ok b_ok).mono ?_
  rintro e w2 ⟨q, hq, rfl, hO, hK2⟩
  have m0 := hO.row.c0 0 (by decide)
  have m1 := hO.row.c1 0 (by decide)
  have mlt := hO.row.lt
  simp only [negL, negP, saleL, List.map_cons, List.map_nil, List.getElem_cons_zero, Nat.zero_mul, Nat.zero_add, Nat.add_zero] at m0 m1
  rw [show (negL (saleL 7)).length = 2 from rfl]
  have kb := (Kept.refl w2).alloc (.cells #[.string ⟨#[98]⟩, .int .i64 6, .slice (some ⟨q, 0, none⟩) 2 2] 39)
  have hK3 := ((hK0.trans hK1).trans hK2).trans kb
  have hE2 := (hE0.later hK1).later hK2
  have hE3 := hE2.later kb
  obtain ⟨e0, e1, e2, e3⟩ := id hE3
  have e4 := hE2.lt
  clear hK0 hK1 hK2 hE0 HR hO hp hq kb hE2
  by_cases ok : enE k d l = 0
  · by_cases oh : hdE key day = 0
    · have HX := Lib.hid (turned_yes k d a l cap key day _ H1.out H2.out HN.out (HA.out.later hK3) HS.out HC.out HM.out ok oh)
      have ON := Lib.hid (enE_neg ok oh)
      obtain ⟨oh2, l2, l12, lz, _⟩ := enE_ok ok
      have BD := Lib.hid (lnsE_all l [] lz)
      have OH2 := Lib.hid oh2
      have NN := Lib.hid (negL_neg l)
      have NL := Lib.hid (negL_len l)
      have NS := Lib.hid (short_neg HS.out)
      clear ok oh oh2 lz
      go_wp2_with fail
      refine HX.out.mono ?_
      rintro e w3 ⟨p2, hp2, rfl, hO2, hK4⟩
      have hb2 := hK4
      have kb := (Kept.refl w3).alloc (.cells #[.string key, .int .i64 day, .slice (some ⟨p2, 0, none⟩) (negL l).length (negL l).length] 39)
      have hK5 := (hK3.trans hK4).trans kb
      have hE5 := (hE3.later hK4).later kb
      have hY5 := EBx.new w3 key day (.slice (some ⟨p2, 0, none⟩) (negL l).length (negL l).length) 39
      have hP5 := hO2.row.later kb
      have ylt := (hE3.later hK4).lt
      clear hK3 hK4 hb2 hE3 e0 e1 e2 e3 e4 m0 m1 mlt hp2 hO2 kb HX
      obtain ⟨e0, e1, e2, e3⟩ := id hE5
      obtain ⟨y0, y1, y2, y3⟩ := id hY5
      have HX := Lib.hid (turned_yes key day (some ⟨p2, 0, none⟩) (negL l) (negL l).length k d _ H2.out H1.out (by rw [NL.out]; exact HN.out) (.inr ⟨p2, 0, rfl, hP5⟩) NS.out (Nat.le_refl _) (by rw [NL.out]; exact HN.out) ON.out OH2.out)
      rw [NN.out] at HX
      go_wp2_with fail
      refine HX.out.mono ?_
      rintro e w4 ⟨p3, hp3, rfl, hO3, hK6⟩
      have kb := (Kept.refl w4).alloc (.cells #[.string k, .int .i64 d, .slice (some ⟨p3, 0, none⟩) l.length l.length] 39)
      have hK7 := (hK5.trans hK6).trans kb
      have hE7 := (hE5.later hK6).later kb
      have hY7 := (hY5.later hK6).later kb
      have hZ7 := EBx.new w4 k d (.slice (some ⟨p3, 0, none⟩) l.length l.length) 39
      have hP7 := (hP5.later hK6).later kb
      have hO7 := hO3.row.later kb
      have u1 := (hE5.later hK6).lt
      have u2 := (hY5.later hK6).lt
      clear hK5 hK6 hE5 hY5 hP5 hO3 kb HX e0 e1 e2 e3 y0 y1 y2 y3 ylt hp3
      obtain ⟨e0, e1, e2, e3⟩ := id hE7
      obtain ⟨y0, y1, y2, y3⟩ := id hY7
      obtain ⟨z0, z1, z2, z3⟩ := id hZ7
      have HX := Lib.hid (echeck_any key day (some ⟨p2, 0, none⟩) (negL l) (negL l).length _ H2.out (by rw [NL.out]; exact HN.out) (.inr ⟨p2, 0, rfl, hP7⟩) NS.out (Nat.le_refl _) (by rw [NL.out]; exact HN.out))
      go_wp2_with fail
      refine HX.out.mono ?_
      rintro e w5 ⟨rfl, hK8⟩
      rw [ON.out]
      have hK9 := hK7.trans hK8
      have hE9 := hE7.later hK8
      have hY9 := hY7.later hK8
      have hZ9 := hZ7.later hK8
      have hP9 := hP7.later hK8
      have hO9 := hO7.later hK8
      clear hK7 hK8 hE7 hY7 hZ7 hP7 hO7 HX e0 e1 e2 e3 y0 y1 y2 y3 z0 z1 z2 z3 u1 u2
      obtain ⟨e0, e1, e2, e3⟩ := id hE9
      obtain ⟨y0, y1, y2, y3⟩ := id hY9
      obtain ⟨z0, z1, z2, z3⟩ := id hZ9
      have HX := Lib.hid (same_yes k d l (some ⟨p3, 0, none⟩) a l.length l.length cap w5 (by omega) rfl (.inr ⟨p3, 0, rfl, hO9⟩) (HA.out.later hK9))
      go_wp2_with fail
      refine HX.out.mono ?_
      rintro e w6 ⟨rfl, hK10⟩
      have HK := Lib.hid (hK9.trans hK10)
      have HE := Lib.hid (hE9.later hK10)
      have HY := Lib.hid (hY9.later hK10)
      have HP := Lib.hid (hP9.later hK10)
      have HAA := Lib.hid (HA.out.later (hK9.trans hK10))
      clear hK9 hK10 hE9 hY9 hZ9 hP9 hO9 HX e0 e1 e2 e3 y0 y1 y2 y3 z0 z1 z2 z3
      obtain ⟨e0, e1, e2, e3⟩ := id HE.out
      obtain ⟨y0, y1, y2, y3⟩ := id HY.out
      go_wp2
      generalize w.heap.size = bx at *
      generalize w3.heap.size = bq at *
      go_loopw [82] (fun i wr => ∃ j : Nat, j ≤ l.length ∧ i = .int .i64 j ∧ Drew w6 wr) (fun i _ => l.length - (intOf i).toNat)
      case atStart => exact ⟨0, Nat.zero_le _, rfl, Drew.refl _⟩
      case round =>
        clear e0 e1 e2 e3 y0 y1 y2 y3
        obtain ⟨j, hj, rfl, hD⟩ := hrel
        by_cases hlt : j < l.length
        · obtain ⟨e0, e1, e2, e3⟩ := HE.out.later hD.kept
          obtain ⟨y0, y1, y2, y3⟩ := HY.out.later hD.kept
          obtain ⟨pa, off, rfl, hR⟩ := (HAA.out.later hD.kept).at hlt
          have c0 := hR.c0 j hlt
          have c1 := hR.c1 j hlt
          have jn : j < (negL l).length := by rw [NL.out]; exact hlt
          have n0 := (HP.out.later hD.kept).c0 j jn
          have n1 := (HP.out.later hD.kept).c1 j jn
          rw [negL_get hlt, Nat.zero_add] at n0 n1
          obtain ⟨_, z1, z2, _⟩ := BD.out l[j] (List.getElem_mem _)
          clear hR
          generalize l[j] = x at *
          simp only [negP] at n0 n1
          have g0 : (0 : Int) ≤ (j : Int) := by omega
          have g1 : (j : Int) < (l.length : Int) := by omega
          have g2 : (j : Int) < ((negL l).length : Int) := by omega
          go_wp2_with fail
          go_quiet (fail)
          go_wp2
          go_roundw
          case rel => exact ⟨j + 1, by omega, by go_num, hD.drewN _⟩
          case measure => simp [intOf]; omega
        · obtain rfl : j = l.length := by omega
          clear hlt
          go_wp2
          go_ret
          exact ⟨rfl, HK.out.trans hD.kept⟩
    · have HX := Lib.hid (turned_head k d a l cap key day _ H1.out H2.out HN.out (HA.out.later hK3) HS.out HC.out HM.out ok oh)
      have E2 : (hdE key day != 0) = true := by simpa using oh
      clear ok oh
      generalize hdE key day = er at *
      go_wp2_with fail
      refine HX.out.mono ?_
      rintro e w3 ⟨rfl, hK4⟩
      go_wp2
      go_ret
      exact ⟨rfl, (hK3.trans hK4).alloc _⟩
  · have HX := Lib.hid (turned_bad k d a l cap key day _ H1.out HN.out (HA.out.later hK3) HS.out HC.out HM.out ok)
    have E2 : (enE k d l != 0) = true := by simpa using ok
    clear ok
    generalize enE k d l = er at *
    go_wp2_with fail
    refine HX.out.mono ?_
    rintro e w3 ⟨rfl, hK4⟩
    go_wp2
    go_ret
    exact ⟨rfl, (hK3.trans hK4).alloc _⟩
end Go.Proofs.Ytfckdiaobogdlaa
