/-
  The law SplitSays returns true: By and Even answer what the reference says. Condition: the row is no longer than the memory.
-/
import Derived.Test.YtkbbofpjelgiiabSWalkJ
namespace Go.Proofs.Ytkbbofpjelgiiab
open Go.RowKit

/-- What the walk knows ahead of the last part: the boxes, and what Even gave. -/
theorem Boxes.drew {w : World} {ps pa pn n : Nat} {sign am : Int} (h : Boxes w ps pa pn sign am n) : Boxes w.drew ps pa pn sign am n := ⟨h.s.drew, h.a.drew, h.n.drew⟩
def TailOk (w : World) (amount n : Int) (pa pn : Nat) (vy : Value) (f : Int) (w' : World) : Prop :=
  w.heap.size ≤ pa ∧ pa < pn ∧ FBox w' pa (.int .i64 amount) ∧ FBox w' pn (.int .i64 n) ∧ Kept w w' ∧
    Hid ((EvOk amount n ∧ f = 0 ∧ ∃ q, pn < q ∧ vy = .slice (some ⟨q, 0, none⟩) n.toNat n.toNat ∧ Own w' q (tab n.toNat (evV amount n.toNat))) ∨ (¬ EvOk amount n ∧ f = 1 ∧ vy = .slice none 0 0))
theorem TailOk.later {w w' w2 : World} {amount n : Int} {pa pn : Nat} {vy : Value} {f : Int} (h : TailOk w amount n pa pn vy f w') (k : Kept w' w2) : TailOk w amount n pa pn vy f w2 := by
  obtain ⟨a, b, c, d, e, g⟩ := h
  refine ⟨a, b, c.later k, d.later k, e.trans k, Lib.hid ?_⟩
  rcases g.out with ⟨x, y, q, z, v, o⟩ | z
  · exact .inl ⟨x, y, q, z, v, o.later k⟩
  · exact .inr z

theorem ev_pos {amount : Int} (m : Nat) (h : 0 ≤ amount) : tab m (fun i => 1 * evP amount m i) = tab m (evV amount m) := tab_congr m (fun i _ => by
  unfold evV sg; rw [if_neg (by omega), show ((amount.natAbs : Nat) : Int) = amount by omega, Int.one_mul])
theorem ev_neg {amount : Int} (m : Nat) (h : amount < 0) : tab m (fun i => -1 * evP (-amount) m i) = tab m (evV amount m) := tab_congr m (fun i _ => by
  unfold evV sg; rw [if_pos h, show ((amount.natAbs : Nat) : Int) = -amount by omega, Int.neg_mul, Int.one_mul])

set_option maxRecDepth 100000 in
set_option maxHeartbeats 8000000 in
theorem splitSays_walk (amount : Int) (a : Option Addr) (n0 cap : Nat) (wt : Nat → Int) (n : Int) (w : World) (hn : n0 ≤ 4000000000000000000) (hA : Arg w a n0 wt) :
    Calls Try.prog 3 #[.int .i64 amount, .slice a n0 cap, .int .i64 n] w fun e w' => e = .returned (.bool true) ∧ Kept w w' := by
  by_cases c1 : 40 < n0
  · have HE := Lib.hid (show byE amount n0 wt = 2 by unfold byE; rw [if_pos c1])
    go_enter Try.func3, Try.ntmps3
    go_wp2_with fail
    have B1 : FBox ((w.alloc (.cells #[.int .i64 amount] 3)).alloc (.cells #[.int .i64 n] 3)) w.heap.size (.int .i64 amount) := (FBox.new rfl).later ((Kept.refl _).alloc _)
    have B2 : FBox ((w.alloc (.cells #[.int .i64 amount] 3)).alloc (.cells #[.int .i64 n] 3)) (w.heap.size + 1) (.int .i64 n) := FBox.new (by simp)
    have hK0 : Kept w ((w.alloc (.cells #[.int .i64 amount] 3)).alloc (.cells #[.int .i64 n] 3)) := ((Kept.refl w).alloc _).alloc _
    have hs0 : w.heap.size + 2 ≤ ((w.alloc (.cells #[.int .i64 amount] 3)).alloc (.cells #[.int .i64 n] 3)).heap.size := by simp
    have hA1 := hA.later hK0
    generalize (w.alloc (.cells #[.int .i64 amount] 3)).alloc (.cells #[.int .i64 n] 3) = w1 at *
    refine (by_no amount _ n0 _ wt _ hn hA1 (by rw [HE.out]; omega)).mono ?_
    rintro e w2 ⟨rfl, rfl⟩
    rw [HE.out]
    have C1 := B1.cell
    have C2 := B2.cell
    go_wp2_with fail
    refine (even_any amount n _).mono ?_
    rintro e w3 ⟨vy, f, rfl, hK3, HF⟩
    have TK : TailOk w amount n w.heap.size (w.heap.size + 1) vy f w3 := ⟨Nat.le_refl _, by omega, B1.later hK3, B2.later hK3, hK0.trans hK3, by
      refine Lib.hid ?_
      rcases HF.out with ⟨x, y, q, z, v, o⟩ | z
      · exact .inl ⟨x, y, q, by omega, v, o⟩
      · exact .inr z⟩
    have hA3 := hA1.later hK3
    clear HF B1 B2 C1 C2 hK0 hA1 hK3
    go_wp2_with fail
    refine (rweights_long _ n0 _ _ hn c1).mono ?_
    rintro e w4 ⟨rfl, rfl⟩
    have C1 := TK.2.2.1.cell
    have C2 := TK.2.2.2.1.cell
    go_wp2_with fail
    refine (rmoney_any _ _).mono ?_
    rintro e w7 ⟨rfl, rfl⟩
    obtain ⟨t1, t2, F1, F2, hKt, HF⟩ := TK
    rcases HF.out with ⟨⟨ev1, ev2, ev3⟩, rfl, q, hq, rfl, hOy⟩ | ⟨ev, rfl, rfl⟩
    · obtain ⟨m, rfl⟩ := Int.eq_ofNat_of_zero_le (show 0 ≤ n by omega)
      rw [Int.toNat_natCast] at hOy ⊢
      rw [ev1]
      have am := (am_iff amount).1 ev1
      have d1 : decide ((m : Int) < 1) = false := by simp; omega
      have d2 : decide ((40 : Int) < (m : Int)) = false := by simp; omega
      clear HF ev1
      have l1 := F1.lt
      have l2 := F2.lt
      have x1 : w.heap.size ≠ w3.heap.size := by omega
      have x2 : w3.heap.size ≠ w.heap.size := by omega
      have x3 : w.heap.size + 1 ≠ w3.heap.size := by omega
      have x4 : w3.heap.size ≠ w.heap.size + 1 := by omega
      have G1 := F1.later ((Kept.refl w3).alloc (.cells #[.int .i64 1] 3))
      have G2 := F2.later ((Kept.refl w3).alloc (.cells #[.int .i64 1] 3))
      have G3 : FBox (w3.alloc (.cells #[.int .i64 1] 3)) w3.heap.size (.int .i64 1) := FBox.new rfl
      have hY := hOy.later ((Kept.refl w3).alloc (.cells #[.int .i64 1] 3))
      have hKn := hKt.alloc (.cells #[.int .i64 1] 3)
      have C3 := G1.cell
      have C4 := G2.cell
      have C5 := G1.free
      have C6 := F1.free
      by_cases ng : amount < 0
      · have ng1 : decide (amount < 0) = true := by simpa using ng
        go_wp2_with fail
        have N1 := (F1.set (x := .int .i64 (-amount))).later ((Kept.refl _).alloc (.cells #[.int .i64 (-1)] 3))
        have N2 := (F2.other (r := w.heap.size) (i := 0) (x := .int .i64 (-amount)) (by omega)).later ((Kept.refl _).alloc (.cells #[.int .i64 (-1)] 3))
        have N3 : FBox ((w3.setCell ⟨w.heap.size, 0, none⟩ (.int .i64 (-amount))).alloc (.cells #[.int .i64 (-1)] 3)) w3.heap.size (.int .i64 (-1)) := FBox.new (by simp)
        have BX := Lib.hid (⟨N3.sl, N1.sl, N2.sl⟩ : Boxes ((w3.setCell ⟨w.heap.size, 0, none⟩ (.int .i64 (-amount))).alloc (.cells #[.int .i64 (-1)] 3)) w3.heap.size w.heap.size (w.heap.size + 1) (-1) (-amount) m)
        have YN := Lib.hid ((hOy.other (r := w.heap.size) (i := 0) (v := .int .i64 (-amount)) (by omega)).later ((Kept.refl _).alloc (.cells #[.int .i64 (-1)] 3)))
        have KN := Lib.hid ((hKt.setAt (b := w.heap.size) (i := 0) (Nat.le_refl _) (.int .i64 (-amount))).alloc (.cells #[.int .i64 (-1)] 3))
        clear N1 N2 N3 hY hKn G3
        go_region
        all_goals go_wp2_with fail
        all_goals
          refine (parted_any _ _ _ m (-1) (-amount) _ (by omega) (by omega) (by omega) (by omega) (.inr rfl) BX.out.drew).mono ?_
          rintro e w8 ⟨ad, cp, rfl, hAr, hK8⟩
          obtain ⟨pp, po', rfl, hRr⟩ := hAr.at (by omega)
          rw [ev_neg m ng] at hRr
          have hY := YN.out.drew.later hK8
          have hKn := KN.out.drew.trans hK8
          clear hAr hK8 BX YN KN G1 G2 C1 C2 C3 C4 C5 C6 F1 F2 hOy hKt
          go_wp2_with fail
          refine (equal_yes (evV amount m) _ _ _ _ _ _ m _ (by omega) hY.rd hRr).mono ?_
          rintro e w9 ⟨rfl, hd⟩
          replace hKn := hKn.trans hd.kept
          clear hd hY hRr
          go_wp2
          go_ret
          exact ⟨ret_bool (by simp), hKn⟩
      · have ng1 : decide (amount < 0) = false := by simpa using ng
        go_wp2_with fail
        have BX : Boxes (w3.alloc (.cells #[.int .i64 1] 3)) w3.heap.size w.heap.size (w.heap.size + 1) 1 amount m := ⟨G3.sl, G1.sl, G2.sl⟩
        refine (parted_any _ _ _ m 1 amount _ (by omega) (by omega) (by omega) (by omega) (.inl rfl) BX).mono ?_
        rintro e w8 ⟨ad, cp, rfl, hAr, hK8⟩
        obtain ⟨pp, po', rfl, hRr⟩ := hAr.at (by omega)
        rw [ev_pos m ng] at hRr
        replace hY := hY.later hK8
        replace hKn := hKn.trans hK8
        clear hAr hK8 BX G1 G2 G3 C1 C2 C3 C4 C5 C6 F1 F2 hOy hKt
        go_wp2_with fail
        refine (equal_yes (evV amount m) _ _ _ _ _ _ m _ (by omega) hY.rd hRr).mono ?_
        rintro e w9 ⟨rfl, hd⟩
        replace hKn := hKn.trans hd.kept
        clear hd hY hRr
        go_wp2
        go_ret
        exact ⟨ret_bool (by simp), hKn⟩
    · cases ab : amB amount
      · clear HF ev ab
        go_wp2
        go_ret
        exact ⟨ret_bool (by simp), hKt⟩
      · by_cases z : n < 1
        · have d1 : decide (n < 1) = true := by simpa using z
          clear HF ev ab z
          go_wp2
          go_ret
          exact ⟨ret_bool (by simp), hKt⟩
        · have y : 40 < n := by
            by_cases y : 40 < n
            · exact y
            · exact absurd ⟨ab, by omega, by omega⟩ ev
          have d1 : decide (n < 1) = false := by simpa using z
          have d2 : decide (40 < n) = true := by simpa using y
          clear HF ev ab z y
          go_wp2
          go_ret
          exact ⟨ret_bool (by simp), hKt⟩
  · cases ho : okWts wt n0
    · have HE := Lib.hid (show byE amount n0 wt = 1 by unfold byE; rw [if_neg c1, if_pos (.inr ho)])
      have HO := Lib.hid ho
      clear ho
      go_enter Try.func3, Try.ntmps3
      go_wp2_with fail
      have B1 : FBox ((w.alloc (.cells #[.int .i64 amount] 3)).alloc (.cells #[.int .i64 n] 3)) w.heap.size (.int .i64 amount) := (FBox.new rfl).later ((Kept.refl _).alloc _)
      have B2 : FBox ((w.alloc (.cells #[.int .i64 amount] 3)).alloc (.cells #[.int .i64 n] 3)) (w.heap.size + 1) (.int .i64 n) := FBox.new (by simp)
      have hK0 : Kept w ((w.alloc (.cells #[.int .i64 amount] 3)).alloc (.cells #[.int .i64 n] 3)) := ((Kept.refl w).alloc _).alloc _
      have hs0 : w.heap.size + 2 ≤ ((w.alloc (.cells #[.int .i64 amount] 3)).alloc (.cells #[.int .i64 n] 3)).heap.size := by simp
      have hA1 := hA.later hK0
      generalize (w.alloc (.cells #[.int .i64 amount] 3)).alloc (.cells #[.int .i64 n] 3) = w1 at *
      refine (by_no amount _ n0 _ wt _ hn hA1 (by rw [HE.out]; omega)).mono ?_
      rintro e w2 ⟨rfl, rfl⟩
      rw [HE.out]
      have C1 := B1.cell
      have C2 := B2.cell
      go_wp2_with fail
      refine (even_any amount n _).mono ?_
      rintro e w3 ⟨vy, f, rfl, hK3, HF⟩
      have TK : TailOk w amount n w.heap.size (w.heap.size + 1) vy f w3 := ⟨Nat.le_refl _, by omega, B1.later hK3, B2.later hK3, hK0.trans hK3, by
        refine Lib.hid ?_
        rcases HF.out with ⟨x, y, q, z, v, o⟩ | z
        · exact .inl ⟨x, y, q, by omega, v, o⟩
        · exact .inr z⟩
      have hA3 := hA1.later hK3
      clear HF B1 B2 C1 C2 hK0 hA1 hK3
      go_wp2_with fail
      refine (rweights_bad _ n0 _ wt _ (by omega) hA3 HO.out).mono ?_
      rintro e w4 ⟨rfl, rfl⟩
      have C1 := TK.2.2.1.cell
      have C2 := TK.2.2.2.1.cell
      go_wp2_with fail
      refine (rmoney_any _ _).mono ?_
      rintro e w7 ⟨rfl, rfl⟩
      obtain ⟨t1, t2, F1, F2, hKt, HF⟩ := TK
      rcases HF.out with ⟨⟨ev1, ev2, ev3⟩, rfl, q, hq, rfl, hOy⟩ | ⟨ev, rfl, rfl⟩
      · obtain ⟨m, rfl⟩ := Int.eq_ofNat_of_zero_le (show 0 ≤ n by omega)
        rw [Int.toNat_natCast] at hOy ⊢
        rw [ev1]
        have am := (am_iff amount).1 ev1
        have d1 : decide ((m : Int) < 1) = false := by simp; omega
        have d2 : decide ((40 : Int) < (m : Int)) = false := by simp; omega
        clear HF ev1
        have l1 := F1.lt
        have l2 := F2.lt
        have x1 : w.heap.size ≠ w3.heap.size := by omega
        have x2 : w3.heap.size ≠ w.heap.size := by omega
        have x3 : w.heap.size + 1 ≠ w3.heap.size := by omega
        have x4 : w3.heap.size ≠ w.heap.size + 1 := by omega
        have G1 := F1.later ((Kept.refl w3).alloc (.cells #[.int .i64 1] 3))
        have G2 := F2.later ((Kept.refl w3).alloc (.cells #[.int .i64 1] 3))
        have G3 : FBox (w3.alloc (.cells #[.int .i64 1] 3)) w3.heap.size (.int .i64 1) := FBox.new rfl
        have hY := hOy.later ((Kept.refl w3).alloc (.cells #[.int .i64 1] 3))
        have hKn := hKt.alloc (.cells #[.int .i64 1] 3)
        have C3 := G1.cell
        have C4 := G2.cell
        have C5 := G1.free
        have C6 := F1.free
        by_cases ng : amount < 0
        · have ng1 : decide (amount < 0) = true := by simpa using ng
          go_wp2_with fail
          have N1 := (F1.set (x := .int .i64 (-amount))).later ((Kept.refl _).alloc (.cells #[.int .i64 (-1)] 3))
          have N2 := (F2.other (r := w.heap.size) (i := 0) (x := .int .i64 (-amount)) (by omega)).later ((Kept.refl _).alloc (.cells #[.int .i64 (-1)] 3))
          have N3 : FBox ((w3.setCell ⟨w.heap.size, 0, none⟩ (.int .i64 (-amount))).alloc (.cells #[.int .i64 (-1)] 3)) w3.heap.size (.int .i64 (-1)) := FBox.new (by simp)
          have BX := Lib.hid (⟨N3.sl, N1.sl, N2.sl⟩ : Boxes ((w3.setCell ⟨w.heap.size, 0, none⟩ (.int .i64 (-amount))).alloc (.cells #[.int .i64 (-1)] 3)) w3.heap.size w.heap.size (w.heap.size + 1) (-1) (-amount) m)
          have YN := Lib.hid ((hOy.other (r := w.heap.size) (i := 0) (v := .int .i64 (-amount)) (by omega)).later ((Kept.refl _).alloc (.cells #[.int .i64 (-1)] 3)))
          have KN := Lib.hid ((hKt.setAt (b := w.heap.size) (i := 0) (Nat.le_refl _) (.int .i64 (-amount))).alloc (.cells #[.int .i64 (-1)] 3))
          clear N1 N2 N3 hY hKn G3
          go_region
          all_goals go_wp2_with fail
          all_goals
            refine (parted_any _ _ _ m (-1) (-amount) _ (by omega) (by omega) (by omega) (by omega) (.inr rfl) BX.out.drew).mono ?_
            rintro e w8 ⟨ad, cp, rfl, hAr, hK8⟩
            obtain ⟨pp, po', rfl, hRr⟩ := hAr.at (by omega)
            rw [ev_neg m ng] at hRr
            have hY := YN.out.drew.later hK8
            have hKn := KN.out.drew.trans hK8
            clear hAr hK8 BX YN KN G1 G2 C1 C2 C3 C4 C5 C6 F1 F2 hOy hKt
            go_wp2_with fail
            refine (equal_yes (evV amount m) _ _ _ _ _ _ m _ (by omega) hY.rd hRr).mono ?_
            rintro e w9 ⟨rfl, hd⟩
            replace hKn := hKn.trans hd.kept
            clear hd hY hRr
            go_wp2
            go_ret
            exact ⟨ret_bool (by simp), hKn⟩
        · have ng1 : decide (amount < 0) = false := by simpa using ng
          go_wp2_with fail
          have BX : Boxes (w3.alloc (.cells #[.int .i64 1] 3)) w3.heap.size w.heap.size (w.heap.size + 1) 1 amount m := ⟨G3.sl, G1.sl, G2.sl⟩
          refine (parted_any _ _ _ m 1 amount _ (by omega) (by omega) (by omega) (by omega) (.inl rfl) BX).mono ?_
          rintro e w8 ⟨ad, cp, rfl, hAr, hK8⟩
          obtain ⟨pp, po', rfl, hRr⟩ := hAr.at (by omega)
          rw [ev_pos m ng] at hRr
          replace hY := hY.later hK8
          replace hKn := hKn.trans hK8
          clear hAr hK8 BX G1 G2 G3 C1 C2 C3 C4 C5 C6 F1 F2 hOy hKt
          go_wp2_with fail
          refine (equal_yes (evV amount m) _ _ _ _ _ _ m _ (by omega) hY.rd hRr).mono ?_
          rintro e w9 ⟨rfl, hd⟩
          replace hKn := hKn.trans hd.kept
          clear hd hY hRr
          go_wp2
          go_ret
          exact ⟨ret_bool (by simp), hKn⟩
      · cases ab : amB amount
        · clear HF ev ab
          go_wp2
          go_ret
          exact ⟨ret_bool (by simp), hKt⟩
        · by_cases z : n < 1
          · have d1 : decide (n < 1) = true := by simpa using z
            clear HF ev ab z
            go_wp2
            go_ret
            exact ⟨ret_bool (by simp), hKt⟩
          · have y : 40 < n := by
              by_cases y : 40 < n
              · exact y
              · exact absurd ⟨ab, by omega, by omega⟩ ev
            have d1 : decide (n < 1) = false := by simpa using z
            have d2 : decide (40 < n) = true := by simpa using y
            clear HF ev ab z y
            go_wp2
            go_ret
            exact ⟨ret_bool (by simp), hKt⟩
    · have HO := Lib.hid ho
      cases hm : amB amount
      · have HE := Lib.hid (show byE amount n0 wt = 1 by unfold byE; rw [if_neg c1, if_pos (.inl hm)])
        have HM := Lib.hid hm
        clear ho hm
        go_enter Try.func3, Try.ntmps3
        go_wp2_with fail
        have B1 : FBox ((w.alloc (.cells #[.int .i64 amount] 3)).alloc (.cells #[.int .i64 n] 3)) w.heap.size (.int .i64 amount) := (FBox.new rfl).later ((Kept.refl _).alloc _)
        have B2 : FBox ((w.alloc (.cells #[.int .i64 amount] 3)).alloc (.cells #[.int .i64 n] 3)) (w.heap.size + 1) (.int .i64 n) := FBox.new (by simp)
        have hK0 : Kept w ((w.alloc (.cells #[.int .i64 amount] 3)).alloc (.cells #[.int .i64 n] 3)) := ((Kept.refl w).alloc _).alloc _
        have hs0 : w.heap.size + 2 ≤ ((w.alloc (.cells #[.int .i64 amount] 3)).alloc (.cells #[.int .i64 n] 3)).heap.size := by simp
        have hA1 := hA.later hK0
        generalize (w.alloc (.cells #[.int .i64 amount] 3)).alloc (.cells #[.int .i64 n] 3) = w1 at *
        refine (by_no amount _ n0 _ wt _ hn hA1 (by rw [HE.out]; omega)).mono ?_
        rintro e w2 ⟨rfl, rfl⟩
        rw [HE.out]
        have C1 := B1.cell
        have C2 := B2.cell
        go_wp2_with fail
        refine (even_any amount n _).mono ?_
        rintro e w3 ⟨vy, f, rfl, hK3, HF⟩
        have TK : TailOk w amount n w.heap.size (w.heap.size + 1) vy f w3 := ⟨Nat.le_refl _, by omega, B1.later hK3, B2.later hK3, hK0.trans hK3, by
          refine Lib.hid ?_
          rcases HF.out with ⟨x, y, q, z, v, o⟩ | z
          · exact .inl ⟨x, y, q, by omega, v, o⟩
          · exact .inr z⟩
        have hA3 := hA1.later hK3
        clear HF B1 B2 C1 C2 hK0 hA1 hK3
        go_wp2_with fail
        refine (rweights_ok _ n0 _ wt _ (by omega) hA3 HO.out).mono ?_
        rintro e w4 ⟨rfl, rfl⟩
        have C1 := TK.2.2.1.cell
        go_wp2_with fail
        refine (rmoney_any _ _).mono ?_
        rintro e w4 ⟨rfl, rfl⟩
        rw [HM.out]
        have C2 := TK.2.2.2.1.cell
        go_wp2_with fail
        refine (rmoney_any _ _).mono ?_
        rintro e w7 ⟨rfl, rfl⟩
        obtain ⟨t1, t2, F1, F2, hKt, HF⟩ := TK
        rcases HF.out with ⟨⟨ev1, ev2, ev3⟩, rfl, q, hq, rfl, hOy⟩ | ⟨ev, rfl, rfl⟩
        · rw [HM.out] at ev1; cases ev1
        · rw [HM.out]
          clear HF ev
          go_wp2
          go_ret
          exact ⟨ret_bool (by simp), hKt⟩
      · have HM := Lib.hid hm
        have ES := byE_small (wt := wt) (n := n0) (by omega) hm ((okWts_iff wt n0).1 ho)
        clear ho hm
        by_cases hs : sumTo wt n0 = 0
        · have HE := Lib.hid (show byE amount n0 wt = 6 by rw [ES, if_pos hs])
          have HS := Lib.hid hs
          clear hs ES
          go_enter Try.func3, Try.ntmps3
          go_wp2_with fail
          have B1 : FBox ((w.alloc (.cells #[.int .i64 amount] 3)).alloc (.cells #[.int .i64 n] 3)) w.heap.size (.int .i64 amount) := (FBox.new rfl).later ((Kept.refl _).alloc _)
          have B2 : FBox ((w.alloc (.cells #[.int .i64 amount] 3)).alloc (.cells #[.int .i64 n] 3)) (w.heap.size + 1) (.int .i64 n) := FBox.new (by simp)
          have hK0 : Kept w ((w.alloc (.cells #[.int .i64 amount] 3)).alloc (.cells #[.int .i64 n] 3)) := ((Kept.refl w).alloc _).alloc _
          have hs0 : w.heap.size + 2 ≤ ((w.alloc (.cells #[.int .i64 amount] 3)).alloc (.cells #[.int .i64 n] 3)).heap.size := by simp
          have hA1 := hA.later hK0
          generalize (w.alloc (.cells #[.int .i64 amount] 3)).alloc (.cells #[.int .i64 n] 3) = w1 at *
          refine (by_no amount _ n0 _ wt _ hn hA1 (by rw [HE.out]; omega)).mono ?_
          rintro e w2 ⟨rfl, rfl⟩
          rw [HE.out]
          have C1 := B1.cell
          have C2 := B2.cell
          go_wp2_with fail
          refine (even_any amount n _).mono ?_
          rintro e w3 ⟨vy, f, rfl, hK3, HF⟩
          have TK : TailOk w amount n w.heap.size (w.heap.size + 1) vy f w3 := ⟨Nat.le_refl _, by omega, B1.later hK3, B2.later hK3, hK0.trans hK3, by
            refine Lib.hid ?_
            rcases HF.out with ⟨x, y, q, z, v, o⟩ | z
            · exact .inl ⟨x, y, q, by omega, v, o⟩
            · exact .inr z⟩
          have hA3 := hA1.later hK3
          clear HF B1 B2 C1 C2 hK0 hA1 hK3
          go_wp2_with fail
          refine (rweights_ok _ n0 _ wt _ (by omega) hA3 HO.out).mono ?_
          rintro e w4 ⟨rfl, rfl⟩
          have C1 := TK.2.2.1.cell
          go_wp2_with fail
          refine (rmoney_any _ _).mono ?_
          rintro e w4 ⟨rfl, rfl⟩
          rw [HM.out]
          rw [HS.out]
          have C2 := TK.2.2.2.1.cell
          go_wp2_with fail
          refine (rmoney_any _ _).mono ?_
          rintro e w7 ⟨rfl, rfl⟩
          obtain ⟨t1, t2, F1, F2, hKt, HF⟩ := TK
          rcases HF.out with ⟨⟨ev1, ev2, ev3⟩, rfl, q, hq, rfl, hOy⟩ | ⟨ev, rfl, rfl⟩
          · obtain ⟨m, rfl⟩ := Int.eq_ofNat_of_zero_le (show 0 ≤ n by omega)
            rw [Int.toNat_natCast] at hOy ⊢
            rw [ev1]
            have am := (am_iff amount).1 ev1
            have d1 : decide ((m : Int) < 1) = false := by simp; omega
            have d2 : decide ((40 : Int) < (m : Int)) = false := by simp; omega
            clear HF ev1
            have l1 := F1.lt
            have l2 := F2.lt
            have x1 : w.heap.size ≠ w3.heap.size := by omega
            have x2 : w3.heap.size ≠ w.heap.size := by omega
            have x3 : w.heap.size + 1 ≠ w3.heap.size := by omega
            have x4 : w3.heap.size ≠ w.heap.size + 1 := by omega
            have G1 := F1.later ((Kept.refl w3).alloc (.cells #[.int .i64 1] 3))
            have G2 := F2.later ((Kept.refl w3).alloc (.cells #[.int .i64 1] 3))
            have G3 : FBox (w3.alloc (.cells #[.int .i64 1] 3)) w3.heap.size (.int .i64 1) := FBox.new rfl
            have hY := hOy.later ((Kept.refl w3).alloc (.cells #[.int .i64 1] 3))
            have hKn := hKt.alloc (.cells #[.int .i64 1] 3)
            have C3 := G1.cell
            have C4 := G2.cell
            have C5 := G1.free
            have C6 := F1.free
            by_cases ng : amount < 0
            · have ng1 : decide (amount < 0) = true := by simpa using ng
              go_wp2_with fail
              have N1 := (F1.set (x := .int .i64 (-amount))).later ((Kept.refl _).alloc (.cells #[.int .i64 (-1)] 3))
              have N2 := (F2.other (r := w.heap.size) (i := 0) (x := .int .i64 (-amount)) (by omega)).later ((Kept.refl _).alloc (.cells #[.int .i64 (-1)] 3))
              have N3 : FBox ((w3.setCell ⟨w.heap.size, 0, none⟩ (.int .i64 (-amount))).alloc (.cells #[.int .i64 (-1)] 3)) w3.heap.size (.int .i64 (-1)) := FBox.new (by simp)
              have BX := Lib.hid (⟨N3.sl, N1.sl, N2.sl⟩ : Boxes ((w3.setCell ⟨w.heap.size, 0, none⟩ (.int .i64 (-amount))).alloc (.cells #[.int .i64 (-1)] 3)) w3.heap.size w.heap.size (w.heap.size + 1) (-1) (-amount) m)
              have YN := Lib.hid ((hOy.other (r := w.heap.size) (i := 0) (v := .int .i64 (-amount)) (by omega)).later ((Kept.refl _).alloc (.cells #[.int .i64 (-1)] 3)))
              have KN := Lib.hid ((hKt.setAt (b := w.heap.size) (i := 0) (Nat.le_refl _) (.int .i64 (-amount))).alloc (.cells #[.int .i64 (-1)] 3))
              clear N1 N2 N3 hY hKn G3
              go_region
              all_goals go_wp2_with fail
              all_goals
                refine (parted_any _ _ _ m (-1) (-amount) _ (by omega) (by omega) (by omega) (by omega) (.inr rfl) BX.out.drew).mono ?_
                rintro e w8 ⟨ad, cp, rfl, hAr, hK8⟩
                obtain ⟨pp, po', rfl, hRr⟩ := hAr.at (by omega)
                rw [ev_neg m ng] at hRr
                have hY := YN.out.drew.later hK8
                have hKn := KN.out.drew.trans hK8
                clear hAr hK8 BX YN KN G1 G2 C1 C2 C3 C4 C5 C6 F1 F2 hOy hKt
                go_wp2_with fail
                refine (equal_yes (evV amount m) _ _ _ _ _ _ m _ (by omega) hY.rd hRr).mono ?_
                rintro e w9 ⟨rfl, hd⟩
                replace hKn := hKn.trans hd.kept
                clear hd hY hRr
                go_wp2
                go_ret
                exact ⟨ret_bool (by simp), hKn⟩
            · have ng1 : decide (amount < 0) = false := by simpa using ng
              go_wp2_with fail
              have BX : Boxes (w3.alloc (.cells #[.int .i64 1] 3)) w3.heap.size w.heap.size (w.heap.size + 1) 1 amount m := ⟨G3.sl, G1.sl, G2.sl⟩
              refine (parted_any _ _ _ m 1 amount _ (by omega) (by omega) (by omega) (by omega) (.inl rfl) BX).mono ?_
              rintro e w8 ⟨ad, cp, rfl, hAr, hK8⟩
              obtain ⟨pp, po', rfl, hRr⟩ := hAr.at (by omega)
              rw [ev_pos m ng] at hRr
              replace hY := hY.later hK8
              replace hKn := hKn.trans hK8
              clear hAr hK8 BX G1 G2 G3 C1 C2 C3 C4 C5 C6 F1 F2 hOy hKt
              go_wp2_with fail
              refine (equal_yes (evV amount m) _ _ _ _ _ _ m _ (by omega) hY.rd hRr).mono ?_
              rintro e w9 ⟨rfl, hd⟩
              replace hKn := hKn.trans hd.kept
              clear hd hY hRr
              go_wp2
              go_ret
              exact ⟨ret_bool (by simp), hKn⟩
          · cases ab : amB amount
            · rw [HM.out] at ab; cases ab
            · by_cases z : n < 1
              · have d1 : decide (n < 1) = true := by simpa using z
                clear HF ev ab z
                go_wp2
                go_ret
                exact ⟨ret_bool (by simp), hKt⟩
              · have y : 40 < n := by
                  by_cases y : 40 < n
                  · exact y
                  · exact absurd ⟨ab, by omega, by omega⟩ ev
                have d1 : decide (n < 1) = false := by simpa using z
                have d2 : decide (40 < n) = true := by simpa using y
                clear HF ev ab z y
                go_wp2
                go_ret
                exact ⟨ret_bool (by simp), hKt⟩
        · have he : byE amount n0 wt = 0 := by rw [ES, if_neg hs]
          obtain ⟨u, hu, hB⟩ := units_ex he
          have HE := Lib.hid he
          have HU := Lib.hid hu
          have HB := Lib.hid hB
          have HS := Lib.hid hs
          clear hs ES he hu hB
          go_enter Try.func3, Try.ntmps3
          go_wp2_with fail
          have B1 : FBox ((w.alloc (.cells #[.int .i64 amount] 3)).alloc (.cells #[.int .i64 n] 3)) w.heap.size (.int .i64 amount) := (FBox.new rfl).later ((Kept.refl _).alloc _)
          have B2 : FBox ((w.alloc (.cells #[.int .i64 amount] 3)).alloc (.cells #[.int .i64 n] 3)) (w.heap.size + 1) (.int .i64 n) := FBox.new (by simp)
          have hK0 : Kept w ((w.alloc (.cells #[.int .i64 amount] 3)).alloc (.cells #[.int .i64 n] 3)) := ((Kept.refl w).alloc _).alloc _
          have hs0 : w.heap.size + 2 ≤ ((w.alloc (.cells #[.int .i64 amount] 3)).alloc (.cells #[.int .i64 n] 3)).heap.size := by simp
          have hA1 := hA.later hK0
          generalize (w.alloc (.cells #[.int .i64 amount] 3)).alloc (.cells #[.int .i64 n] 3) = w1 at *
          refine (by_yes amount _ n0 _ u wt _ hA1 HE.out HU.out).mono ?_
          rintro e w2 ⟨px, d, hpx, rfl, hR, hO, hK⟩
          have OK := Lib.hid (HB.out d hR)
          have hO' : Own w2 px (tab n0 (byV amount n0 u wt d)) := hO
          replace hK0 := hK0.trans hK
          replace hs0 : w.heap.size + 2 ≤ w2.heap.size := Nat.le_trans hs0 hK.size
          replace B1 := B1.later hK
          replace B2 := B2.later hK
          replace hA1 := hA1.later hK
          have C1 := B1.cell
          have C2 := B2.cell
          clear hR hO HB hK
          go_wp2_with fail
          refine (even_any amount n _).mono ?_
          rintro e w3 ⟨vy, f, rfl, hK3, HF⟩
          have TK : TailOk w amount n w.heap.size (w.heap.size + 1) vy f w3 := ⟨Nat.le_refl _, by omega, B1.later hK3, B2.later hK3, hK0.trans hK3, by
            refine Lib.hid ?_
            rcases HF.out with ⟨x, y, q, z, v, o⟩ | z
            · exact .inl ⟨x, y, q, by omega, v, o⟩
            · exact .inr z⟩
          have hA3 := hA1.later hK3
          have hO3 := hO'.later hK3
          clear HF B1 B2 C1 C2 hK0 hA1 hO' hK3
          go_wp2_with fail
          refine (rweights_ok _ n0 _ wt _ (by omega) hA3 HO.out).mono ?_
          rintro e w4 ⟨rfl, rfl⟩
          have C1 := TK.2.2.1.cell
          go_wp2_with fail
          refine (rmoney_any _ _).mono ?_
          rintro e w4 ⟨rfl, rfl⟩
          rw [HM.out]
          have sz : (sumTo wt n0 == 0) = false := by rw [beq_eq_false_iff_ne]; exact HS.out
          have n1 := OK.out.n1
          obtain ⟨wp, off, rfl, hWR⟩ := hA3.at n1
          go_wp2_with fail
          refine (rby_any amount wp off n0 cap u wt d _ OK.out hWR).mono ?_
          rintro e w5 ⟨po, hpo, rfl, hO5, hK5⟩
          have hX5 := hO3.later hK5
          replace TK := TK.later hK5
          clear hO3 hK5 hWR hA3 C1
          go_wp2_with fail
          refine (equal_yes (byV amount n0 u wt d) _ _ _ _ _ _ n0 _ (by omega) hX5.rd hO5.rd).mono ?_
          rintro e w6 ⟨rfl, hd⟩
          replace TK := TK.later hd.kept
          have C1 := TK.2.2.1.cell
          clear hX5 hO5 hd
          have C2 := TK.2.2.2.1.cell
          go_wp2_with fail
          refine (rmoney_any _ _).mono ?_
          rintro e w7 ⟨rfl, rfl⟩
          obtain ⟨t1, t2, F1, F2, hKt, HF⟩ := TK
          rcases HF.out with ⟨⟨ev1, ev2, ev3⟩, rfl, q, hq, rfl, hOy⟩ | ⟨ev, rfl, rfl⟩
          · obtain ⟨m, rfl⟩ := Int.eq_ofNat_of_zero_le (show 0 ≤ n by omega)
            rw [Int.toNat_natCast] at hOy ⊢
            rw [ev1]
            have am := (am_iff amount).1 ev1
            have d1 : decide ((m : Int) < 1) = false := by simp; omega
            have d2 : decide ((40 : Int) < (m : Int)) = false := by simp; omega
            clear HF ev1
            have l1 := F1.lt
            have l2 := F2.lt
            have x1 : w.heap.size ≠ w6.heap.size := by omega
            have x2 : w6.heap.size ≠ w.heap.size := by omega
            have x3 : w.heap.size + 1 ≠ w6.heap.size := by omega
            have x4 : w6.heap.size ≠ w.heap.size + 1 := by omega
            have G1 := F1.later ((Kept.refl w6).alloc (.cells #[.int .i64 1] 3))
            have G2 := F2.later ((Kept.refl w6).alloc (.cells #[.int .i64 1] 3))
            have G3 : FBox (w6.alloc (.cells #[.int .i64 1] 3)) w6.heap.size (.int .i64 1) := FBox.new rfl
            have hY := hOy.later ((Kept.refl w6).alloc (.cells #[.int .i64 1] 3))
            have hKn := hKt.alloc (.cells #[.int .i64 1] 3)
            have C3 := G1.cell
            have C4 := G2.cell
            have C5 := G1.free
            have C6 := F1.free
            by_cases ng : amount < 0
            · have ng1 : decide (amount < 0) = true := by simpa using ng
              go_wp2_with fail
              have N1 := (F1.set (x := .int .i64 (-amount))).later ((Kept.refl _).alloc (.cells #[.int .i64 (-1)] 3))
              have N2 := (F2.other (r := w.heap.size) (i := 0) (x := .int .i64 (-amount)) (by omega)).later ((Kept.refl _).alloc (.cells #[.int .i64 (-1)] 3))
              have N3 : FBox ((w6.setCell ⟨w.heap.size, 0, none⟩ (.int .i64 (-amount))).alloc (.cells #[.int .i64 (-1)] 3)) w6.heap.size (.int .i64 (-1)) := FBox.new (by simp)
              have BX := Lib.hid (⟨N3.sl, N1.sl, N2.sl⟩ : Boxes ((w6.setCell ⟨w.heap.size, 0, none⟩ (.int .i64 (-amount))).alloc (.cells #[.int .i64 (-1)] 3)) w6.heap.size w.heap.size (w.heap.size + 1) (-1) (-amount) m)
              have YN := Lib.hid ((hOy.other (r := w.heap.size) (i := 0) (v := .int .i64 (-amount)) (by omega)).later ((Kept.refl _).alloc (.cells #[.int .i64 (-1)] 3)))
              have KN := Lib.hid ((hKt.setAt (b := w.heap.size) (i := 0) (Nat.le_refl _) (.int .i64 (-amount))).alloc (.cells #[.int .i64 (-1)] 3))
              clear N1 N2 N3 hY hKn G3
              go_region
              all_goals go_wp2_with fail
              all_goals
                refine (parted_any _ _ _ m (-1) (-amount) _ (by omega) (by omega) (by omega) (by omega) (.inr rfl) BX.out.drew).mono ?_
                rintro e w8 ⟨ad, cp, rfl, hAr, hK8⟩
                obtain ⟨pp, po', rfl, hRr⟩ := hAr.at (by omega)
                rw [ev_neg m ng] at hRr
                have hY := YN.out.drew.later hK8
                have hKn := KN.out.drew.trans hK8
                clear hAr hK8 BX YN KN G1 G2 C1 C2 C3 C4 C5 C6 F1 F2 hOy hKt
                go_wp2_with fail
                refine (equal_yes (evV amount m) _ _ _ _ _ _ m _ (by omega) hY.rd hRr).mono ?_
                rintro e w9 ⟨rfl, hd⟩
                replace hKn := hKn.trans hd.kept
                clear hd hY hRr
                go_wp2
                go_ret
                exact ⟨ret_bool (by simp), hKn⟩
            · have ng1 : decide (amount < 0) = false := by simpa using ng
              go_wp2_with fail
              have BX : Boxes (w6.alloc (.cells #[.int .i64 1] 3)) w6.heap.size w.heap.size (w.heap.size + 1) 1 amount m := ⟨G3.sl, G1.sl, G2.sl⟩
              refine (parted_any _ _ _ m 1 amount _ (by omega) (by omega) (by omega) (by omega) (.inl rfl) BX).mono ?_
              rintro e w8 ⟨ad, cp, rfl, hAr, hK8⟩
              obtain ⟨pp, po', rfl, hRr⟩ := hAr.at (by omega)
              rw [ev_pos m ng] at hRr
              replace hY := hY.later hK8
              replace hKn := hKn.trans hK8
              clear hAr hK8 BX G1 G2 G3 C1 C2 C3 C4 C5 C6 F1 F2 hOy hKt
              go_wp2_with fail
              refine (equal_yes (evV amount m) _ _ _ _ _ _ m _ (by omega) hY.rd hRr).mono ?_
              rintro e w9 ⟨rfl, hd⟩
              replace hKn := hKn.trans hd.kept
              clear hd hY hRr
              go_wp2
              go_ret
              exact ⟨ret_bool (by simp), hKn⟩
          · cases ab : amB amount
            · rw [HM.out] at ab; cases ab
            · by_cases z : n < 1
              · have d1 : decide (n < 1) = true := by simpa using z
                clear HF ev ab z
                go_wp2
                go_ret
                exact ⟨ret_bool (by simp), hKt⟩
              · have y : 40 < n := by
                  by_cases y : 40 < n
                  · exact y
                  · exact absurd ⟨ab, by omega, by omega⟩ ev
                have d1 : decide (n < 1) = false := by simpa using z
                have d2 : decide (40 < n) = true := by simpa using y
                clear HF ev ab z y
                go_wp2
                go_ret
                exact ⟨ret_bool (by simp), hKt⟩

end Go.Proofs.Ytkbbofpjelgiiab
