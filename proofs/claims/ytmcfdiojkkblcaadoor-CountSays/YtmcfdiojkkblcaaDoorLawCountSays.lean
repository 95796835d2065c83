/-
  The law CountSays returns true: Between answers what the reference says, for all arguments. Condition: the table of the months' lengths reads as the program lays it (Tab).
-/
import Derived.Test.YtmcfdiojkkblcaaDoorWalkF
namespace Go.Proofs.YtmcfdiojkkblcaaDoor
open Go.RowKit

theorem dayB_true {n : Int} (h : dayB n = true) : 0 ≤ n ∧ n ≤ 292193 := by unfold dayB at h; exact of_decide_eq_true h

set_option maxHeartbeats 1000000 in
theorem between_no1 (way a b : Int) (w : World) (hT : Tab w) (h : dayB a = false) :
    Calls Tryd.prog 29 #[.int .i64 way, .int .i64 a, .int .i64 b] w fun e w' => e = .returned (.tuple #[fr2 0 0, .int .i64 1]) ∧ Kept w w' := by
  have H := Lib.hid h; clear h
  go_enter Tryd.func29, Tryd.ntmps29
  go_wp2_with fail
  refine (date_no _ _ H.out).mono ?_
  rintro e w1 ⟨rfl, hk⟩
  cases hb : dayB b
  · have HB := Lib.hid hb; clear hb
    go_wp2_with fail
    refine (date_no _ _ HB.out).mono ?_
    rintro e w2 ⟨rfl, hk2⟩
    have hk3 := (hk.alloc (Obj.cells #[.int .i64 0, .int .i64 0, .int .i64 0] 23)).trans hk2
    have hk4 := ((Kept.refl w).alloc (Obj.cells #[.int .i64 0, .int .i64 0] 39)).trans hk3
    have hz : w.heap.size < w2.heap.size := by have := hk3.le; simp at this; omega
    obtain ⟨hc, hf⟩ := hk3.rd
    clear hT hk hk2
    go_wp2
    exact bodyPost_ret (v := .tuple #[fr2 0 0, .int .i64 1]) (by simp [results, Tryd.results29, go_sem, hc, hz]) rfl ⟨rfl, ((hk4.setCell (Nat.le_refl _) _).setCell (Nat.le_refl _) _).alloc _⟩
  · obtain ⟨b0, b1⟩ := dayB_true hb
    clear hb
    go_wp2_with fail
    refine (date_yes _ _ (((hT.alloc _).kept hk).alloc _) b0 b1).mono ?_
    rintro e w2 ⟨rfl, hk2⟩
    have hk3 := (hk.alloc (Obj.cells #[.int .i64 0, .int .i64 0, .int .i64 0] 23)).trans hk2
    have hk4 := ((Kept.refl w).alloc (Obj.cells #[.int .i64 0, .int .i64 0] 39)).trans hk3
    have hz : w.heap.size < w2.heap.size := by have := hk3.le; simp at this; omega
    obtain ⟨hc, hf⟩ := hk3.rd
    clear hT hk hk2
    go_wp2
    exact bodyPost_ret (v := .tuple #[fr2 0 0, .int .i64 1]) (by simp [results, Tryd.results29, go_sem, hc, hz]) rfl ⟨rfl, ((hk4.setCell (Nat.le_refl _) _).setCell (Nat.le_refl _) _).alloc _⟩

set_option maxHeartbeats 1000000 in
theorem between_no2 (way a b : Int) (w : World) (hT : Tab w) (a0 : 0 ≤ a) (a1 : a ≤ 292193) (h : dayB b = false) :
    Calls Tryd.prog 29 #[.int .i64 way, .int .i64 a, .int .i64 b] w fun e w' => e = .returned (.tuple #[fr2 0 0, .int .i64 1]) ∧ Kept w w' := by
  have H := Lib.hid h; clear h
  go_enter Tryd.func29, Tryd.ntmps29
  go_wp2_with fail
  refine (date_yes _ _ (hT.alloc _) a0 a1).mono ?_
  rintro e w1 ⟨rfl, hk⟩
  go_wp2_with fail
  refine (date_no _ _ H.out).mono ?_
  rintro e w2 ⟨rfl, hk2⟩
  have hk3 := (hk.alloc (Obj.cells #[.int .i64 (Cal.Y a), .int .i64 (Cal.M a), .int .i64 (Cal.D a)] 23)).trans hk2
  have hk4 := ((Kept.refl w).alloc (Obj.cells #[.int .i64 0, .int .i64 0] 39)).trans hk3
  have hz : w.heap.size < w2.heap.size := by have := hk3.le; simp at this; omega
  obtain ⟨hc, hf⟩ := hk3.rd
  clear hT hk hk2
  go_wp2
  exact bodyPost_ret (v := .tuple #[fr2 0 0, .int .i64 1]) (by simp [results, Tryd.results29, go_sem, hc, hz]) rfl ⟨rfl, ((hk4.setCell (Nat.le_refl _) _).setCell (Nat.le_refl _) _).alloc _⟩

set_option maxHeartbeats 1000000 in
theorem between_no3 (way a b : Int) (w : World) (hT : Tab w) (a0 : 0 ≤ a) (a1 : a ≤ 292193) (b0 : 0 ≤ b) (b1 : b ≤ 292193) (h : b < a ∨ way < 0 ∨ 2 < way) :
    Calls Tryd.prog 29 #[.int .i64 way, .int .i64 a, .int .i64 b] w fun e w' => e = .returned (.tuple #[fr2 0 0, .int .i64 1]) ∧ Kept w w' := by
  have H := Lib.hid h; clear h
  go_enter Tryd.func29, Tryd.ntmps29
  go_wp2_with fail
  refine (date_yes _ _ (hT.alloc _) a0 a1).mono ?_
  rintro e w1 ⟨rfl, hk⟩
  go_wp2_with fail
  refine (date_yes _ _ (((hT.alloc _).kept hk).alloc _) b0 b1).mono ?_
  rintro e w2 ⟨rfl, hk2⟩
  have hk3 := (hk.alloc (Obj.cells #[.int .i64 (Cal.Y a), .int .i64 (Cal.M a), .int .i64 (Cal.D a)] 23)).trans hk2
  have hk4 := ((Kept.refl w).alloc (Obj.cells #[.int .i64 0, .int .i64 0] 39)).trans hk3
  have hz : w.heap.size < w2.heap.size := by have := hk3.le; simp at this; omega
  obtain ⟨hc, hf⟩ := hk3.rd
  clear hT hk hk2
  by_cases hlt : b < a
  · clear H
    go_wp2
    exact bodyPost_ret (v := .tuple #[fr2 0 0, .int .i64 1]) (by simp [results, Tryd.results29, go_sem, hc, hz]) rfl ⟨rfl, ((hk4.setCell (Nat.le_refl _) _).setCell (Nat.le_refl _) _).alloc _⟩
  · have h := H.out
    have e0 : (way == 0) = false := by rw [beq_eq_false_iff_ne]; omega
    have e1 : (way == 1) = false := by rw [beq_eq_false_iff_ne]; omega
    have e2 : (way == 2) = false := by rw [beq_eq_false_iff_ne]; omega
    clear H h
    go_wp2
    exact bodyPost_ret (v := .tuple #[fr2 0 0, .int .i64 1]) (by simp [results, Tryd.results29, go_sem, hc, hz]) rfl ⟨rfl, ((hk4.setCell (Nat.le_refl _) _).setCell (Nat.le_refl _) _).alloc _⟩

set_option maxHeartbeats 4000000 in
theorem countSays_walk (way a b : Int) (w : World) (hT : Tab w) :
    Calls Tryd.prog 5 #[.int .i64 way, .int .i64 a, .int .i64 b] w fun e w' => e = .returned (.bool true) ∧ Kept w w' := by
  by_cases hw : 0 ≤ way ∧ way ≤ 2
  · obtain ⟨hw0, hw2⟩ := hw
    cases ha : dayB a
    · have HA := Lib.hid ha
      clear ha
      go_enter Tryd.func5, Tryd.ntmps5
      go_wp2_with fail
      refine (between_no1 _ _ _ _ hT HA.out).mono ?_
      rintro e w1 ⟨rfl, hk1⟩
      go_wp2_with fail
      refine (rday_any _ _).mono ?_
      rintro e w2 ⟨rfl, rfl⟩
      rw [HA.out]
      go_wp2
      go_ret
      exact ⟨rfl, hk1.alloc _⟩
    · have HA := Lib.hid ha
      obtain ⟨a0, a1⟩ := dayB_true ha
      clear ha
      cases hb : dayB b
      · have HB := Lib.hid hb
        clear hb
        go_enter Tryd.func5, Tryd.ntmps5
        go_wp2_with fail
        refine (between_no2 _ _ _ _ hT a0 a1 HB.out).mono ?_
        rintro e w1 ⟨rfl, hk1⟩
        go_wp2_with fail
        refine (rday_any _ _).mono ?_
        rintro e w2 ⟨rfl, rfl⟩
        rw [HA.out]
        go_wp2_with fail
        refine (rday_any _ _).mono ?_
        rintro e w2 ⟨rfl, rfl⟩
        rw [HB.out]
        go_wp2
        go_ret
        exact ⟨rfl, hk1.alloc _⟩
      · have HB := Lib.hid hb
        obtain ⟨b0, b1⟩ := dayB_true hb
        clear hb
        by_cases hlt : b < a
        · go_enter Tryd.func5, Tryd.ntmps5
          go_wp2_with fail
          refine (between_no3 _ _ _ _ hT a0 a1 b0 b1 (.inl hlt)).mono ?_
          rintro e w1 ⟨rfl, hk1⟩
          go_wp2_with fail
          refine (rday_any _ _).mono ?_
          rintro e w2 ⟨rfl, rfl⟩
          rw [HA.out]
          go_wp2_with fail
          refine (rday_any _ _).mono ?_
          rintro e w2 ⟨rfl, rfl⟩
          rw [HB.out]
          go_wp2
          go_ret
          exact ⟨rfl, hk1.alloc _⟩
        · rcases (show way = 0 ∨ way = 1 ∨ way = 2 by omega) with rfl | rfl | rfl
          · go_enter Tryd.func5, Tryd.ntmps5
            go_wp2_with fail
            refine (between_360 _ _ _ hT a0 (by omega) b1).mono ?_
            rintro e w1 ⟨rfl, hk1⟩
            go_wp2_with fail
            refine (rday_any _ _).mono ?_
            rintro e w2 ⟨rfl, rfl⟩
            rw [HA.out]
            go_wp2_with fail
            refine (rday_any _ _).mono ?_
            rintro e w2 ⟨rfl, rfl⟩
            rw [HB.out]
            go_wp2
            go_ret
            exact ⟨rfl, (hk1.alloc _).alloc _⟩
          · go_enter Tryd.func5, Tryd.ntmps5
            go_wp2_with fail
            refine (between_365 _ _ _ hT a0 (by omega) b1).mono ?_
            rintro e w1 ⟨rfl, hk1⟩
            go_wp2_with fail
            refine (rday_any _ _).mono ?_
            rintro e w2 ⟨rfl, rfl⟩
            rw [HA.out]
            go_wp2_with fail
            refine (rday_any _ _).mono ?_
            rintro e w2 ⟨rfl, rfl⟩
            rw [HB.out]
            go_wp2
            go_ret
            exact ⟨rfl, (hk1.alloc _).alloc _⟩
          · go_enter Tryd.func5, Tryd.ntmps5
            go_wp2_with fail
            refine (between_euro _ _ _ hT a0 (by omega) b1).mono ?_
            rintro e w1 ⟨rfl, hk1⟩
            go_wp2_with fail
            refine (rday_any _ _).mono ?_
            rintro e w2 ⟨rfl, rfl⟩
            rw [HA.out]
            go_wp2_with fail
            refine (rday_any _ _).mono ?_
            rintro e w2 ⟨rfl, rfl⟩
            rw [HB.out]
            go_wp2_with fail
            refine (reuro_any _ _ _ a0 a1 b0 b1).mono ?_
            rintro e w3 ⟨rfl, hk3⟩
            obtain ⟨hc, hf⟩ := hk3.rd
            have hl := hk1.le
            go_wp2
            go_ret
            exact ⟨rfl, (((hk1.alloc _).alloc _).trans hk3).setCell (Nat.le_succ_of_le hl) _⟩
  · have hw2 : way < 0 ∨ 2 < way := by omega
    have HT := hT
    have contract : Calls Tryd.prog 29 #[.int .i64 way, .int .i64 a, .int .i64 b] w fun e w' => e = .returned (.tuple #[fr2 0 0, .int .i64 1]) ∧ Kept w w' := by
      cases ha : dayB a
      · exact between_no1 _ _ _ _ hT ha
      · obtain ⟨a0, a1⟩ := dayB_true ha
        cases hb : dayB b
        · exact between_no2 _ _ _ _ hT a0 a1 hb
        · obtain ⟨b0, b1⟩ := dayB_true hb
          exact between_no3 _ _ _ _ hT a0 a1 b0 b1 (.inr hw2)
    have C := Lib.hid contract
    clear contract hT HT hw
    rcases hw2 with hw | hw
    all_goals
      go_enter Tryd.func5, Tryd.ntmps5
      go_wp2_with fail
      refine C.out.mono ?_
      rintro e w1 ⟨rfl, hk1⟩
      go_wp2
      go_ret
      exact ⟨rfl, hk1.alloc _⟩

end Go.Proofs.YtmcfdiojkkblcaaDoor
