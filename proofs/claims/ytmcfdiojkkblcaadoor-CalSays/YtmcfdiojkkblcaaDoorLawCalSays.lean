/-
  The law CalSays returns true: Of, Date and Weekday answer what the reference says, for all arguments. Condition: the table of the months' lengths reads as the program lays it (Tab).
-/
import Derived.Test.YtmcfdiojkkblcaaDoorWalkE
namespace Go.Proofs.YtmcfdiojkkblcaaDoor
open Go.RowKit

theorem rof_ok {y m d : Int} (h : Cal.Vld y m d) : rofV y m d = Cal.num y m d := by
  unfold rofV; rw [if_pos ((Cal.vldB_iff y m d).2 h)]
theorem rof_bad {y m d : Int} (h : ¬ Cal.Vld y m d) : rofV y m d = -1 := by
  unfold rofV; rw [if_neg (fun k => h ((Cal.vldB_iff y m d).1 k))]

theorem one_later {W w' : World} {p : Nat} {a b c : Value} (s1 : p < W.heap.size) (f0 : W.cell? ⟨p, 0, none⟩ = some a) (f1 : W.cell? ⟨p, 1, none⟩ = some b) (f2 : W.cell? ⟨p, 2, none⟩ = some c) (h : Kept W w') :
    Kept W w' ∧ w'.cell? ⟨p, 0, none⟩ = some a ∧ w'.cell? ⟨p, 1, none⟩ = some b ∧ w'.cell? ⟨p, 2, none⟩ = some c := by
  rw [h.rd.1 _ _ s1, h.rd.1 _ _ s1, h.rd.1 _ _ s1]
  exact ⟨h, f0, f1, f2⟩

/-- What Of and the reference's Of return of one date. -/
def OfSame (y m d : Int) : Prop := (ofE y m d = 1 ∧ ofV y m d = 0 ∧ rofV y m d = -1) ∨ (ofE y m d = 0 ∧ 0 ≤ ofV y m d ∧ rofV y m d = ofV y m d)
theorem of_same (y m d : Int) : OfSame y m d := by
  by_cases v : Cal.Vld y m d
  · right
    obtain ⟨a, b⟩ := of_ok v
    have nb := Cal.num_bd v
    rw [a, b, rof_ok v]; exact ⟨rfl, nb.1, rfl⟩
  · left
    obtain ⟨a, b⟩ := of_bad v
    exact ⟨b, a, rof_bad v⟩

theorem weekdays (n : Int) (n0 : 0 ≤ n) : ((n + 6) % 7 == (IntKind.i64.wrap (n.tmod 7 + 6)).tmod 7) = true := by
  rw [Int.tmod_eq_emod_of_nonneg n0, IntWalk.i64_in _ (by omega), Int.tmod_eq_emod_of_nonneg (by omega), beq_iff_eq]
  omega

set_option maxHeartbeats 4000000 in
theorem calSays_walk (y m d n : Int) (w : World) (hT : Tab w) :
    Calls Tryd.prog 3 #[day3 y m d, .int .i64 n] w fun e w' => e = .returned (.bool true) ∧ Kept w w' := by
  have O := Lib.hid (of_same y m d)
  cases hB : dayB n
  · have HB := Lib.hid hB
    clear hB
    go_enter Tryd.func3, Tryd.ntmps3
    go_wp2_with fail
    refine (of_any _ _ _ _ (hT.alloc _)).mono ?_
    rintro e w1 ⟨rfl, hk1⟩
    go_wp2_with fail
    refine (date_no _ _ HB.out).mono ?_
    rintro e w2 ⟨rfl, hk2⟩
    go_wp2_with fail
    refine (weekday_no _ _ HB.out).mono ?_
    rintro e w3 ⟨rfl, rfl⟩
    obtain ⟨hz, g0, g1, g2⟩ := box_later (hk1.trans hk2)
    go_wp2_with fail
    refine (rof_any _ _ _ _).mono ?_
    rintro e w3 ⟨rfl, hk3⟩
    obtain ⟨hz3, x0, x1, x2⟩ := box_later hk3
    have hK3 := ((((Kept.refl w).alloc _).trans hk1).trans hk2).alloc _ |>.trans hk3
    clear hk1 hk2 hk3 hT g0 g1 g2
    rcases O.out with ⟨o1, o2, o3⟩ | ⟨o1, o2, o3⟩
    · rw [o1, o2, o3]
      clear o1 o2 o3 O
      go_wp2_with fail
      refine (rday_any _ _).mono ?_
      rintro e w4 ⟨rfl, rfl⟩
      rw [HB.out]
      go_wp2
      go_ret
      exact ⟨rfl, hK3⟩
    · rw [o1, o3]
      clear o1 o3 O
      go_wp2_with fail
      refine (rday_any _ _).mono ?_
      rintro e w4 ⟨rfl, rfl⟩
      rw [HB.out]
      go_wp2
      go_ret
      exact ⟨rfl, hK3⟩
  · have HB := Lib.hid hB
    have hn : 0 ≤ n ∧ n ≤ 292193 := by unfold dayB at hB; exact of_decide_eq_true hB
    obtain ⟨n0, n1⟩ := hn
    clear hB
    go_enter Tryd.func3, Tryd.ntmps3
    go_wp2_with fail
    refine (of_any _ _ _ _ (hT.alloc _)).mono ?_
    rintro e w1 ⟨rfl, hk1⟩
    go_wp2_with fail
    refine (date_yes _ _ ((hT.alloc _).kept hk1) n0 n1).mono ?_
    rintro e w2 ⟨rfl, hk2⟩
    go_wp2_with fail
    refine (weekday_yes _ _ n0 n1).mono ?_
    rintro e w3 ⟨rfl, rfl⟩
    obtain ⟨hz, g0, g1, g2⟩ := box_later (hk1.trans hk2)
    go_wp2_with fail
    refine (rof_any _ _ _ _).mono ?_
    rintro e w3 ⟨rfl, hk3⟩
    obtain ⟨hz3, x0, x1, x2⟩ := box_later hk3
    have hK3 := ((((Kept.refl w).alloc _).trans hk1).trans hk2).alloc _ |>.trans hk3
    clear hk1 hk2 hk3 hT g0 g1 g2
    rcases O.out with ⟨o1, o2, o3⟩ | ⟨o1, o2, o3⟩
    · rw [o1, o2, o3]
      clear o1 o2 o3 O
      go_wp2_with fail
      refine (rday_any _ _).mono ?_
      rintro e w4 ⟨rfl, rfl⟩
      rw [HB.out]
      go_wp2_with fail
      refine (weekday_yes _ _ (by omega) (by omega)).mono ?_
      rintro e w4 ⟨rfl, rfl⟩
      generalize w2.heap.size = p at *
      go_wp2_with fail
      go_region_held3 (fun w' => Kept w3 w' ∧ w'.cell? ⟨p, 0, none⟩ = some (.int .i64 (Cal.Y n)) ∧ w'.cell? ⟨p, 1, none⟩ = some (.int .i64 (Cal.M n)) ∧ w'.cell? ⟨p, 2, none⟩ = some (.int .i64 (Cal.D n)))
        (first | exact one_later hz3 x0 x1 x2 (Kept.refl w3).drew | exact one_later hz3 x0 x1 x2 hK)
        (first | (go_at_call 22; refine (rdate_any _ _ n0 n1).mono ?_; rintro e w' ⟨rfl, hk⟩; have hK := Kept.trans (a := w3) (And.left (by assumption)) hk; clear hk))
      rename_i hHeld
      clear hHeld
      go_wp2
      go_ret
      exact ⟨ret_bool (weekdays n n0), hK3.trans hK⟩
    · rw [o1, o3]
      clear o1 o3 O
      go_wp2_with fail
      refine (rday_any _ _).mono ?_
      rintro e w4 ⟨rfl, rfl⟩
      rw [HB.out]
      go_wp2_with fail
      refine (weekday_yes _ _ (by omega) (by omega)).mono ?_
      rintro e w4 ⟨rfl, rfl⟩
      generalize w2.heap.size = p at *
      go_wp2_with fail
      go_region_held3 (fun w' => Kept w3 w' ∧ w'.cell? ⟨p, 0, none⟩ = some (.int .i64 (Cal.Y n)) ∧ w'.cell? ⟨p, 1, none⟩ = some (.int .i64 (Cal.M n)) ∧ w'.cell? ⟨p, 2, none⟩ = some (.int .i64 (Cal.D n)))
        (first | exact one_later hz3 x0 x1 x2 (Kept.refl w3).drew | exact one_later hz3 x0 x1 x2 hK)
        (first | (go_at_call 22; refine (rdate_any _ _ n0 n1).mono ?_; rintro e w' ⟨rfl, hk⟩; have hK := Kept.trans (a := w3) (And.left (by assumption)) hk; clear hk))
      rename_i hHeld
      clear hHeld
      go_wp2
      go_ret
      exact ⟨ret_bool (weekdays n n0), hK3.trans hK⟩

end Go.Proofs.YtmcfdiojkkblcaaDoor
