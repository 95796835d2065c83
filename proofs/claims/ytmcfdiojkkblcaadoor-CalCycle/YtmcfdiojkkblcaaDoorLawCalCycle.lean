/-
  The law CalCycle returns true: 400 years are 146097 days and whole weeks, and the next day is the next weekday. Condition: the table of the months' lengths reads as the program lays it (Tab).
-/
import Derived.Test.YtmcfdiojkkblcaaDoorWalkD
namespace Go.Proofs.YtmcfdiojkkblcaaDoor
open Go.RowKit

theorem cycle_num (y m d : Int) : Cal.num (y + 400) m d = Cal.num y m d + 146097 := by
  have : Cal.lp (y + 400) = Cal.lp y := by
    unfold Cal.lp; rw [show (y + 400) % 4 = y % 4 by omega, show (y + 400) % 100 = y % 100 by omega, show (y + 400) % 400 = y % 400 by omega]
  unfold Cal.num Cal.cum Cal.ys
  rw [this]; omega
theorem cycle_date (n : Int) (h0 : 0 ≤ n) (h1 : n < 146097) : Cal.Y (n + 146097) = Cal.Y n + 400 ∧ Cal.M (n + 146097) = Cal.M n ∧ Cal.D (n + 146097) = Cal.D n := by
  obtain ⟨⟨a, b, c, d, e, f⟩, g⟩ := Cal.date n h0 (by omega)
  have hl : Cal.lp (Cal.Y n + 400) = Cal.lp (Cal.Y n) := by
    unfold Cal.lp; rw [show (Cal.Y n + 400) % 4 = Cal.Y n % 4 by omega, show (Cal.Y n + 400) % 100 = Cal.Y n % 100 by omega, show (Cal.Y n + 400) % 400 = Cal.Y n % 400 by omega]
  have hy : Cal.Y n ≤ 1999 := by
    have k := Cal.num_lt_year (y := Cal.Y n) (m := Cal.M n) (d := Cal.D n) ⟨a, b, c, d, e, f⟩
    rw [g] at k
    by_cases z : Cal.Y n ≤ 1999
    · exact z
    · have := Cal.ys_mono 2000 (Cal.Y n) (by omega)
      have e2 : Cal.ys 2000 = 146097 := by decide
      omega
  have hd : Cal.dim (Cal.Y n + 400) (Cal.M n) = Cal.dim (Cal.Y n) (Cal.M n) := by unfold Cal.dim; rw [hl]
  have := Cal.back (Cal.Y n + 400) (Cal.M n) (Cal.D n) ⟨by omega, by omega, c, d, e, by rw [hd]; exact f⟩
  rw [cycle_num, g] at this
  exact this

set_option maxHeartbeats 1000000 in
theorem calCycle_walk (n : Int) (w : World) (hT : Tab w) :
    Calls Tryd.prog 7 #[.int .i64 n] w fun e w' => e = .returned (.bool true) ∧ Kept w w' := by
  go_enter Tryd.func7, Tryd.ntmps7
  go_wp2_with fail
  refine (begun_any _ hT).mono ?_
  rintro e w1 ⟨rfl, hk1⟩
  go_wp2_with fail
  refine (within_any _ _ _ (by omega) (by omega)).mono ?_
  rintro e w2 ⟨r, r0, r1, rfl, rfl⟩
  go_wp2_with fail
  refine (date_yes _ _ (hT.kept hk1) r0 (by omega)).mono ?_
  rintro e w2 ⟨rfl, hk2⟩
  go_wp2_with fail
  refine (date_yes _ _ (((hT.kept hk1).kept hk2).alloc _) (by omega) (by omega)).mono ?_
  rintro e w3 ⟨rfl, hk3⟩
  obtain ⟨ey, em, ed⟩ := cycle_date r r0 r1
  rw [ey, em, ed]
  clear ey em ed
  go_wp2_with fail
  refine (weekday_yes _ _ (by omega) (by omega)).mono ?_
  rintro e w' ⟨rfl, rfl⟩
  go_wp2_with fail
  refine (weekday_yes _ _ (by omega) (by omega)).mono ?_
  rintro e w' ⟨rfl, rfl⟩
  go_wp2_with fail
  refine (weekday_yes _ _ (by omega) (by omega)).mono ?_
  rintro e w' ⟨rfl, rfl⟩
  obtain ⟨hz, g0, g1, g2⟩ := box_later hk3
  have hf := box_free hk3
  have hd := dbd r r0 (by omega)
  have q1 : ((r + 6) % 7 == (r + 146097 + 6) % 7) = true := by rw [beq_iff_eq]; omega
  go_wp2
  go_ret
  exact ⟨ret_bool (by rw [beq_iff_eq]; omega), ((((hk1.trans hk2).alloc _).trans hk3).setCell (hk1.trans hk2).le _).alloc _⟩

end Go.Proofs.YtmcfdiojkkblcaaDoor
