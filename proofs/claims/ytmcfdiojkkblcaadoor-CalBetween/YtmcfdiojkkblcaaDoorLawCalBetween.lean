/-
  The law CalBetween returns true: the months from a first day to a second and from that to a third are, up to one, those from the first to the third. Condition: the table of the months' lengths reads as the program lays it (Tab).
-/
import Derived.Test.YtmcfdiojkkblcaaDoorWalkS
namespace Go.Proofs.YtmcfdiojkkblcaaDoor
open Go.RowKit

set_option maxHeartbeats 4000000 in
theorem calBetween_walk (a b c : Int) (w : World) (hT : Tab w) :
    Calls Tryd.prog 15 #[.int .i64 a, .int .i64 b, .int .i64 c] w fun e w' => e = .returned (.bool true) ∧ Kept w w' := by
  have H1 := Lib.hid (show monV 0 31 = 1 by decide)
  go_enter Tryd.func15, Tryd.ntmps15
  go_wp2_with fail
  refine (months_yes _ _ _ hT (by omega) (by omega) (by omega)).mono ?_
  rintro e w1 ⟨rfl, hk1⟩
  rw [H1.out]
  have hT1 := hT.kept hk1
  clear H1 hT
  go_wp2_with fail
  refine (day_any _ _).mono ?_
  rintro e w2 ⟨r, r0, r1, rfl, rfl⟩
  go_wp2_with fail
  refine (day_any _ _).mono ?_
  rintro e w2 ⟨s, s0, s1, rfl, rfl⟩
  go_wp2_with fail
  refine (day_any _ _).mono ?_
  rintro e w2 ⟨t, t0, t1, rfl, rfl⟩
  go_wp2_with fail
  refine (sort3_any _ _ _ _ _).mono ?_
  rintro e w2 ⟨x, y, z, hxy, hyz, hx, hz, rfl, hk2, hsz, c0, c1, c2⟩
  have x0 : 0 ≤ x := by unfold In3 at hx; omega
  have z1 : z ≤ 292193 := by unfold In3 at hz; omega
  have hT2 := hT1.kept hk2
  have hK2 := hk1.trans hk2
  clear hx hz hT1 hk1 hk2
  generalize w1.heap.size = p at *
  have MB := Lib.hid (mon_between x y z x0 hxy hyz z1)
  have m1 := mon_bd x y x0 hxy (by omega)
  have m2 := mon_bd y z (by omega) hyz z1
  have m3 := mon_bd x z x0 (by omega) z1
  go_wp2_with fail
  go_region_held3 (fun w' => Kept w2 w' ∧ w'.cell? ⟨p, 0, none⟩ = some (.int .i64 x) ∧ w'.cell? ⟨p, 1, none⟩ = some (.int .i64 y) ∧ w'.cell? ⟨p, 2, none⟩ = some (.int .i64 z))
    (first | exact row_later hsz c0 c1 c2 (Kept.refl w2).drew | exact row_later hsz c0 c1 c2 hKa)
    (first | (go_at_call 25; refine (months_yes _ _ _ (hT2.kept (And.left (by assumption))) (by omega) (by omega) (by omega)).mono ?_; rintro e w' ⟨rfl, hk⟩; have hKa := Kept.trans (a := w2) (And.left (by assumption)) hk; clear hk))
  rename_i hHeld
  clear hHeld
  go_wp2_with fail
  go_region_held3 (fun w' => Kept w2 w' ∧ w'.cell? ⟨p, 0, none⟩ = some (.int .i64 x) ∧ w'.cell? ⟨p, 1, none⟩ = some (.int .i64 y) ∧ w'.cell? ⟨p, 2, none⟩ = some (.int .i64 z))
    (first | exact row_later hsz c0 c1 c2 hKa.drew | exact row_later hsz c0 c1 c2 hKb)
    (first | (go_at_call 25; refine (months_yes _ _ _ (hT2.kept (And.left (by assumption))) (by omega) (by omega) (by omega)).mono ?_; rintro e w' ⟨rfl, hk⟩; have hKb := Kept.trans (a := w2) (And.left (by assumption)) hk; clear hk))
  rename_i hHeld
  clear hHeld
  go_wp2_with fail
  go_region_held3 (fun w' => Kept w2 w' ∧ w'.cell? ⟨p, 0, none⟩ = some (.int .i64 x) ∧ w'.cell? ⟨p, 1, none⟩ = some (.int .i64 y) ∧ w'.cell? ⟨p, 2, none⟩ = some (.int .i64 z))
    (first | exact row_later hsz c0 c1 c2 hKb.drew | exact row_later hsz c0 c1 c2 hKc)
    (first | (go_at_call 25; refine (months_yes _ _ _ (hT2.kept (And.left (by assumption))) (by omega) (by omega) (by omega)).mono ?_; rintro e w' ⟨rfl, hk⟩; have hKc := Kept.trans (a := w2) (And.left (by assumption)) hk; clear hk))
  rename_i hHeld
  clear hHeld
  obtain ⟨q1, q2, q3, q4⟩ := MB.out
  clear MB c0 c1 c2 hT2
  go_wp2
  go_ret
  exact ⟨ret_bool (by simp <;> omega), hK2.trans hKc⟩

end Go.Proofs.YtmcfdiojkkblcaaDoor
