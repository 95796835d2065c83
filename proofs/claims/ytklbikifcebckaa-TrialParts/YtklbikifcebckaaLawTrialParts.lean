/-
  The walk of talkeep.TrialParts: it returns true at every input. No condition but those that each theorem names.
-/
import Derived.Test.YtklbikifcebckaaVSort
namespace Go.Proofs.Ytklbikifcebckaa
open Go.RowKit
set_option linter.unusedVariables false

theorem prV_parts {b : Bk} {f m t : Int} (h1 : f ≤ m + 1) (h2 : m ≤ t) : prV b f m + prV b (m + 1) t = prV b f t := by
  unfold prV
  have a := kinS_parts (acs := b.acs) (k := 3) h1 h2 b.ens
  have c := kinS_parts (acs := b.acs) (k := 4) h1 h2 b.ens
  omega
theorem prV_bd {b : Bk} (g : Good b) (f t : Int) : -1440000000000000 ≤ prV b f t ∧ prV b f t ≤ 1440000000000000 := by
  have a := g.kbd 3 f t
  have c := g.kbd 4 f t
  unfold prV; omega
/-- What the region reads. -/
theorem parts_held {V w' : World} {pb ps : Nat} {q : BkA} {b : Bk} {x y z : Int} (hB : BBx V pb q b) (XC : ∀ w', Kept V w' → Kept V w' ∧ w'.cell? ⟨ps, 0, none⟩ = some (.int .i64 x) ∧ w'.cell? ⟨ps, 1, none⟩ = some (.int .i64 y) ∧ w'.cell? ⟨ps, 2, none⟩ = some (.int .i64 z)) (k : Kept V w') :
    Kept V w' ∧ w'.cell? ⟨ps, 0, none⟩ = some (.int .i64 x) ∧ w'.cell? ⟨ps, 1, none⟩ = some (.int .i64 y) ∧ w'.cell? ⟨ps, 2, none⟩ = some (.int .i64 z) ∧ w'.cell? ⟨pb, 0, none⟩ = some (.slice q.aa b.acs.length q.ca) ∧ w'.cell? ⟨pb, 1, none⟩ = some (.slice q.ae b.ens.length q.ce) ∧ w'.cell? ⟨pb, 2, none⟩ = some (.int .i64 b.shut) := by
  obtain ⟨a, c0, c1, c2⟩ := XC w' k
  obtain ⟨_, b0, b1, b2⟩ := hB.later k
  exact ⟨a, c0, c1, c2, b0, b1, b2⟩
set_option maxRecDepth 100000 in
set_option maxHeartbeats 8000000 in
theorem trialParts_walk (q : BkA) (b : Bk) (i0 j0 k0 : Int) (w : World) (hM : BkM w q b) :
    Calls Try.prog 6 #[bkV q b, .int .i64 i0, .int .i64 j0, .int .i64 k0] w fun e w' => e = .returned (.bool true) ∧ Below w.heap.size w w' := by
  have hK2 := (Kept.refl w).alloc (bkO q b)
  have HB := Lib.hid (BBx.new w q b)
  have HM := Lib.hid (hM.later hK2)
  generalize hW : w.alloc (bkO q b) = W at *
  have HW := Lib.hid hW
  have HK := Lib.hid hK2
  clear hM hW hK2
  go_enter Try.func6, Try.ntmps6
  go_wp2_with fail
  rw [HW.out]
  refine (plain_any _).mono ?_
  rintro e w1 ⟨q1, rfl, hM1, hK1⟩
  go_wp2_with fail
  refine (sale_any _ _ _ _ (by decide) (by decide)).mono ?_
  rintro e w2 ⟨p, hp, rfl, hR, hK2⟩
  have PY := Lib.hid (post_yes q1 plainB saleE (some ⟨p, 0, none⟩) 2 w2 (hM1.later hK2) (sale_m hR) sale_ok)
  rw [sale_post] at PY
  go_wp2_with fail
  refine PY.out.mono ?_
  rintro e w3 ⟨q3, rfl, hF, hK3⟩
  have k4 := (Kept.refl w3).alloc (bkO q3 saleB)
  have HM4 := Lib.hid (hF.m.later k4)
  have hK4 := hK1.trans (hK2.trans (hK3.trans k4))
  have TY := Lib.hid (profit_yes q3 saleB 5 5 _ HM4.out saleB_t.1)
  rw [saleB_pr.2] at TY
  clear hM1 hR hF hK1 hK2 hK3
  go_wp2_with fail
  refine TY.out.mono ?_
  rintro e w5 ⟨rfl, hK5⟩
  have hK6 := hK4.trans hK5
  clear hK4 hK5 k4
  go_wp2_with fail
  refine (wn_any _ _ _ (by decide) (by decide)).mono ?_
  rintro e w6 ⟨rfl, rfl⟩
  have W1 := wnV_bd i0 (n := 292193) (by decide)
  generalize wnV i0 292193 = r at *
  go_wp2_with fail
  refine (day_any _ _).mono ?_
  rintro e w6 ⟨rfl, rfl⟩
  have D1 := (dyB_iff _).1 (dyV_ok j0)
  generalize dyV j0 = s at *
  go_wp2_with fail
  refine (day_any _ _).mono ?_
  rintro e w6 ⟨rfl, rfl⟩
  have D2 := (dyB_iff _).1 (dyV_ok k0)
  generalize dyV k0 = t at *
  go_wp2_with fail
  refine (sort3_any _ _ _ _ _).mono ?_
  rintro e w7 ⟨x, y, z, hxy, hyz, hx, hz, rfl, hk7, hsz, c0, c1, c2⟩
  have x0 : 0 ≤ x := by unfold In3 at hx; omega
  have z1 : z ≤ 292193 := by unfold In3 at hz; omega
  have hK7 := hK6.trans hk7
  obtain ⟨b0, b1, b2, b3⟩ := HB.out.later hK7
  have HK7 := Lib.hid hK7
  have HB7 := Lib.hid (HB.out.later hK7)
  clear hx hz hk7 hK6 hK7 W1 D1 D2
  have XC := Lib.hid (fun w' k => row_later (w' := w') hsz c0 c1 c2 k)
  generalize w5.heap.size = ps at *
  by_cases my : y = 292193
  · subst my
    go_wp2
    go_ret
    exact ⟨rfl, HK.out.trans HK7.out⟩
  · have my2 : (y == 292193) = false := by simpa using my
    have w1' : IntKind.i64.wrap (y + 1) = y + 1 := IntWalk.i64_in _ (by omega)
    by_cases ok : bkE b = 0
    · have gd := bkE_iff.1 ok
      have t1 := Lib.hid (tcE_of (f := x) (t := y) gd (by omega))
      have t2 := Lib.hid (tcE_of (f := y + 1) (t := max (y + 1) z) gd (by omega))
      have t3 := Lib.hid (tcE_of (f := x) (t := max (y + 1) z) gd (by omega))
      have P1 := Lib.hid (fun V (h : BkM V q b) => profit_yes q b _ _ V h t1.out)
      have P2 := Lib.hid (fun V (h : BkM V q b) => profit_yes q b _ _ V h t2.out)
      have P3 := Lib.hid (fun V (h : BkM V q b) => profit_yes q b _ _ V h t3.out)
      have PA := Lib.hid (prV_parts (b := b) (f := x) (m := y) (t := max (y + 1) z) (by omega) (by omega))
      obtain ⟨q1, q2⟩ := prV_bd gd x y
      obtain ⟨q3, q4⟩ := prV_bd gd (y + 1) (max (y + 1) z)
      clear ok gd my
      have y0 : 0 ≤ y + 1 := by omega
      go_wp2_with fail
      clear c0 c1 c2 b0 b1 b2 b3
      go_region_held3 (fun w' => Kept w7 w' ∧ w'.cell? ⟨ps, 0, none⟩ = some (.int .i64 x) ∧ w'.cell? ⟨ps, 1, none⟩ = some (.int .i64 y) ∧ w'.cell? ⟨ps, 2, none⟩ = some (.int .i64 z) ∧ w'.cell? ⟨w.heap.size, 0, none⟩ = some (.slice q.aa b.acs.length q.ca) ∧ w'.cell? ⟨w.heap.size, 1, none⟩ = some (.slice q.ae b.ens.length q.ce) ∧ w'.cell? ⟨w.heap.size, 2, none⟩ = some (.int .i64 b.shut))
        (first | exact parts_held HB7.out XC.out (Kept.refl w7).drew | exact parts_held HB7.out XC.out Ka)
        (first | (go_at_call 20; refine (P1.out _ (HM.out.later (HK7.out.trans (And.left (by assumption))))).mono ?_; rintro e w8 ⟨rfl, hk8⟩; have Ka := Kept.trans (a := w7) (And.left (by assumption)) hk8; clear hk8))
      rename_i hHeld
      clear hHeld
      go_wp2_with fail
      go_region_held3 (fun w' => Kept w7 w' ∧ w'.cell? ⟨ps, 0, none⟩ = some (.int .i64 x) ∧ w'.cell? ⟨ps, 1, none⟩ = some (.int .i64 y) ∧ w'.cell? ⟨ps, 2, none⟩ = some (.int .i64 z) ∧ w'.cell? ⟨w.heap.size, 0, none⟩ = some (.slice q.aa b.acs.length q.ca) ∧ w'.cell? ⟨w.heap.size, 1, none⟩ = some (.slice q.ae b.ens.length q.ce) ∧ w'.cell? ⟨w.heap.size, 2, none⟩ = some (.int .i64 b.shut))
        (first | exact parts_held HB7.out XC.out Ka.drew | exact parts_held HB7.out XC.out Kb)
        (first | (go_at_call 20; refine (P2.out _ (HM.out.later (HK7.out.trans (And.left (by assumption))))).mono ?_; rintro e w8 ⟨rfl, hk9⟩; have Kb := Kept.trans (a := w7) (And.left (by assumption)) hk9; clear hk9))
      rename_i hHeld
      clear hHeld
      go_wp2_with fail
      go_region_held3 (fun w' => Kept w7 w' ∧ w'.cell? ⟨ps, 0, none⟩ = some (.int .i64 x) ∧ w'.cell? ⟨ps, 1, none⟩ = some (.int .i64 y) ∧ w'.cell? ⟨ps, 2, none⟩ = some (.int .i64 z) ∧ w'.cell? ⟨w.heap.size, 0, none⟩ = some (.slice q.aa b.acs.length q.ca) ∧ w'.cell? ⟨w.heap.size, 1, none⟩ = some (.slice q.ae b.ens.length q.ce) ∧ w'.cell? ⟨w.heap.size, 2, none⟩ = some (.int .i64 b.shut))
        (first | exact parts_held HB7.out XC.out Kb.drew | exact parts_held HB7.out XC.out Kc)
        (first | (go_at_call 20; refine (P3.out _ (HM.out.later (HK7.out.trans (And.left (by assumption))))).mono ?_; rintro e w8 ⟨rfl, hk9⟩; have Kc := Kept.trans (a := w7) (And.left (by assumption)) hk9; clear hk9))
      rename_i hHeld
      clear hHeld
      have FIN := Lib.hid (show (prV b x y + prV b (y + 1) (max (y + 1) z) == prV b x (max (y + 1) z)) = true by rw [PA.out, beq_iff_eq])
      have w9' : IntKind.i64.wrap (prV b x y + prV b (y + 1) (max (y + 1) z)) = prV b x y + prV b (y + 1) (max (y + 1) z) := IntWalk.i64_in _ (by omega)
      go_wp2
      go_ret
      exact ⟨ret_bool FIN.out, HK.out.trans (HK7.out.trans Kc)⟩
    · have e1 := fun f t => show tcE b f t = bkE b by unfold tcE; rw [if_neg ok]
      have P1 := Lib.hid (fun f t V (h : BkM V q b) => profit_no q b f t V h (by rw [e1]; exact ok))
      have h2 : (bkE b != 0) = true := by simpa using ok
      simp only [e1] at P1
      generalize bkE b = ek at *
      clear ok my e1
      have y0 : 0 ≤ y + 1 := by omega
      go_wp2_with fail
      clear c0 c1 c2 b0 b1 b2 b3
      go_region_held3 (fun w' => Kept w7 w' ∧ w'.cell? ⟨ps, 0, none⟩ = some (.int .i64 x) ∧ w'.cell? ⟨ps, 1, none⟩ = some (.int .i64 y) ∧ w'.cell? ⟨ps, 2, none⟩ = some (.int .i64 z) ∧ w'.cell? ⟨w.heap.size, 0, none⟩ = some (.slice q.aa b.acs.length q.ca) ∧ w'.cell? ⟨w.heap.size, 1, none⟩ = some (.slice q.ae b.ens.length q.ce) ∧ w'.cell? ⟨w.heap.size, 2, none⟩ = some (.int .i64 b.shut))
        (first | exact parts_held HB7.out XC.out (Kept.refl w7).drew | exact parts_held HB7.out XC.out Ka)
        (first | (go_at_call 20; refine (P1.out _ _ _ (HM.out.later (HK7.out.trans (And.left (by assumption))))).mono ?_; rintro e w8 ⟨rfl, hk8⟩; have Ka := Kept.trans (a := w7) (And.left (by assumption)) hk8; clear hk8))
      rename_i hHeld
      clear hHeld
      go_wp2_with fail
      go_region_held3 (fun w' => Kept w7 w' ∧ w'.cell? ⟨ps, 0, none⟩ = some (.int .i64 x) ∧ w'.cell? ⟨ps, 1, none⟩ = some (.int .i64 y) ∧ w'.cell? ⟨ps, 2, none⟩ = some (.int .i64 z) ∧ w'.cell? ⟨w.heap.size, 0, none⟩ = some (.slice q.aa b.acs.length q.ca) ∧ w'.cell? ⟨w.heap.size, 1, none⟩ = some (.slice q.ae b.ens.length q.ce) ∧ w'.cell? ⟨w.heap.size, 2, none⟩ = some (.int .i64 b.shut))
        (first | exact parts_held HB7.out XC.out Ka.drew | exact parts_held HB7.out XC.out Kb)
        (first | (go_at_call 20; refine (P1.out _ _ _ (HM.out.later (HK7.out.trans (And.left (by assumption))))).mono ?_; rintro e w8 ⟨rfl, hk9⟩; have Kb := Kept.trans (a := w7) (And.left (by assumption)) hk9; clear hk9))
      rename_i hHeld
      clear hHeld
      go_wp2_with fail
      go_region_held3 (fun w' => Kept w7 w' ∧ w'.cell? ⟨ps, 0, none⟩ = some (.int .i64 x) ∧ w'.cell? ⟨ps, 1, none⟩ = some (.int .i64 y) ∧ w'.cell? ⟨ps, 2, none⟩ = some (.int .i64 z) ∧ w'.cell? ⟨w.heap.size, 0, none⟩ = some (.slice q.aa b.acs.length q.ca) ∧ w'.cell? ⟨w.heap.size, 1, none⟩ = some (.slice q.ae b.ens.length q.ce) ∧ w'.cell? ⟨w.heap.size, 2, none⟩ = some (.int .i64 b.shut))
        (first | exact parts_held HB7.out XC.out Kb.drew | exact parts_held HB7.out XC.out Kc)
        (first | (go_at_call 20; refine (P1.out _ _ _ (HM.out.later (HK7.out.trans (And.left (by assumption))))).mono ?_; rintro e w8 ⟨rfl, hk9⟩; have Kc := Kept.trans (a := w7) (And.left (by assumption)) hk9; clear hk9))
      rename_i hHeld
      clear hHeld
      go_wp2
      go_ret
      exact ⟨by simp, HK.out.trans (HK7.out.trans Kc)⟩
end Go.Proofs.Ytklbikifcebckaa
