/-
  The law CountAdds returns true: from one day to a third is from the one to another one and from that to the third, by each convention. Condition: the table of the months' lengths reads as the program lays it (Tab).
-/
import Derived.Test.YtmcfdiojkkblcaaDoorWalkS
import Derived.Deep.DeepCutAuto
namespace Go.Proofs.YtmcfdiojkkblcaaDoor
open Go.RowKit

/-- A fraction in new memory, behind world B. -/
def FrBox (B : World) (n d : Int) (s12 s13 : Value) (wx : World) : Prop :=
  ∃ g : Nat, s12 = .pointer (some ⟨g, 0, none⟩) ∧ s13 = .int .i64 0 ∧ g < wx.heap.size ∧ Kept B wx ∧ wx.cell? ⟨g, 0, none⟩ = some (.int .i64 n) ∧ wx.cell? ⟨g, 1, none⟩ = some (.int .i64 d)

theorem Kept.undrew {a b : World} (h : Kept a.drew b) : Kept a b := ⟨h.os, h.tape, h.output, h.size, h.block⟩
theorem fr_free {w w' : World} {n d : Int} {t : TypeId} (h : Kept (w.alloc (.cells #[.int .i64 n, .int .i64 d] t)) w') (i : Nat) : w'.frozen? ⟨w.heap.size, i, none⟩ = false := by
  rw [h.rd.2 _ _ (by simp)]; simp

theorem frbox_new {B w' : World} {n d : Int} {t : TypeId} (hk : Kept B w') : FrBox B n d (.pointer (some ⟨w'.heap.size, 0, none⟩)) (.int .i64 0) (w'.alloc (.cells #[.int .i64 n, .int .i64 d] t)) :=
  ⟨w'.heap.size, rfl, rfl, by simp, hk.alloc _, by simp, by simp⟩
theorem frbox_old {B w' : World} {n d a b : Int} (hk : Kept B w') (h : B.heap.size < w'.heap.size ∧ w'.cell? ⟨B.heap.size, 0, none⟩ = some (.int .i64 a) ∧ w'.cell? ⟨B.heap.size, 1, none⟩ = some (.int .i64 b)) :
    FrBox B n d (.pointer (some ⟨B.heap.size, 0, none⟩)) (.int .i64 0) ((w'.setCell ⟨B.heap.size, 0, none⟩ (.int .i64 n)).setCell ⟨B.heap.size, 1, none⟩ (.int .i64 d)) := by
  refine ⟨B.heap.size, rfl, rfl, by simpa using h.1, (hk.setCell (Nat.le_refl _) _).setCell (Nat.le_refl _) _, ?_, ?_⟩
  · go_simp
  · go_simp

def bnum (way a b : Int) : Int := if way = 2 then euN a b else b - a
def bden (way : Int) : Int := if way = 1 then 365 else 360
theorem between_gen (way a b : Int) (w : World) (hT : Tab w) (v0 : 0 ≤ way) (v2 : way ≤ 2) (h0 : 0 ≤ a) (h1 : a ≤ b) (h2 : b ≤ 292193) :
    Calls Tryd.prog 29 #[.int .i64 way, .int .i64 a, .int .i64 b] w fun e w' => e = .returned (.tuple #[fr2 (bnum way a b) (bden way), .int .i64 0]) ∧ Kept w w' := by
  rcases (show way = 0 ∨ way = 1 ∨ way = 2 by omega) with rfl | rfl | rfl
  · exact between_360 a b w hT h0 h1 h2
  · exact between_365 a b w hT h0 h1 h2
  · exact between_euro a b w hT h0 h1 h2
theorem bnum_add (way a b c : Int) : bnum way a b + bnum way b c = bnum way a c := by
  unfold bnum
  split
  · unfold euN euV; omega
  · omega
theorem bnum_bd (way a b : Int) (h0 : 0 ≤ a) (h1 : a ≤ b) (h2 : b ≤ 292193) : 0 ≤ bnum way a b ∧ bnum way a b ≤ 1000000 := by
  have o := (day_le_iff a b h0 (by omega) (by omega) h2).1 h1
  have e := euN_eq a b
  have ia := idx_bd a h0 (by omega)
  have ib := idx_bd b (by omega) h2
  have da := dbd a h0 (by omega)
  have db := dbd b (by omega) h2
  unfold bnum
  split <;> omega

set_option maxRecDepth 100000 in
set_option maxHeartbeats 4000000 in
theorem countAdds_walk (v a b c : Int) (w : World) (hT : Tab w) :
    Calls Tryd.prog 12 #[.int .i64 v, .int .i64 a, .int .i64 b, .int .i64 c] w fun e w' => e = .returned (.bool true) ∧ Kept w w' := by
  have H1 := Lib.hid (show euN 0 366 = 360 by decide)
  go_enter Tryd.func12, Tryd.ntmps12
  go_wp2_with fail
  refine (between_euro _ _ _ hT (by omega) (by omega) (by omega)).mono ?_
  rintro e w1 ⟨rfl, hk1⟩
  rw [H1.out]
  have hT1 := (hT.kept hk1).alloc (Obj.cells #[.int .i64 360, .int .i64 360] 39)
  have hK1 := hk1.alloc (Obj.cells #[.int .i64 360, .int .i64 360] 39)
  clear H1 hT hk1
  go_wp2_with fail
  refine (within_any _ _ _ (by omega) (by omega)).mono ?_
  rintro e w2 ⟨u, u0, u1, rfl, rfl⟩
  go_wp2_with fail
  refine (day_any _ _).mono ?_
  rintro e w2 ⟨r, r0, r1, rfl, rfl⟩
  go_wp2_with fail
  refine (day_any _ _).mono ?_
  rintro e w2 ⟨s, s0, s1, rfl, rfl⟩
  go_wp2_with fail
  refine (day_any _ _).mono ?_
  rintro e w2 ⟨t, t0, t1, rfl, rfl⟩
  go_wp2_with fail
  refine (sort3_at r s t (w1.alloc (Obj.cells #[.int .i64 360, .int .i64 360] 39)) 3 (w1.heap.size + 1) (by simp)).mono ?_
  rintro e w2 ⟨x, y, z, hxy, hyz, hx, hz, rfl, hk2, hsz, c0, c1, c2⟩
  have x0 : 0 ≤ x := by unfold In3 at hx; omega
  have z1 : z ≤ 292193 := by unfold In3 at hz; omega
  have hT2 := hT1.kept hk2
  have hK2 := hK1.trans hk2
  clear hx hz hT1 hK1 hk2
  have n1 := bnum_bd u x y x0 hxy (by omega)
  have n2 := bnum_bd u y z (by omega) hyz z1
  have n3 := bnum_bd u x z x0 (by omega) z1
  have NA := Lib.hid (bnum_add u x y z)
  generalize w1.heap.size + 1 = p at *
  go_wp2_with fail
  go_cut [12, 13] (fun s12 s13 wx => FrBox w2 (bnum u x y) (bden u) s12 s13 wx)
  case first =>
    go_region_held3 (fun w' => Kept w2 w' ∧ w'.cell? ⟨p, 0, none⟩ = some (.int .i64 x) ∧ w'.cell? ⟨p, 1, none⟩ = some (.int .i64 y) ∧ w'.cell? ⟨p, 2, none⟩ = some (.int .i64 z))
      (first | exact row_later hsz c0 c1 c2 (Kept.refl w2).drew | exact row_later hsz c0 c1 c2 ((Kept.refl w2).alloc _).drew | exact row_later hsz c0 c1 c2 (by assumption) | exact row_later hsz c0 c1 c2 (Kept.alloc (by assumption) _) | exact row_later hsz c0 c1 c2 (Kept.setCell (Kept.setCell (by assumption) (Nat.le_refl _) _) (Nat.le_refl _) _))
      (first | (go_at_call 29; refine (between_gen _ _ _ _ (hT2.kept (And.left (by assumption))) (by omega) (by omega) (by omega) (by omega) (by omega)).mono ?_; rintro e w' ⟨rfl, hk⟩; have hKa := Kept.trans (a := w2) (And.left (by assumption)) hk; (try (have hz9 := fr_later (w := w2) hk.undrew; have hf9 := fr_free (w := w2) hk.undrew)); clear hk))
    all_goals go_wp2_with fail
    all_goals go_meet
    · exact frbox_new hKa
    · exact frbox_old hKa hz9
  case rest =>
    obtain ⟨g1, rfl, rfl, hg1, hK3, k10, k11⟩ := hcut
    obtain ⟨V1, rfl⟩ : ∃ V1 : World, V1 = wc := ⟨_, rfl⟩
    obtain ⟨_, d0, d1, d2⟩ := row_later hsz c0 c1 c2 hK3
    have hs1 : p < V1.heap.size := Nat.lt_of_lt_of_le hsz hK3.le
    have hT3 := hT2.kept hK3
    have hKV := hK2.trans hK3
    clear c0 c1 c2 hsz hT2 hK2 hK3
    go_wp2_with fail
    go_cut [14, 15] (fun s12 s13 wx => FrBox V1 (bnum u y z) (bden u) s12 s13 wx)
    case first =>
      go_region_held3 (fun w' => Kept V1 w' ∧ w'.cell? ⟨p, 0, none⟩ = some (.int .i64 x) ∧ w'.cell? ⟨p, 1, none⟩ = some (.int .i64 y) ∧ w'.cell? ⟨p, 2, none⟩ = some (.int .i64 z))
        (first | exact row_later hs1 d0 d1 d2 (Kept.refl V1).drew | exact row_later hs1 d0 d1 d2 ((Kept.refl V1).alloc _).drew | exact row_later hs1 d0 d1 d2 (by assumption) | exact row_later hs1 d0 d1 d2 (Kept.alloc (by assumption) _) | exact row_later hs1 d0 d1 d2 (Kept.setCell (Kept.setCell (by assumption) (Nat.le_refl _) _) (Nat.le_refl _) _))
        (first | (go_at_call 29; refine (between_gen _ _ _ _ (hT3.kept (And.left (by assumption))) (by omega) (by omega) (by omega) (by omega) (by omega)).mono ?_; rintro e w' ⟨rfl, hk⟩; have hKa := Kept.trans (a := V1) (And.left (by assumption)) hk; (try (have hz9 := fr_later (w := V1) hk.undrew; have hf9 := fr_free (w := V1) hk.undrew)); clear hk))
      all_goals go_wp2_with fail
      all_goals go_meet
      · exact frbox_new hKa
      · exact frbox_old hKa hz9
    case rest =>
      obtain ⟨g2, rfl, rfl, hg2, hK4, k20, k21⟩ := hcut
      obtain ⟨V2, rfl⟩ : ∃ V2 : World, V2 = wc := ⟨_, rfl⟩
      obtain ⟨_, f0, f1, f2⟩ := row_later hs1 d0 d1 d2 hK4
      have hs2 : p < V2.heap.size := Nat.lt_of_lt_of_le hs1 hK4.le
      have hT4 := hT3.kept hK4
      have hKV2 := hKV.trans hK4
      have j10 := (hK4.rd.1 g1 0 hg1).trans k10
      have j11 := (hK4.rd.1 g1 1 hg1).trans k11
      have hg1' : g1 < V2.heap.size := Nat.lt_of_lt_of_le hg1 hK4.le
      clear k10 k11 d0 d1 d2 hs1 hT3 hK4 hKV
      go_wp2_with fail
      go_cut [16, 17] (fun s12 s13 wx => FrBox V2 (bnum u x z) (bden u) s12 s13 wx)
      case first =>
        go_region_held3 (fun w' => Kept V2 w' ∧ w'.cell? ⟨p, 0, none⟩ = some (.int .i64 x) ∧ w'.cell? ⟨p, 1, none⟩ = some (.int .i64 y) ∧ w'.cell? ⟨p, 2, none⟩ = some (.int .i64 z))
          (first | exact row_later hs2 f0 f1 f2 (Kept.refl V2).drew | exact row_later hs2 f0 f1 f2 ((Kept.refl V2).alloc _).drew | exact row_later hs2 f0 f1 f2 (by assumption) | exact row_later hs2 f0 f1 f2 (Kept.alloc (by assumption) _) | exact row_later hs2 f0 f1 f2 (Kept.setCell (Kept.setCell (by assumption) (Nat.le_refl _) _) (Nat.le_refl _) _))
          (first | (go_at_call 29; refine (between_gen _ _ _ _ (hT4.kept (And.left (by assumption))) (by omega) (by omega) (by omega) (by omega) (by omega)).mono ?_; rintro e w' ⟨rfl, hk⟩; have hKa := Kept.trans (a := V2) (And.left (by assumption)) hk; (try (have hz9 := fr_later (w := V2) hk.undrew; have hf9 := fr_free (w := V2) hk.undrew)); clear hk))
        all_goals go_wp2_with fail
        all_goals go_meet
        · exact frbox_new hKa
        · exact frbox_old hKa hz9
      case rest =>
        obtain ⟨g3, rfl, rfl, hg3, hK5, k30, k31⟩ := hcut
        have i10 := (hK5.rd.1 g1 0 hg1').trans j10
        have i11 := (hK5.rd.1 g1 1 hg1').trans j11
        have i20 := (hK5.rd.1 g2 0 hg2).trans k20
        have i21 := (hK5.rd.1 g2 1 hg2).trans k21
        have hKV3 := hKV2.trans hK5
        have q1 : (bnum u x y + bnum u y z == bnum u x z) = true := by rw [beq_iff_eq]; exact NA.out
        clear j10 j11 k20 k21 f0 f1 f2 hs2 hT4 hK5 hKV2 hg1 hg2 hg3 hg1'
        go_wp2
        go_ret
        exact ⟨ret_bool (by simp <;> omega), hKV3⟩

end Go.Proofs.YtmcfdiojkkblcaaDoor
