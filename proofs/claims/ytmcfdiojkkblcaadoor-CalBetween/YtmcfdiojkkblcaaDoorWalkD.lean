/-
  What Between of package count returns, and the helpers of the laws: Within, day. Condition: the table of the months' lengths reads as the program lays it (Tab).
-/
import Derived.Test.YtmcfdiojkkblcaaDoorWalkC
namespace Go.Proofs.YtmcfdiojkkblcaaDoor
open Go.RowKit

set_option maxHeartbeats 400000 in
theorem euroDay_any (y m d : Int) (w : World) :
    Calls Tryd.prog 50 #[day3 y m d] w fun e w' => e = .returned (.int .i64 (min d 30)) ∧ Kept w w' := by
  go_enter Tryd.func50, Tryd.ntmps50
  go_wp2
  all_goals go_ret
  · exact ⟨ret_int (by omega), (Kept.refl _).alloc _⟩
  · exact ⟨ret_int (by omega), (Kept.refl _).alloc _⟩

set_option maxHeartbeats 1000000 in
theorem euroDays_any (y m d y' m' d' : Int) (w : World) (a1 : 0 ≤ y) (a2 : y ≤ 10000) (a3 : 0 ≤ m) (a4 : m ≤ 10000) (a5 : 0 ≤ d) (a6 : d ≤ 10000) (b1 : 0 ≤ y') (b2 : y' ≤ 10000) (b3 : 0 ≤ m') (b4 : m' ≤ 10000) (b5 : 0 ≤ d') (b6 : d' ≤ 10000) :
    Calls Tryd.prog 45 #[day3 y m d, day3 y' m' d'] w fun e w' => e = .returned (.int .i64 (euV y m d y' m' d')) ∧ Kept w w' := by
  go_enter Tryd.func45, Tryd.ntmps45
  go_wp2_with fail
  obtain ⟨s1, f0, f1, f2⟩ := box_later ((Kept.refl (w.alloc (Obj.cells #[.int .i64 y, .int .i64 m, .int .i64 d] 23))).alloc (Obj.cells #[.int .i64 y', .int .i64 m', .int .i64 d'] 23))
  obtain ⟨s2, t0, t1, t2⟩ := box_later (Kept.refl ((w.alloc (Obj.cells #[.int .i64 y, .int .i64 m, .int .i64 d] 23)).alloc (Obj.cells #[.int .i64 y', .int .i64 m', .int .i64 d'] 23)))
  have hK2 : Kept w ((w.alloc (Obj.cells #[.int .i64 y, .int .i64 m, .int .i64 d] 23)).alloc (Obj.cells #[.int .i64 y', .int .i64 m', .int .i64 d'] 23)) := ((Kept.refl w).alloc _).alloc _
  generalize ((w.alloc (Obj.cells #[.int .i64 y, .int .i64 m, .int .i64 d] 23)).alloc (Obj.cells #[.int .i64 y', .int .i64 m', .int .i64 d'] 23)) = W at *
  simp only [World.size_alloc] at s2 t0 t1 t2
  have e1 : IntKind.i64.wrap (y' - y) = y' - y := IntWalk.i64_in _ (by omega)
  have e2 : IntKind.i64.wrap ((y' - y) * 360) = (y' - y) * 360 := IntWalk.i64_in _ (by omega)
  have e3 : IntKind.i64.wrap (m' - m) = m' - m := IntWalk.i64_in _ (by omega)
  have e4 : IntKind.i64.wrap ((m' - m) * 30) = (m' - m) * 30 := IntWalk.i64_in _ (by omega)
  have e5 : IntKind.i64.wrap ((y' - y) * 360 + (m' - m) * 30) = (y' - y) * 360 + (m' - m) * 30 := IntWalk.i64_in _ (by omega)
  have e6 : IntKind.i64.wrap ((y' - y) * 360 + (m' - m) * 30 + min d' 30) = (y' - y) * 360 + (m' - m) * 30 + min d' 30 := IntWalk.i64_in _ (by omega)
  have e7 : IntKind.i64.wrap ((y' - y) * 360 + (m' - m) * 30 + min d' 30 - min d 30) = (y' - y) * 360 + (m' - m) * 30 + min d' 30 - min d 30 := IntWalk.i64_in _ (by omega)
  go_region_held3 (fun w' => Kept W w' ∧ w'.cell? ⟨w.heap.size, 0, none⟩ = some (.int .i64 y) ∧ w'.cell? ⟨w.heap.size, 1, none⟩ = some (.int .i64 m) ∧ w'.cell? ⟨w.heap.size, 2, none⟩ = some (.int .i64 d) ∧ w'.cell? ⟨w.heap.size + 1, 0, none⟩ = some (.int .i64 y') ∧ w'.cell? ⟨w.heap.size + 1, 1, none⟩ = some (.int .i64 m') ∧ w'.cell? ⟨w.heap.size + 1, 2, none⟩ = some (.int .i64 d'))
    (first | exact two_later s1 s2 f0 f1 f2 t0 t1 t2 (Kept.refl W).drew | exact two_later s1 s2 f0 f1 f2 t0 t1 t2 hK)
    (first | (go_at_call 50; refine (euroDay_any _ _ _ _).mono ?_; rintro e w' ⟨rfl, hk⟩; have hK := Kept.trans (a := W) (And.left (by assumption)) hk; clear hk))
  go_wp2
  go_ret
  exact ⟨rfl, hK2.trans hK⟩

/-- A fraction as the program holds it. -/
abbrev fr2 (n d : Int) : Value := .agg #[.int .i64 n, .int .i64 d]

set_option maxHeartbeats 1000000 in
theorem between_360 (a b : Int) (w : World) (hT : Tab w) (h0 : 0 ≤ a) (h1 : a ≤ b) (h2 : b ≤ 292193) :
    Calls Tryd.prog 29 #[.int .i64 0, .int .i64 a, .int .i64 b] w fun e w' => e = .returned (.tuple #[fr2 (b - a) 360, .int .i64 0]) ∧ Kept w w' := by
  go_enter Tryd.func29, Tryd.ntmps29
  go_wp2_with fail
  refine (date_yes _ _ (hT.alloc _) h0 (by omega)).mono ?_
  rintro e w1 ⟨rfl, hk⟩
  go_wp2_with fail
  refine (date_yes _ _ (((hT.alloc _).kept hk).alloc _) (by omega) h2).mono ?_
  rintro e w2 ⟨rfl, hk2⟩
  have hk3 := (hk.alloc (Obj.cells #[.int .i64 (Cal.Y a), .int .i64 (Cal.M a), .int .i64 (Cal.D a)] 23)).trans hk2
  have hk4 := ((Kept.refl w).alloc (Obj.cells #[.int .i64 0, .int .i64 0] 39)).trans hk3
  have hz : w.heap.size < w2.heap.size := by have := hk3.le; simp at this; omega
  obtain ⟨hc, hf⟩ := hk3.rd
  clear hT
  clear hk hk2
  go_wp2
  exact bodyPost_ret (v := .tuple #[fr2 (b - a) 360, .int .i64 0]) (by simp [results, Tryd.results29, go_sem, hc, hz]) rfl ⟨rfl, ((hk4.setCell (Nat.le_refl _) _).setCell (Nat.le_refl _) _).alloc _⟩

set_option maxHeartbeats 1000000 in
theorem between_365 (a b : Int) (w : World) (hT : Tab w) (h0 : 0 ≤ a) (h1 : a ≤ b) (h2 : b ≤ 292193) :
    Calls Tryd.prog 29 #[.int .i64 1, .int .i64 a, .int .i64 b] w fun e w' => e = .returned (.tuple #[fr2 (b - a) 365, .int .i64 0]) ∧ Kept w w' := by
  go_enter Tryd.func29, Tryd.ntmps29
  go_wp2_with fail
  refine (date_yes _ _ (hT.alloc _) h0 (by omega)).mono ?_
  rintro e w1 ⟨rfl, hk⟩
  go_wp2_with fail
  refine (date_yes _ _ (((hT.alloc _).kept hk).alloc _) (by omega) h2).mono ?_
  rintro e w2 ⟨rfl, hk2⟩
  have hk3 := (hk.alloc (Obj.cells #[.int .i64 (Cal.Y a), .int .i64 (Cal.M a), .int .i64 (Cal.D a)] 23)).trans hk2
  have hk4 := ((Kept.refl w).alloc (Obj.cells #[.int .i64 0, .int .i64 0] 39)).trans hk3
  have hz : w.heap.size < w2.heap.size := by have := hk3.le; simp at this; omega
  obtain ⟨hc, hf⟩ := hk3.rd
  clear hT
  clear hk hk2
  go_wp2
  exact bodyPost_ret (v := .tuple #[fr2 (b - a) 365, .int .i64 0]) (by simp [results, Tryd.results29, go_sem, hc, hz]) rfl ⟨rfl, ((hk4.setCell (Nat.le_refl _) _).setCell (Nat.le_refl _) _).alloc _⟩

/-- A fraction's box, read in a later world. -/
theorem fr_later {w w' : World} {n d : Int} {t : TypeId} (h : Kept (w.alloc (.cells #[.int .i64 n, .int .i64 d] t)) w') :
    w.heap.size < w'.heap.size ∧ w'.cell? ⟨w.heap.size, 0, none⟩ = some (.int .i64 n) ∧ w'.cell? ⟨w.heap.size, 1, none⟩ = some (.int .i64 d) := by
  have hs := h.le
  simp at hs
  refine ⟨by omega, ?_, ?_⟩
  · rw [h.rd.1 _ _ (by simp)]; simp
  · rw [h.rd.1 _ _ (by simp)]; simp

set_option maxHeartbeats 1000000 in
theorem between_euro (a b : Int) (w : World) (hT : Tab w) (h0 : 0 ≤ a) (h1 : a ≤ b) (h2 : b ≤ 292193) :
    Calls Tryd.prog 29 #[.int .i64 2, .int .i64 a, .int .i64 b] w fun e w' => e = .returned (.tuple #[fr2 (euN a b) 360, .int .i64 0]) ∧ Kept w w' := by
  go_enter Tryd.func29, Tryd.ntmps29
  go_wp2_with fail
  refine (date_yes _ _ (hT.alloc _) h0 (by omega)).mono ?_
  rintro e w1 ⟨rfl, hk⟩
  go_wp2_with fail
  refine (date_yes _ _ (((hT.alloc _).kept hk).alloc _) (by omega) h2).mono ?_
  rintro e w2 ⟨rfl, hk2⟩
  have hk3 := (hk.alloc (Obj.cells #[.int .i64 (Cal.Y a), .int .i64 (Cal.M a), .int .i64 (Cal.D a)] 23)).trans hk2
  have hk4 := ((Kept.refl w).alloc (Obj.cells #[.int .i64 0, .int .i64 0] 39)).trans hk3
  have hz : w.heap.size < w2.heap.size := by have := hk3.le; simp at this; omega
  obtain ⟨hc, hf⟩ := hk3.rd
  clear hT
  obtain ⟨s1, f0, f1, f2⟩ := box_later hk2
  clear hk
  have hda := dbd a h0 (by omega)
  have hdb := dbd b (by omega) h2
  go_wp2_with fail
  refine (euroDays_any _ _ _ _ _ _ _ (by omega) (by omega) (by omega) (by omega) (by omega) (by omega) (by omega) (by omega) (by omega) (by omega) (by omega) (by omega)).mono ?_
  rintro e w3 ⟨rfl, hk5⟩
  clear hc hf f0 f1 f2 hda hdb
  have hk6 := (hk3.alloc (Obj.cells #[.int .i64 (Cal.Y b), .int .i64 (Cal.M b), .int .i64 (Cal.D b)] 23)).trans hk5
  have hk7 := ((Kept.refl w).alloc (Obj.cells #[.int .i64 0, .int .i64 0] 39)).trans hk6
  have hz3 : w.heap.size < w3.heap.size := by have := hk6.le; simp at this; omega
  obtain ⟨hc, hf⟩ := hk6.rd
  clear hk2 hk3 hk4 hk5
  go_wp2
  exact bodyPost_ret (v := .tuple #[fr2 (euN a b) 360, .int .i64 0]) (by simp [results, Tryd.results29, go_sem, hc, euN]) rfl ⟨rfl, (hk7.setCell (Nat.le_refl _) _).setCell (Nat.le_refl _) _⟩

theorem of_ok {y m d : Int} (h : Cal.Vld y m d) : ofV y m d = Cal.num y m d ∧ ofE y m d = 0 := by
  have v := (Cal.vldB_iff _ _ _).2 h
  unfold ofV ofE
  rw [if_pos v, if_pos v]; exact ⟨rfl, rfl⟩
theorem of_bad {y m d : Int} (h : ¬ Cal.Vld y m d) : ofV y m d = 0 ∧ ofE y m d = 1 := by
  have v : ¬ Cal.vldB y m d = true := fun k => h ((Cal.vldB_iff _ _ _).1 k)
  unfold ofV ofE
  rw [if_neg v, if_neg v]; exact ⟨rfl, rfl⟩
theorem of_cut (n : Int) (n0 : 0 ≤ n) (n1 : n ≤ 292193) : ofV (Cal.Y n) (Cal.M n) (min (Cal.D n) 28) = Cal.num (Cal.Y n) (Cal.M n) (min (Cal.D n) 28) ∧ ofE (Cal.Y n) (Cal.M n) (min (Cal.D n) 28) = 0 := by
  have v := (Cal.vldB_iff _ _ _).2 (cut28 n n0 n1).1
  unfold ofV ofE
  rw [if_pos v, if_pos v]; exact ⟨rfl, rfl⟩
theorem of_cut_eq (n m : Int) (n0 : 0 ≤ n) (n1 : n ≤ 292193) (h : m = min (Cal.D n) 28) : ofV (Cal.Y n) (Cal.M n) m = Cal.num (Cal.Y n) (Cal.M n) m ∧ ofE (Cal.Y n) (Cal.M n) m = 0 ∧
    0 ≤ Cal.num (Cal.Y n) (Cal.M n) m ∧ Cal.num (Cal.Y n) (Cal.M n) m ≤ 292193 ∧ Cal.Y (Cal.num (Cal.Y n) (Cal.M n) m) = Cal.Y n ∧ Cal.M (Cal.num (Cal.Y n) (Cal.M n) m) = Cal.M n ∧ Cal.D (Cal.num (Cal.Y n) (Cal.M n) m) ≤ 28 := by
  subst h
  obtain ⟨a, b⟩ := of_cut n n0 n1
  obtain ⟨v, c, d, e⟩ := cut28 n n0 n1
  have k := Cal.num_bd v
  exact ⟨a, b, k.1, k.2, c, d, by rw [e]; omega⟩

/-- Some integer from 0 to n-1. -/
def SomeBelow (n : Int) (w : World) (e : Ending) (w' : World) : Prop := ∃ r : Int, 0 ≤ r ∧ r < n ∧ e = .returned (.int .i64 r) ∧ w = w'

theorem within_val (k n : Int) (w : World) (h0 : 1 ≤ n) (h1 : n ≤ 1000000000) : SomeBelow n w (.returned (.int .i64 (wrap64 ((IntKind.u64.wrap k).tmod n)))) w := by
  have h2 : 0 ≤ IntKind.u64.wrap k := wrap_u64_nonneg k
  have h3 : (IntKind.u64.wrap k).tmod n = IntKind.u64.wrap k % n := Int.tmod_eq_emod_of_nonneg h2
  have h4 : 0 ≤ IntKind.u64.wrap k % n := Int.emod_nonneg _ (by omega)
  have h5 : IntKind.u64.wrap k % n < n := Int.emod_lt_of_pos _ (by omega)
  rw [h3]
  refine ⟨IntKind.u64.wrap k % n, h4, h5, ?_, rfl⟩
  rw [show wrap64 (IntKind.u64.wrap k % n) = IntKind.u64.wrap k % n from by unfold wrap64; omega]

set_option maxHeartbeats 400000 in
theorem within_any (k n : Int) (w : World) (h0 : 1 ≤ n) (h1 : n ≤ 1000000000) :
    Calls Tryd.prog 33 #[.int .i64 k, .int .i64 n] w (SomeBelow n w) := by
  go_enter Tryd.func33, Tryd.ntmps33
  go_wp2
  go_ret
  exact within_val k n w h0 h1

set_option maxHeartbeats 400000 in
theorem day_any (k : Int) (w : World) : Calls Tryd.prog 32 #[.int .i64 k] w (SomeBelow 292194 w) := by
  go_enter Tryd.func32, Tryd.ntmps32
  go_wp2_with fail
  refine (within_any _ _ _ (by omega) (by omega)).mono ?_
  rintro e w' ⟨r, r0, r1, rfl, rfl⟩
  go_wp2
  go_ret
  exact ⟨r, r0, r1, rfl, rfl⟩

set_option maxHeartbeats 400000 in
theorem begun_any (w : World) (hT : Tab w) : Calls Tryd.prog 31 #[] w fun e w' => e = .returned (.bool true) ∧ Kept w w' := by
  have e1 : ofV 1970 1 1 = 135140 := by decide
  have e2 : ofE 1970 1 1 = 0 := by decide
  have H1 := Lib.hid e1
  have H2 := Lib.hid e2
  clear e1 e2
  go_enter Tryd.func31, Tryd.ntmps31
  go_wp2_with fail
  refine (of_any _ _ _ _ hT).mono ?_
  rintro e w1 ⟨rfl, hk⟩
  rw [H1.out, H2.out]
  go_wp2_with fail
  refine (weekday_yes _ _ (by omega) (by omega)).mono ?_
  rintro e w2 ⟨rfl, rfl⟩
  go_wp2
  go_ret
  exact ⟨rfl, hk⟩

end Go.Proofs.YtmcfdiojkkblcaaDoor
