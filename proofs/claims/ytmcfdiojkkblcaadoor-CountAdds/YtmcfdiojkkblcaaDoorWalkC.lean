/-
  What Add and Months of package cal and Between of package count return. Condition: the table of the months' lengths reads as the program lays it (Tab).
-/
import Derived.Test.YtmcfdiojkkblcaaDoorWalkB
import Derived.IntWalk
namespace Go.Proofs.YtmcfdiojkkblcaaDoor
open Go.RowKit

set_option maxHeartbeats 400000 in
theorem add_no (n k : Int) (w : World) (h : dayB n = false) :
    Calls Tryd.prog 23 #[.int .i64 n, .int .i64 k] w fun e w' => e = .returned (.tuple #[.int .i64 0, .int .i64 1]) ∧ Kept w w' := by
  have H := Lib.hid h; clear h
  go_enter Tryd.func23, Tryd.ntmps23
  go_wp2_with fail
  refine (date_no _ _ H.out).mono ?_
  rintro e w' ⟨rfl, hk⟩
  go_wp2
  go_ret2
  exact ⟨rfl, hk.alloc _⟩

set_option maxHeartbeats 400000 in
theorem add_far (n k : Int) (w : World) (hT : Tab w) (h0 : 0 ≤ n) (h1 : n ≤ 292193) (h : k < -9600 ∨ 9600 < k) :
    Calls Tryd.prog 23 #[.int .i64 n, .int .i64 k] w fun e w' => e = .returned (.tuple #[.int .i64 0, .int .i64 1]) ∧ Kept w w' := by
  go_enter Tryd.func23, Tryd.ntmps23
  go_wp2_with fail
  refine (date_yes _ _ hT h0 h1).mono ?_
  rintro e w' ⟨rfl, hk⟩
  rcases h with h | h
  all_goals
    go_wp2
    go_ret2
    exact ⟨rfl, hk.alloc _⟩

set_option maxHeartbeats 1000000 in
theorem add_large (n k : Int) (w : World) (hT : Tab w) (h0 : 0 ≤ n) (h1 : n ≤ 292193) (h2 : -9600 ≤ k) (h3 : k ≤ 9600) (h : idx n k < 0 ∨ 9600 ≤ idx n k) :
    Calls Tryd.prog 23 #[.int .i64 n, .int .i64 k] w fun e w' => e = .returned (.tuple #[.int .i64 0, .int .i64 2]) ∧ Kept w w' := by
  have hd := dbd n h0 h1
  unfold idx at h
  go_enter Tryd.func23, Tryd.ntmps23
  go_wp2_with fail
  refine (date_yes _ _ hT h0 h1).mono ?_
  rintro e w1 ⟨rfl, hk⟩
  go_wp2_with fail
  refine (monthIndex_any _ _ _ _ (by omega) (by omega) (by omega) (by omega)).mono ?_
  rintro e w2 ⟨rfl, hk2⟩
  rcases h with h | h
  all_goals
    go_wp2
    go_ret2
    exact ⟨rfl, (hk.alloc _).trans hk2⟩

set_option maxHeartbeats 1000000 in
theorem add_yes (n k : Int) (w : World) (hT : Tab w) (h0 : 0 ≤ n) (h1 : n ≤ 292193) (h2 : -9600 ≤ k) (h3 : k ≤ 9600) (h4 : 0 ≤ idx n k) (h5 : idx n k < 9600) :
    Calls Tryd.prog 23 #[.int .i64 n, .int .i64 k] w fun e w' => e = .returned (.tuple #[.int .i64 (addV n k), .int .i64 0]) ∧ Kept w w' := by
  have hd := dbd n h0 h1
  unfold idx at h4 h5
  go_enter Tryd.func23, Tryd.ntmps23
  go_wp2_with fail
  refine (date_yes _ _ hT h0 h1).mono ?_
  rintro e w1 ⟨rfl, hk⟩
  go_wp2_with fail
  refine (monthIndex_any _ _ _ _ (by omega) (by omega) (by omega) (by omega)).mono ?_
  rintro e w2 ⟨rfl, hk2⟩
  obtain ⟨hc, hf⟩ := hk2.rd
  go_wp2_with fail
  have db := Cal.dim_bd (1600 + ((Cal.Y n - 1600) * 12 + Cal.M n - 1 + k) / 12) (((Cal.Y n - 1600) * 12 + Cal.M n - 1 + k) % 12 + 1)
  refine (dateIn_any _ _ _ (((hT.kept hk).alloc _).kept hk2) h4 (by omega)).mono ?_
  rintro e w3 ⟨rfl, hk3⟩
  clear hc hf
  go_wp2_with fail
  refine (dayNumber_any _ _ _ _ ((((hT.kept hk).alloc _).kept hk2).kept hk3) (by omega) (by omega) (by omega) (by omega) (by omega) (by omega)).mono ?_
  rintro e w4 ⟨rfl, hk4⟩
  go_wp2
  go_ret2
  exact ⟨rfl, (((hk.alloc _).trans hk2).trans hk3).trans hk4⟩

theorem ret2 {a b c : Int} (h : a = b) : Ending.returned (.tuple #[.int .i64 a, .int .i64 c]) = .returned (.tuple #[.int .i64 b, .int .i64 c]) := by rw [h]
theorem field2 (x y z : Value) (w : World) : (Instr.field 23 (.agg #[x, y, z]) 2).run Tryd.prog w = .ok z w := by kernel_rfl

/-- Two boxes, read in a later world. -/
theorem two_later {W w' : World} {p q : Nat} {a b c d e f : Value} (s1 : p < W.heap.size) (s2 : q < W.heap.size) (f0 : W.cell? ⟨p, 0, none⟩ = some a) (f1 : W.cell? ⟨p, 1, none⟩ = some b) (f2 : W.cell? ⟨p, 2, none⟩ = some c)
    (t0 : W.cell? ⟨q, 0, none⟩ = some d) (t1 : W.cell? ⟨q, 1, none⟩ = some e) (t2 : W.cell? ⟨q, 2, none⟩ = some f) (h : Kept W w') :
    Kept W w' ∧ w'.cell? ⟨p, 0, none⟩ = some a ∧ w'.cell? ⟨p, 1, none⟩ = some b ∧ w'.cell? ⟨p, 2, none⟩ = some c ∧ w'.cell? ⟨q, 0, none⟩ = some d ∧ w'.cell? ⟨q, 1, none⟩ = some e ∧ w'.cell? ⟨q, 2, none⟩ = some f := by
  rw [h.rd.1 _ _ s1, h.rd.1 _ _ s1, h.rd.1 _ _ s1, h.rd.1 _ _ s2, h.rd.1 _ _ s2, h.rd.1 _ _ s2]
  exact ⟨h, f0, f1, f2, t0, t1, t2⟩

set_option maxHeartbeats 1000000 in
theorem months_yes (a b : Int) (w : World) (hT : Tab w) (h0 : 0 ≤ a) (h1 : a ≤ b) (h2 : b ≤ 292193) :
    Calls Tryd.prog 25 #[.int .i64 a, .int .i64 b] w fun e w' => e = .returned (.tuple #[.int .i64 (monV a b), .int .i64 0]) ∧ Kept w w' := by
  have hda := dbd a h0 (by omega)
  have hdb := dbd b (by omega) h2
  go_enter Tryd.func25, Tryd.ntmps25
  go_wp2_with fail
  refine (date_yes _ _ hT h0 (by omega)).mono ?_
  rintro e w1 ⟨rfl, hk⟩
  go_wp2_with fail
  refine (date_yes _ _ ((hT.kept hk).alloc _) (by omega) h2).mono ?_
  rintro e w2 ⟨rfl, hk2⟩
  go_wp2_with fail
  obtain ⟨s1, f0, f1, f2⟩ := box_later (hk2.alloc (Obj.cells #[.int .i64 (Cal.Y b), .int .i64 (Cal.M b), .int .i64 (Cal.D b)] 23))
  obtain ⟨s2, t0, t1, t2⟩ := box_later (Kept.refl (w2.alloc (Obj.cells #[.int .i64 (Cal.Y b), .int .i64 (Cal.M b), .int .i64 (Cal.D b)] 23)))
  have hT2 : Tab (w2.alloc (Obj.cells #[.int .i64 (Cal.Y b), .int .i64 (Cal.M b), .int .i64 (Cal.D b)] 23)) := (((hT.kept hk).alloc _).kept hk2).alloc _
  have hK2 : Kept w (w2.alloc (Obj.cells #[.int .i64 (Cal.Y b), .int .i64 (Cal.M b), .int .i64 (Cal.D b)] 23)) := ((hk.alloc _).trans hk2).alloc _
  generalize (w2.alloc (Obj.cells #[.int .i64 (Cal.Y b), .int .i64 (Cal.M b), .int .i64 (Cal.D b)] 23)) = W at *
  generalize w1.heap.size = p at *
  generalize w2.heap.size = q at *
  clear hk hk2 hT
  go_region_held3 (fun w' => Kept W w' ∧ w'.cell? ⟨p, 0, none⟩ = some (.int .i64 (Cal.Y a)) ∧ w'.cell? ⟨p, 1, none⟩ = some (.int .i64 (Cal.M a)) ∧ w'.cell? ⟨p, 2, none⟩ = some (.int .i64 (Cal.D a)) ∧ w'.cell? ⟨q, 0, none⟩ = some (.int .i64 (Cal.Y b)) ∧ w'.cell? ⟨q, 1, none⟩ = some (.int .i64 (Cal.M b)) ∧ w'.cell? ⟨q, 2, none⟩ = some (.int .i64 (Cal.D b)))
    (first | exact two_later s1 s2 f0 f1 f2 t0 t1 t2 (Kept.refl W).drew | exact two_later s1 s2 f0 f1 f2 t0 t1 t2 hK)
    (first | (go_at_call 43; refine (monthIndex_any _ _ _ _ (by omega) (by omega) (by omega) (by omega)).mono ?_; rintro e w' ⟨rfl, hk⟩; have hK := Kept.trans (a := W) (And.left (by assumption)) hk; clear hk))
  rw [show IntKind.i64.wrap ((Cal.Y b - 1600) * 12 + Cal.M b - 1 - ((Cal.Y a - 1600) * 12 + Cal.M a - 1)) = (Cal.Y b - 1600) * 12 + Cal.M b - 1 - ((Cal.Y a - 1600) * 12 + Cal.M a - 1) from IntWalk.i64_in _ (by omega)]
  rename_i hHeld
  clear hHeld
  obtain ⟨hKW, g0, g1, g2, u0, u1, u2⟩ := two_later s1 s2 f0 f1 f2 t0 t1 t2 hK
  have r1 : p < w'.heap.size := Nat.lt_of_lt_of_le s1 hKW.le
  have r2 : q < w'.heap.size := Nat.lt_of_lt_of_le s2 hKW.le
  have hT3 := hT2.kept hKW
  have hK3 := hK2.trans hKW
  clear f0 f1 f2 t0 t1 t2 s1 s2 hT2 hK2 hKW hK
  clear hK
  generalize w' = V at *
  have hdm := Cal.dim_bd (1600 + ((Cal.Y b - 1600) * 12 + Cal.M b - 1) / 12) (((Cal.Y b - 1600) * 12 + Cal.M b - 1) % 12 + 1)
  have hfl := field2
  go_wp2_with fail
  go_region_held3 (fun w' => Kept V w' ∧ w'.cell? ⟨p, 0, none⟩ = some (.int .i64 (Cal.Y a)) ∧ w'.cell? ⟨p, 1, none⟩ = some (.int .i64 (Cal.M a)) ∧ w'.cell? ⟨p, 2, none⟩ = some (.int .i64 (Cal.D a)) ∧ w'.cell? ⟨q, 0, none⟩ = some (.int .i64 (Cal.Y b)) ∧ w'.cell? ⟨q, 1, none⟩ = some (.int .i64 (Cal.M b)) ∧ w'.cell? ⟨q, 2, none⟩ = some (.int .i64 (Cal.D b)))
    (first | exact two_later r1 r2 g0 g1 g2 u0 u1 u2 (Kept.refl V).drew | exact two_later r1 r2 g0 g1 g2 u0 u1 u2 hK)
    (first | (go_at_call 43; refine (monthIndex_any _ _ _ _ (by omega) (by omega) (by omega) (by omega)).mono ?_; rintro e w' ⟨rfl, hk⟩; have hK := Kept.trans (a := V) (And.left (by assumption)) hk; clear hk) | (go_at_call 44; refine (dateIn_any _ _ _ (hT3.kept (And.left (by assumption))) (by omega) (by omega)).mono ?_; rintro e w' ⟨rfl, hk⟩; have hK := Kept.trans (a := V) (And.left (by assumption)) hk; clear hk))
  have ey : 1600 + ((Cal.Y b - 1600) * 12 + Cal.M b - 1) / 12 = Cal.Y b := by omega
  have em : ((Cal.Y b - 1600) * 12 + Cal.M b - 1) % 12 + 1 = Cal.M b := by omega
  rw [ey, em]
  rename_i hHeld
  clear hHeld ey em
  have hK4 := hK3.trans hK
  clear hK hK3 hdm hfl hT3 g0 g1 g2 u0 u1 u2 r1 r2
  by_cases hlt : Cal.D b < min (Cal.D a) (Cal.dim (Cal.Y b) (Cal.M b))
  · have hd1 : decide (Cal.D b < min (Cal.D a) (Cal.dim (Cal.Y b) (Cal.M b))) = true := by simpa using hlt
    rw [hd1]
    have HL := Lib.hid hlt
    clear hlt hd1
    go_wp2
    go_ret2
    exact ⟨ret2 (by unfold monV idx; rw [if_pos HL.out]; omega), hK4⟩
  · have hd1 : decide (Cal.D b < min (Cal.D a) (Cal.dim (Cal.Y b) (Cal.M b))) = false := by simpa using hlt
    rw [hd1]
    have HL := Lib.hid hlt
    clear hlt hd1
    go_wp2
    go_ret2
    exact ⟨ret2 (by unfold monV idx; rw [if_neg (Int.not_lt.2 HL.out)]; omega), hK4⟩

set_option maxHeartbeats 400000 in
theorem months_no1 (a b : Int) (w : World) (hT : Tab w) (h : dayB a = false) :
    Calls Tryd.prog 25 #[.int .i64 a, .int .i64 b] w fun e w' => e = .returned (.tuple #[.int .i64 0, .int .i64 1]) ∧ Kept w w' := by
  have H := Lib.hid h; clear h
  go_enter Tryd.func25, Tryd.ntmps25
  go_wp2_with fail
  refine (date_no _ _ H.out).mono ?_
  rintro e w1 ⟨rfl, hk⟩
  cases hb : dayB b
  · have HB := Lib.hid hb; clear hb
    go_wp2_with fail
    refine (date_no _ _ HB.out).mono ?_
    rintro e w2 ⟨rfl, hk2⟩
    go_wp2
    go_ret2
    exact ⟨rfl, ((hk.alloc _).trans hk2).alloc _⟩
  · have HB := Lib.hid hb; clear hb
    go_wp2_with fail
    refine (date_yes _ _ ((hT.kept hk).alloc _) (by have := HB.out; simp [dayB] at this; omega) (by have := HB.out; simp [dayB] at this; omega)).mono ?_
    rintro e w2 ⟨rfl, hk2⟩
    go_wp2
    go_ret2
    exact ⟨rfl, ((hk.alloc _).trans hk2).alloc _⟩
set_option maxHeartbeats 400000 in
theorem months_no2 (a b : Int) (w : World) (hT : Tab w) (h0 : 0 ≤ a) (h1 : a ≤ 292193) (h : dayB b = false ∨ b < a) :
    Calls Tryd.prog 25 #[.int .i64 a, .int .i64 b] w fun e w' => e = .returned (.tuple #[.int .i64 0, .int .i64 1]) ∧ Kept w w' := by
  have H := Lib.hid h; clear h
  go_enter Tryd.func25, Tryd.ntmps25
  go_wp2_with fail
  refine (date_yes _ _ hT h0 h1).mono ?_
  rintro e w1 ⟨rfl, hk⟩
  cases hb : dayB b
  · have HB := Lib.hid hb; clear hb
    go_wp2_with fail
    refine (date_no _ _ HB.out).mono ?_
    rintro e w2 ⟨rfl, hk2⟩
    go_wp2
    go_ret2
    exact ⟨rfl, ((hk.alloc _).trans hk2).alloc _⟩
  · have HB := Lib.hid hb
    have hlt : b < a := by
      rcases H.out with h | h
      · rw [hb] at h; cases h
      · exact h
    clear hb H
    go_wp2_with fail
    refine (date_yes _ _ ((hT.kept hk).alloc _) (by have := HB.out; simp [dayB] at this; omega) (by omega)).mono ?_
    rintro e w2 ⟨rfl, hk2⟩
    go_wp2
    go_ret2
    exact ⟨rfl, ((hk.alloc _).trans hk2).alloc _⟩

end Go.Proofs.YtmcfdiojkkblcaaDoor
