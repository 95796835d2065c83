/-
  The law EarnSays returns true: By and Months return the specified results for all arguments. Condition: the table of the months' lengths reads as the program lays it (Tab).
-/
import Derived.Test.YtcfcbglnmhoknabDoorEWalkC
namespace Go.Proofs.YtcfcbglnmhoknabDoor
open Go.RowKit

theorem inB_am (a : Int) : inB a (-1000000000000) 1000000000000 = amB a := rfl
theorem dayB_dy (a : Int) : dayB a = dyB a := rfl
/-- The arguments in their boxes. -/
structure B3 (w : World) (p : Nat) (a f t : Int) : Prop where
  b0 : SlBox w p (.int .i64 a)
  b1 : SlBox w (p + 1) (.int .i64 f)
  b2 : SlBox w (p + 1 + 1) (.int .i64 t)
theorem B3.later {w w' : World} {p : Nat} {a f t : Int} (h : B3 w p a f t) (k : Kept w w') : B3 w' p a f t := ⟨h.b0.later k, h.b1.later k, h.b2.later k⟩
theorem B3.cells {w : World} {p : Nat} {a f t : Int} (h : B3 w p a f t) : w.cell? ⟨p, 0, none⟩ = some (.int .i64 a) ∧ w.cell? ⟨p + 1, 0, none⟩ = some (.int .i64 f) ∧ w.cell? ⟨p + 1 + 1, 0, none⟩ = some (.int .i64 t) := ⟨h.b0.cell, h.b1.cell, h.b2.cell⟩
theorem B3.new (w : World) (a f t : Int) (i : TypeId) : B3 (((w.alloc (.cells #[.int .i64 a] i)).alloc (.cells #[.int .i64 f] i)).alloc (.cells #[.int .i64 t] i)) w.heap.size a f t := by
  refine ⟨?_, ?_, ?_⟩
  · exact ((SlBox.new (w := w) rfl).later ((Kept.refl _).alloc _)).later ((Kept.refl _).alloc _)
  · exact (SlBox.new (w := w.alloc _) (by simp)).later ((Kept.refl _).alloc _)
  · exact SlBox.new (w := (w.alloc _).alloc _) (by simp)
theorem k3 (w : World) (x y z : Obj) : Kept w (((w.alloc x).alloc y).alloc z) := (((Kept.refl w).alloc _).alloc _).alloc _
theorem okE_tt {a f t d : Int} (h : okE a f t t = false) : okE a f t d = false := by
  cases e : okE a f t d
  · rfl
  · obtain ⟨p, q, r, _, u⟩ := (okE_iff a f t d).1 e
    rw [(okE_iff a f t t).2 ⟨p, q, r, r, u⟩] at h; cases h
set_option maxRecDepth 100000 in
set_option maxHeartbeats 4000000 in
theorem says_no (a f t d : Int) (w : World) (h : okE a f t t = false) :
    Calls Tryd.prog 3 #[.int .i64 a, .int .i64 f, .int .i64 t, .int .i64 d] w fun e w' => e = .returned (.bool true) ∧ Kept w w' := by
  have H := Lib.hid h
  have H2 := Lib.hid (okE_tt (d := d) h)
  have NB := Lib.hid (B3.new w a f t 3)
  have NK := Lib.hid (k3 w (.cells #[.int .i64 a] 3) (.cells #[.int .i64 f] 3) (.cells #[.int .i64 t] 3))
  rcases okE_no h with h1 | ⟨h1, h2⟩ | ⟨h1, h2, h3⟩ | ⟨h1, h2, h3, h4⟩ | ⟨h1, h2, h3, h4, h5⟩
  case inr.inr.inr.inl => rw [h3] at h4; cases h4
  all_goals
    have A := Lib.hid h1
    try have F := Lib.hid h2
    try have T := Lib.hid h3
    clear h h1
    try clear h2
    try clear h3
    try clear h4
    go_enter Tryd.func3, Tryd.ntmps3
    go_wp2_with fail
    refine (eby_no _ _ _ _ _ H2.out).mono ?_
    rintro e w1 ⟨rfl, hK1⟩
    obtain ⟨c0, c1, c2⟩ := (NB.out.later hK1).cells
    go_wp2_with fail
    refine (months_no _ _ _ _ H.out).mono ?_
    rintro e w2 ⟨rfl, hK2⟩
    clear c0 c1 c2
    obtain ⟨c0, c1, c2⟩ := (NB.out.later (hK1.trans hK2)).cells
    have hK := (NK.out.trans hK1).trans hK2
    clear hK1 hK2
    go_wp2_with fail
    refine (rmoney_any _ _).mono ?_
    rintro e w3 ⟨rfl, rfl⟩
    rw [inB_am, A.out]
    go_wp2_with (fail)
    try
      refine (rday_any _ _).mono ?_
      rintro e w3 ⟨rfl, rfl⟩
      rw [dayB_dy, F.out]
      go_wp2_with (fail)
    try
      refine (rday_any _ _).mono ?_
      rintro e w3 ⟨rfl, rfl⟩
      rw [dayB_dy, T.out]
      go_wp2_with (fail)
    go_ret
    exact ⟨rfl, hK⟩
theorem Kept.undrew {a b : World} (h : Kept a.drew b) : Kept a b := ⟨h.os, h.tape, h.output, h.size, h.block⟩
/-- A box of noughts. -/
structure ZB (w : World) (g : Nat) : Prop where
  lt : g < w.heap.size
  c0 : w.cell? ⟨g, 0, none⟩ = some (.int .i64 0)
  c1 : w.cell? ⟨g, 1, none⟩ = some (.int .i64 0)
  c2 : w.cell? ⟨g, 2, none⟩ = some (.int .i64 0)
  f0 : w.frozen? ⟨g, 0, none⟩ = false
  f1 : w.frozen? ⟨g, 1, none⟩ = false
  f2 : w.frozen? ⟨g, 2, none⟩ = false
theorem ZB.later {w w' : World} {g : Nat} (h : ZB w g) (k : Kept w w') : ZB w' g :=
  ⟨Nat.lt_of_lt_of_le h.lt k.le, (k.rd.1 _ _ h.lt).trans h.c0, (k.rd.1 _ _ h.lt).trans h.c1, (k.rd.1 _ _ h.lt).trans h.c2, (k.rd.2 _ _ h.lt).trans h.f0, (k.rd.2 _ _ h.lt).trans h.f1, (k.rd.2 _ _ h.lt).trans h.f2⟩
theorem ZB.new {w : World} {t : TypeId} : ZB (w.alloc (.cells #[.int .i64 0, .int .i64 0, .int .i64 0] t)) w.heap.size := by constructor <;> simp
theorem ZB.one {w w' : World} {t : TypeId} (k : Kept (w.alloc (.cells #[.int .i64 0, .int .i64 0, .int .i64 0] t)) w') : ZB w' w.heap.size := ZB.new.later k
theorem ZB.two {w w' : World} {t : TypeId} (k : Kept ((w.alloc (.cells #[.int .i64 0, .int .i64 0, .int .i64 0] t)).alloc (.cells #[.int .i64 0, .int .i64 0, .int .i64 0] t)) w') : ZB w' w.heap.size ∧ ZB w' (w.heap.size + 1) := by
  refine ⟨(ZB.new.later ((Kept.refl _).alloc _)).later k, ?_⟩
  have := (ZB.new (w := w.alloc (.cells #[.int .i64 0, .int .i64 0, .int .i64 0] t)) (t := t)).later k
  simpa using this
theorem ZB.laterA {w w' : World} {g : Nat} {o : Obj} (h : ZB w g) (k : Kept (w.alloc o) w') : ZB w' g := (h.later ((Kept.refl _).alloc o)).later k
/-- A date that lies at a place. -/
structure D3 (w : World) (g : Nat) (n : Int) : Prop where
  lt : g < w.heap.size
  c0 : w.cell? ⟨g, 0, none⟩ = some (.int .i64 (Cal.Y n))
  c1 : w.cell? ⟨g, 1, none⟩ = some (.int .i64 (Cal.M n))
  c2 : w.cell? ⟨g, 2, none⟩ = some (.int .i64 (Cal.D n))
theorem D3.later {w w' : World} {g : Nat} {n : Int} (h : D3 w g n) (k : Kept w w') : D3 w' g n :=
  ⟨Nat.lt_of_lt_of_le h.lt k.le, (k.rd.1 _ _ h.lt).trans h.c0, (k.rd.1 _ _ h.lt).trans h.c1, (k.rd.1 _ _ h.lt).trans h.c2⟩
/-- Two dates in new memory. -/
def DD (B : World) (f t : Int) (s14 s15 : Value) (wx : World) : Prop := ∃ g h, s14 = .pointer (some ⟨g, 0, none⟩) ∧ s15 = .pointer (some ⟨h, 0, none⟩) ∧ Kept B wx ∧ D3 wx g f ∧ D3 wx h t
theorem D3.new {w : World} {n : Int} {t : TypeId} : D3 (w.alloc (.cells #[.int .i64 (Cal.Y n), .int .i64 (Cal.M n), .int .i64 (Cal.D n)] t)) w.heap.size n := by constructor <;> simp
theorem D3.at {w : World} {g : Nat} {n : Int} {t : TypeId} (e : w.heap.size = g) : D3 (w.alloc (.cells #[.int .i64 (Cal.Y n), .int .i64 (Cal.M n), .int .i64 (Cal.D n)] t)) g n := by subst e; exact D3.new
theorem D3.alloc {w : World} {g : Nat} {n : Int} (h : D3 w g n) (o : Obj) : D3 (w.alloc o) g n := h.later ((Kept.refl w).alloc o)
theorem D3.other {w : World} {g r i : Nat} {n : Int} {v : Value} (h : D3 w g n) (hr : r ≠ g) : D3 (w.setCell ⟨r, i, none⟩ v) g n := by
  have hr' : g ≠ r := fun e => hr e.symm
  obtain ⟨lt, c0, c1, c2⟩ := h
  refine ⟨by simpa using lt, ?_, ?_, ?_⟩ <;> go_simp
theorem ZB.set {w : World} {g : Nat} {n : Int} (h : ZB w g) : D3 (((w.setCell ⟨g, 0, none⟩ (.int .i64 (Cal.Y n))).setCell ⟨g, 1, none⟩ (.int .i64 (Cal.M n))).setCell ⟨g, 2, none⟩ (.int .i64 (Cal.D n))) g n := by
  obtain ⟨lt, c0, c1, c2, f0, f1, f2⟩ := h
  refine ⟨by simpa using lt, ?_, ?_, ?_⟩ <;> go_simp
theorem ZB.other {w : World} {g r i : Nat} {v : Value} (h : ZB w g) (hr : r ≠ g) : ZB (w.setCell ⟨r, i, none⟩ v) g := by
  have hr' : g ≠ r := fun e => hr e.symm
  obtain ⟨lt, c0, c1, c2, f0, f1, f2⟩ := h
  refine ⟨by simpa using lt, ?_, ?_, ?_, ?_, ?_, ?_⟩ <;> go_simp
theorem many_eq (f t : Int) : 12 * (Cal.Y t - Cal.Y f) + Cal.M t - Cal.M f + 1 = mCt f t := by unfold mCt idx; omega
set_option maxRecDepth 100000 in
set_option maxHeartbeats 4000000 in
theorem says_yesA (a f t d : Int) (w : World) (hT : Tab w) (h : okE a f t t = true) (hd : dyB d = true) :
    Calls Tryd.prog 3 #[.int .i64 a, .int .i64 f, .int .i64 t, .int .i64 d] w fun e w' => e = .returned (.bool true) ∧ Kept w w' := by
  obtain ⟨⟨a0, a1⟩, ⟨f0, f1⟩, ⟨t0, t1⟩, _, ft⟩ := (okE_iff a f t t).1 h
  have H := Lib.hid h
  have NB := Lib.hid (B3.new w a f t 3)
  have NK := Lib.hid (k3 w (.cells #[.int .i64 a] 3) (.cells #[.int .i64 f] 3) (.cells #[.int .i64 t] 3))
  have TT := Lib.hid hT
  have A := Lib.hid ((am_iff a).2 ⟨a0, a1⟩)
  have F := Lib.hid ((dyB_iff f).2 ⟨f0, f1⟩)
  have T := Lib.hid ((dyB_iff t).2 ⟨t0, t1⟩)
  have DF := dbd f f0 f1
  have DT := dbd t t0 t1
  have ME := Lib.hid (many_eq f t)
  have MP := mCt_pos f t f0 ft t1
  have tf : decide (t < f) = false := by simp; omega
  have D := Lib.hid hd
  have H2 := Lib.hid (show okE a f t d = true from (okE_iff a f t d).2 ⟨⟨a0, a1⟩, ⟨f0, f1⟩, ⟨t0, t1⟩, (dyB_iff d).1 hd, ft⟩)
  clear h hT hd
  go_enter Tryd.func3, Tryd.ntmps3
  go_wp2_with fail
  refine (eby_yes _ _ _ _ _ H2.out).mono ?_
  rintro e w1 ⟨rfl, hK1⟩
  obtain ⟨c0, c1, c2⟩ := (NB.out.later hK1).cells
  go_wp2_with fail
  refine (months_go _ _ _ _ ((TT.out.kept NK.out).kept hK1) H.out).mono ?_
  intro e w2 hp
  have hK2 : Kept w1 w2 := by rcases hp with ⟨_, _, _, _, k⟩ | ⟨_, _, k⟩ <;> exact k
  clear c0 c1 c2
  have b3 := NB.out.later (hK1.trans hK2)
  obtain ⟨c0, c1, c2⟩ := b3.cells
  have hK := (NK.out.trans hK1).trans hK2
  rcases hp with ⟨m40, v, rfl, hG, _⟩ | ⟨m40, rfl, _⟩
  · obtain ⟨m, hm⟩ := Int.eq_ofNat_of_zero_le (show 0 ≤ mCt f t by omega)
    rw [hm, show ((m : Int)).toNat = m by omega] at hG
    obtain ⟨ad, cap, rfl, hA⟩ := hG.arg
    obtain ⟨q, of', rfl, hR⟩ := hA.at (by omega)
    clear hG hA hK1 hK2
    go_wp2_with fail
    refine (rmoney_any _ _).mono ?_
    rintro e w3 ⟨rfl, rfl⟩
    rw [inB_am, A.out]
    go_wp2_with fail
    refine (rday_any _ _).mono ?_
    rintro e w3 ⟨rfl, rfl⟩
    rw [dayB_dy, F.out]
    go_wp2_with fail
    refine (rday_any _ _).mono ?_
    rintro e w3 ⟨rfl, rfl⟩
    rw [dayB_dy, T.out]
    go_wp2_with fail
    refine (rday_any _ _).mono ?_
    rintro e w3 ⟨rfl, rfl⟩
    rw [dayB_dy, D.out]
    go_wp2_with fail
    refine (rearned_any _ _ _ _ _ H2.out).mono ?_
    rintro e w3 ⟨rfl, rfl⟩
    go_wp2_with fail
    have CK := Lib.hid (fun w' (k : Kept w2 w') => show Kept w2 w' ∧ w'.cell? ⟨w.heap.size + 1, 0, none⟩ = some (.int .i64 f) ∧ w'.cell? ⟨w.heap.size + 1 + 1, 0, none⟩ = some (.int .i64 t) from ⟨k, (b3.later k).cells.2⟩)
    generalize w.heap.size = p at *
    go_cut [14, 15] (fun s14 s15 wx => DD w2 f t s14 s15 wx)
    case first =>
      go_region_held3 (fun w' => Kept w2 w' ∧ w'.cell? ⟨p + 1, 0, none⟩ = some (.int .i64 f) ∧ w'.cell? ⟨p + 1 + 1, 0, none⟩ = some (.int .i64 t))
        (first | (refine CK.out _ ?_; repeat' (first | (with_reducible assumption) | (with_reducible refine Kept.drew ?_) | (with_reducible refine Kept.alloc ?_ _) | (with_reducible refine Kept.setAt ?_ ?_ _) | (with_reducible exact Kept.refl _) | omega)))
        (first | (go_at_call 11; refine (rdate_any _ _ (by omega) (by omega)).mono ?_; rintro e w' ⟨rfl, hk⟩; have hKa := Kept.trans (a := w2) (And.left (by assumption)) hk; have hle := hKa.le; (try (have hz1 := ZB.later (w' := w') (g := w2.heap.size) (by assumption) hk; obtain ⟨_, _, _, _, _, _, _⟩ := id hz1)); (try (have hz6 := ZB.later (w' := w') (g := w2.heap.size + 1) (by assumption) hk; obtain ⟨_, _, _, _, _, _, _⟩ := id hz6)); (try (have hz5 := ZB.laterA (w' := w') (g := w2.heap.size) (by assumption) hk; obtain ⟨_, _, _, _, _, _, _⟩ := id hz5)); (first | (have hq := ZB.two (w := w2) (w' := w') (t := 31) (Kept.undrew hk); obtain ⟨hz2, hz3⟩ := hq; obtain ⟨_, _, _, _, _, _, _⟩ := id hz2; obtain ⟨_, _, _, _, _, _, _⟩ := id hz3) | (have hq := ZB.two (w' := w') (t := 31) (hk); obtain ⟨hz2, hz3⟩ := hq; obtain ⟨_, _, _, _, _, _, _⟩ := id hz2; obtain ⟨_, _, _, _, _, _, _⟩ := id hz3) | (have hz4 := ZB.one (w := w2) (w' := w') (t := 31) (Kept.undrew hk); obtain ⟨_, _, _, _, _, _, _⟩ := id hz4) | (have hz4 := ZB.one (w' := w') (t := 31) (hk); obtain ⟨_, _, _, _, _, _, _⟩ := id hz4) | skip); clear hk))
      all_goals go_wp2_with fail
      all_goals go_meet
      all_goals refine ⟨_, _, rfl, rfl, ?_, ?_, ?_⟩
      all_goals repeat' (first | (with_reducible assumption) | (with_reducible refine Kept.drew ?_) | (with_reducible refine Kept.alloc ?_ _) | (with_reducible refine Kept.setAt ?_ ?_ _) | (with_reducible exact Kept.refl _) | (with_reducible refine ZB.set ?_) | (with_reducible exact D3.at (by simp)) | (with_reducible refine D3.alloc ?_ _) | (with_reducible refine D3.other ?_ ?_) | (with_reducible refine ZB.other ?_ ?_) | omega)
    case rest =>
      obtain ⟨g, h, rfl, rfl, hKc, d1, d2⟩ := hcut
      obtain ⟨V, rfl⟩ : ∃ V : World, V = wc := ⟨_, rfl⟩
      have B3V := Lib.hid (b3.later hKc)
      have RV := Lib.hid (hR.later hKc)
      have KV := Lib.hid (hK.trans hKc)
      obtain ⟨_, y0, y1, y2⟩ := id d1
      obtain ⟨_, z0, z1, z2⟩ := id d2
      have mb : 12 * (Cal.Y t - Cal.Y f) + Cal.M t - Cal.M f + 1 ≤ 40 := by rw [ME.out]; exact m40
      have JL := Lib.hid (fun w => julian_any (Cal.Y f) (Cal.M f) 1 w (by omega) (by omega) (by omega) (by omega) (by omega) (by omega))
      clear b3 hR hK c0 c1 c2 CK
      go_wp2_with fail
      refine (JL.out _).mono ?_
      rintro e w4 ⟨rfl, rfl⟩
      go_wp2_with fail
      have hB : EB (V.alloc (.cells #[.int .i64 (Cal.num (Cal.Y f) (Cal.M f) 1)] 3)) p (p + 1) (p + 1 + 1) V.heap.size a f t (fsD f) := ⟨B3V.out.b0.later ((Kept.refl V).alloc _), B3V.out.b1.later ((Kept.refl V).alloc _), B3V.out.b2.later ((Kept.refl V).alloc _), SlBox.new rfl⟩
      rw [show 12 * (Cal.Y t - Cal.Y f) + Cal.M t - Cal.M f + 1 = (m : Int) by rw [ME.out, hm]]
      refine (parted_ea _ _ _ _ m a f t _ hB a0 a1 f0 ft t1 hm.symm (by omega)).mono ?_
      rintro e w5 ⟨ad2, cap2, rfl, hA2, hK5⟩
      obtain ⟨q2, of2, rfl, hR2⟩ := hA2.at (by omega)
      clear hB hA2 mb y0 y1 y2 z0 z1 z2
      go_wp2_with fail
      refine (equal_yes (eaP a f t) _ _ _ _ _ _ m _ (by omega) (RV.out.later (((Kept.refl V).alloc _).trans hK5)) hR2).mono ?_
      rintro e w6 ⟨rfl, hd⟩
      go_wp2
      go_ret
      exact ⟨rfl, ((KV.out.alloc _).trans hK5).trans hd.kept⟩
  · clear hK1 hK2
    go_wp2_with fail
    refine (rmoney_any _ _).mono ?_
    rintro e w3 ⟨rfl, rfl⟩
    rw [inB_am, A.out]
    go_wp2_with fail
    refine (rday_any _ _).mono ?_
    rintro e w3 ⟨rfl, rfl⟩
    rw [dayB_dy, F.out]
    go_wp2_with fail
    refine (rday_any _ _).mono ?_
    rintro e w3 ⟨rfl, rfl⟩
    rw [dayB_dy, T.out]
    go_wp2_with fail
    refine (rday_any _ _).mono ?_
    rintro e w3 ⟨rfl, rfl⟩
    rw [dayB_dy, D.out]
    go_wp2_with fail
    refine (rearned_any _ _ _ _ _ H2.out).mono ?_
    rintro e w3 ⟨rfl, rfl⟩
    go_wp2_with fail
    have CK := Lib.hid (fun w' (k : Kept w2 w') => show Kept w2 w' ∧ w'.cell? ⟨w.heap.size + 1, 0, none⟩ = some (.int .i64 f) ∧ w'.cell? ⟨w.heap.size + 1 + 1, 0, none⟩ = some (.int .i64 t) from ⟨k, (b3.later k).cells.2⟩)
    generalize w.heap.size = p at *
    go_cut [14, 15] (fun s14 s15 wx => DD w2 f t s14 s15 wx)
    case first =>
      go_region_held3 (fun w' => Kept w2 w' ∧ w'.cell? ⟨p + 1, 0, none⟩ = some (.int .i64 f) ∧ w'.cell? ⟨p + 1 + 1, 0, none⟩ = some (.int .i64 t))
        (first | (refine CK.out _ ?_; repeat' (first | (with_reducible assumption) | (with_reducible refine Kept.drew ?_) | (with_reducible refine Kept.alloc ?_ _) | (with_reducible refine Kept.setAt ?_ ?_ _) | (with_reducible exact Kept.refl _) | omega)))
        (first | (go_at_call 11; refine (rdate_any _ _ (by omega) (by omega)).mono ?_; rintro e w' ⟨rfl, hk⟩; have hKa := Kept.trans (a := w2) (And.left (by assumption)) hk; have hle := hKa.le; (try (have hz1 := ZB.later (w' := w') (g := w2.heap.size) (by assumption) hk; obtain ⟨_, _, _, _, _, _, _⟩ := id hz1)); (try (have hz6 := ZB.later (w' := w') (g := w2.heap.size + 1) (by assumption) hk; obtain ⟨_, _, _, _, _, _, _⟩ := id hz6)); (try (have hz5 := ZB.laterA (w' := w') (g := w2.heap.size) (by assumption) hk; obtain ⟨_, _, _, _, _, _, _⟩ := id hz5)); (first | (have hq := ZB.two (w := w2) (w' := w') (t := 31) (Kept.undrew hk); obtain ⟨hz2, hz3⟩ := hq; obtain ⟨_, _, _, _, _, _, _⟩ := id hz2; obtain ⟨_, _, _, _, _, _, _⟩ := id hz3) | (have hq := ZB.two (w' := w') (t := 31) (hk); obtain ⟨hz2, hz3⟩ := hq; obtain ⟨_, _, _, _, _, _, _⟩ := id hz2; obtain ⟨_, _, _, _, _, _, _⟩ := id hz3) | (have hz4 := ZB.one (w := w2) (w' := w') (t := 31) (Kept.undrew hk); obtain ⟨_, _, _, _, _, _, _⟩ := id hz4) | (have hz4 := ZB.one (w' := w') (t := 31) (hk); obtain ⟨_, _, _, _, _, _, _⟩ := id hz4) | skip); clear hk))
      all_goals go_wp2_with fail
      all_goals go_meet
      all_goals refine ⟨_, _, rfl, rfl, ?_, ?_, ?_⟩
      all_goals repeat' (first | (with_reducible assumption) | (with_reducible refine Kept.drew ?_) | (with_reducible refine Kept.alloc ?_ _) | (with_reducible refine Kept.setAt ?_ ?_ _) | (with_reducible exact Kept.refl _) | (with_reducible refine ZB.set ?_) | (with_reducible exact D3.at (by simp)) | (with_reducible refine D3.alloc ?_ _) | (with_reducible refine D3.other ?_ ?_) | (with_reducible refine ZB.other ?_ ?_) | omega)
    case rest =>
      obtain ⟨g, h, rfl, rfl, hKc, d1, d2⟩ := hcut
      obtain ⟨V, rfl⟩ : ∃ V : World, V = wc := ⟨_, rfl⟩
      have KV := Lib.hid (hK.trans hKc)
      obtain ⟨_, y0, y1, y2⟩ := id d1
      obtain ⟨_, z0, z1, z2⟩ := id d2
      have mb : 40 < 12 * (Cal.Y t - Cal.Y f) + Cal.M t - Cal.M f + 1 := by rw [ME.out]; exact m40
      clear b3 hK c0 c1 c2 CK
      go_wp2
      go_ret
      exact ⟨rfl, KV.out⟩
set_option maxRecDepth 100000 in
set_option maxHeartbeats 4000000 in
theorem says_yesB (a f t d : Int) (w : World) (hT : Tab w) (h : okE a f t t = true) (hd : dyB d = false) :
    Calls Tryd.prog 3 #[.int .i64 a, .int .i64 f, .int .i64 t, .int .i64 d] w fun e w' => e = .returned (.bool true) ∧ Kept w w' := by
  obtain ⟨⟨a0, a1⟩, ⟨f0, f1⟩, ⟨t0, t1⟩, _, ft⟩ := (okE_iff a f t t).1 h
  have H := Lib.hid h
  have NB := Lib.hid (B3.new w a f t 3)
  have NK := Lib.hid (k3 w (.cells #[.int .i64 a] 3) (.cells #[.int .i64 f] 3) (.cells #[.int .i64 t] 3))
  have TT := Lib.hid hT
  have A := Lib.hid ((am_iff a).2 ⟨a0, a1⟩)
  have F := Lib.hid ((dyB_iff f).2 ⟨f0, f1⟩)
  have T := Lib.hid ((dyB_iff t).2 ⟨t0, t1⟩)
  have DF := dbd f f0 f1
  have DT := dbd t t0 t1
  have ME := Lib.hid (many_eq f t)
  have MP := mCt_pos f t f0 ft t1
  have tf : decide (t < f) = false := by simp; omega
  have D := Lib.hid hd
  have H2 := Lib.hid (show okE a f t d = false by unfold okE; rw [hd]; simp)
  clear h hT hd
  go_enter Tryd.func3, Tryd.ntmps3
  go_wp2_with fail
  refine (eby_no _ _ _ _ _ H2.out).mono ?_
  rintro e w1 ⟨rfl, hK1⟩
  obtain ⟨c0, c1, c2⟩ := (NB.out.later hK1).cells
  go_wp2_with fail
  refine (months_go _ _ _ _ ((TT.out.kept NK.out).kept hK1) H.out).mono ?_
  intro e w2 hp
  have hK2 : Kept w1 w2 := by rcases hp with ⟨_, _, _, _, k⟩ | ⟨_, _, k⟩ <;> exact k
  clear c0 c1 c2
  have b3 := NB.out.later (hK1.trans hK2)
  obtain ⟨c0, c1, c2⟩ := b3.cells
  have hK := (NK.out.trans hK1).trans hK2
  rcases hp with ⟨m40, v, rfl, hG, _⟩ | ⟨m40, rfl, _⟩
  · obtain ⟨m, hm⟩ := Int.eq_ofNat_of_zero_le (show 0 ≤ mCt f t by omega)
    rw [hm, show ((m : Int)).toNat = m by omega] at hG
    obtain ⟨ad, cap, rfl, hA⟩ := hG.arg
    obtain ⟨q, of', rfl, hR⟩ := hA.at (by omega)
    clear hG hA hK1 hK2
    go_wp2_with fail
    refine (rmoney_any _ _).mono ?_
    rintro e w3 ⟨rfl, rfl⟩
    rw [inB_am, A.out]
    go_wp2_with fail
    refine (rday_any _ _).mono ?_
    rintro e w3 ⟨rfl, rfl⟩
    rw [dayB_dy, F.out]
    go_wp2_with fail
    refine (rday_any _ _).mono ?_
    rintro e w3 ⟨rfl, rfl⟩
    rw [dayB_dy, T.out]
    go_wp2_with fail
    refine (rday_any _ _).mono ?_
    rintro e w3 ⟨rfl, rfl⟩
    rw [dayB_dy, D.out]
    go_wp2_with fail
    have CK := Lib.hid (fun w' (k : Kept w2 w') => show Kept w2 w' ∧ w'.cell? ⟨w.heap.size + 1, 0, none⟩ = some (.int .i64 f) ∧ w'.cell? ⟨w.heap.size + 1 + 1, 0, none⟩ = some (.int .i64 t) from ⟨k, (b3.later k).cells.2⟩)
    generalize w.heap.size = p at *
    go_cut [14, 15] (fun s14 s15 wx => DD w2 f t s14 s15 wx)
    case first =>
      go_region_held3 (fun w' => Kept w2 w' ∧ w'.cell? ⟨p + 1, 0, none⟩ = some (.int .i64 f) ∧ w'.cell? ⟨p + 1 + 1, 0, none⟩ = some (.int .i64 t))
        (first | (refine CK.out _ ?_; repeat' (first | (with_reducible assumption) | (with_reducible refine Kept.drew ?_) | (with_reducible refine Kept.alloc ?_ _) | (with_reducible refine Kept.setAt ?_ ?_ _) | (with_reducible exact Kept.refl _) | omega)))
        (first | (go_at_call 11; refine (rdate_any _ _ (by omega) (by omega)).mono ?_; rintro e w' ⟨rfl, hk⟩; have hKa := Kept.trans (a := w2) (And.left (by assumption)) hk; have hle := hKa.le; (try (have hz1 := ZB.later (w' := w') (g := w2.heap.size) (by assumption) hk; obtain ⟨_, _, _, _, _, _, _⟩ := id hz1)); (try (have hz6 := ZB.later (w' := w') (g := w2.heap.size + 1) (by assumption) hk; obtain ⟨_, _, _, _, _, _, _⟩ := id hz6)); (try (have hz5 := ZB.laterA (w' := w') (g := w2.heap.size) (by assumption) hk; obtain ⟨_, _, _, _, _, _, _⟩ := id hz5)); (first | (have hq := ZB.two (w := w2) (w' := w') (t := 31) (Kept.undrew hk); obtain ⟨hz2, hz3⟩ := hq; obtain ⟨_, _, _, _, _, _, _⟩ := id hz2; obtain ⟨_, _, _, _, _, _, _⟩ := id hz3) | (have hq := ZB.two (w' := w') (t := 31) (hk); obtain ⟨hz2, hz3⟩ := hq; obtain ⟨_, _, _, _, _, _, _⟩ := id hz2; obtain ⟨_, _, _, _, _, _, _⟩ := id hz3) | (have hz4 := ZB.one (w := w2) (w' := w') (t := 31) (Kept.undrew hk); obtain ⟨_, _, _, _, _, _, _⟩ := id hz4) | (have hz4 := ZB.one (w' := w') (t := 31) (hk); obtain ⟨_, _, _, _, _, _, _⟩ := id hz4) | skip); clear hk))
      all_goals go_wp2_with fail
      all_goals go_meet
      all_goals refine ⟨_, _, rfl, rfl, ?_, ?_, ?_⟩
      all_goals repeat' (first | (with_reducible assumption) | (with_reducible refine Kept.drew ?_) | (with_reducible refine Kept.alloc ?_ _) | (with_reducible refine Kept.setAt ?_ ?_ _) | (with_reducible exact Kept.refl _) | (with_reducible refine ZB.set ?_) | (with_reducible exact D3.at (by simp)) | (with_reducible refine D3.alloc ?_ _) | (with_reducible refine D3.other ?_ ?_) | (with_reducible refine ZB.other ?_ ?_) | omega)
    case rest =>
      obtain ⟨g, h, rfl, rfl, hKc, d1, d2⟩ := hcut
      obtain ⟨V, rfl⟩ : ∃ V : World, V = wc := ⟨_, rfl⟩
      have B3V := Lib.hid (b3.later hKc)
      have RV := Lib.hid (hR.later hKc)
      have KV := Lib.hid (hK.trans hKc)
      obtain ⟨_, y0, y1, y2⟩ := id d1
      obtain ⟨_, z0, z1, z2⟩ := id d2
      have mb : 12 * (Cal.Y t - Cal.Y f) + Cal.M t - Cal.M f + 1 ≤ 40 := by rw [ME.out]; exact m40
      have JL := Lib.hid (fun w => julian_any (Cal.Y f) (Cal.M f) 1 w (by omega) (by omega) (by omega) (by omega) (by omega) (by omega))
      clear b3 hR hK c0 c1 c2 CK
      go_wp2_with fail
      refine (JL.out _).mono ?_
      rintro e w4 ⟨rfl, rfl⟩
      go_wp2_with fail
      have hB : EB (V.alloc (.cells #[.int .i64 (Cal.num (Cal.Y f) (Cal.M f) 1)] 3)) p (p + 1) (p + 1 + 1) V.heap.size a f t (fsD f) := ⟨B3V.out.b0.later ((Kept.refl V).alloc _), B3V.out.b1.later ((Kept.refl V).alloc _), B3V.out.b2.later ((Kept.refl V).alloc _), SlBox.new rfl⟩
      rw [show 12 * (Cal.Y t - Cal.Y f) + Cal.M t - Cal.M f + 1 = (m : Int) by rw [ME.out, hm]]
      refine (parted_ea _ _ _ _ m a f t _ hB a0 a1 f0 ft t1 hm.symm (by omega)).mono ?_
      rintro e w5 ⟨ad2, cap2, rfl, hA2, hK5⟩
      obtain ⟨q2, of2, rfl, hR2⟩ := hA2.at (by omega)
      clear hB hA2 mb y0 y1 y2 z0 z1 z2
      go_wp2_with fail
      refine (equal_yes (eaP a f t) _ _ _ _ _ _ m _ (by omega) (RV.out.later (((Kept.refl V).alloc _).trans hK5)) hR2).mono ?_
      rintro e w6 ⟨rfl, hd⟩
      go_wp2
      go_ret
      exact ⟨rfl, ((KV.out.alloc _).trans hK5).trans hd.kept⟩
  · clear hK1 hK2
    go_wp2_with fail
    refine (rmoney_any _ _).mono ?_
    rintro e w3 ⟨rfl, rfl⟩
    rw [inB_am, A.out]
    go_wp2_with fail
    refine (rday_any _ _).mono ?_
    rintro e w3 ⟨rfl, rfl⟩
    rw [dayB_dy, F.out]
    go_wp2_with fail
    refine (rday_any _ _).mono ?_
    rintro e w3 ⟨rfl, rfl⟩
    rw [dayB_dy, T.out]
    go_wp2_with fail
    refine (rday_any _ _).mono ?_
    rintro e w3 ⟨rfl, rfl⟩
    rw [dayB_dy, D.out]
    go_wp2_with fail
    have CK := Lib.hid (fun w' (k : Kept w2 w') => show Kept w2 w' ∧ w'.cell? ⟨w.heap.size + 1, 0, none⟩ = some (.int .i64 f) ∧ w'.cell? ⟨w.heap.size + 1 + 1, 0, none⟩ = some (.int .i64 t) from ⟨k, (b3.later k).cells.2⟩)
    generalize w.heap.size = p at *
    go_cut [14, 15] (fun s14 s15 wx => DD w2 f t s14 s15 wx)
    case first =>
      go_region_held3 (fun w' => Kept w2 w' ∧ w'.cell? ⟨p + 1, 0, none⟩ = some (.int .i64 f) ∧ w'.cell? ⟨p + 1 + 1, 0, none⟩ = some (.int .i64 t))
        (first | (refine CK.out _ ?_; repeat' (first | (with_reducible assumption) | (with_reducible refine Kept.drew ?_) | (with_reducible refine Kept.alloc ?_ _) | (with_reducible refine Kept.setAt ?_ ?_ _) | (with_reducible exact Kept.refl _) | omega)))
        (first | (go_at_call 11; refine (rdate_any _ _ (by omega) (by omega)).mono ?_; rintro e w' ⟨rfl, hk⟩; have hKa := Kept.trans (a := w2) (And.left (by assumption)) hk; have hle := hKa.le; (try (have hz1 := ZB.later (w' := w') (g := w2.heap.size) (by assumption) hk; obtain ⟨_, _, _, _, _, _, _⟩ := id hz1)); (try (have hz6 := ZB.later (w' := w') (g := w2.heap.size + 1) (by assumption) hk; obtain ⟨_, _, _, _, _, _, _⟩ := id hz6)); (try (have hz5 := ZB.laterA (w' := w') (g := w2.heap.size) (by assumption) hk; obtain ⟨_, _, _, _, _, _, _⟩ := id hz5)); (first | (have hq := ZB.two (w := w2) (w' := w') (t := 31) (Kept.undrew hk); obtain ⟨hz2, hz3⟩ := hq; obtain ⟨_, _, _, _, _, _, _⟩ := id hz2; obtain ⟨_, _, _, _, _, _, _⟩ := id hz3) | (have hq := ZB.two (w' := w') (t := 31) (hk); obtain ⟨hz2, hz3⟩ := hq; obtain ⟨_, _, _, _, _, _, _⟩ := id hz2; obtain ⟨_, _, _, _, _, _, _⟩ := id hz3) | (have hz4 := ZB.one (w := w2) (w' := w') (t := 31) (Kept.undrew hk); obtain ⟨_, _, _, _, _, _, _⟩ := id hz4) | (have hz4 := ZB.one (w' := w') (t := 31) (hk); obtain ⟨_, _, _, _, _, _, _⟩ := id hz4) | skip); clear hk))
      all_goals go_wp2_with fail
      all_goals go_meet
      all_goals refine ⟨_, _, rfl, rfl, ?_, ?_, ?_⟩
      all_goals repeat' (first | (with_reducible assumption) | (with_reducible refine Kept.drew ?_) | (with_reducible refine Kept.alloc ?_ _) | (with_reducible refine Kept.setAt ?_ ?_ _) | (with_reducible exact Kept.refl _) | (with_reducible refine ZB.set ?_) | (with_reducible exact D3.at (by simp)) | (with_reducible refine D3.alloc ?_ _) | (with_reducible refine D3.other ?_ ?_) | (with_reducible refine ZB.other ?_ ?_) | omega)
    case rest =>
      obtain ⟨g, h, rfl, rfl, hKc, d1, d2⟩ := hcut
      obtain ⟨V, rfl⟩ : ∃ V : World, V = wc := ⟨_, rfl⟩
      have KV := Lib.hid (hK.trans hKc)
      obtain ⟨_, y0, y1, y2⟩ := id d1
      obtain ⟨_, z0, z1, z2⟩ := id d2
      have mb : 40 < 12 * (Cal.Y t - Cal.Y f) + Cal.M t - Cal.M f + 1 := by rw [ME.out]; exact m40
      clear b3 hK c0 c1 c2 CK
      go_wp2
      go_ret
      exact ⟨rfl, KV.out⟩
theorem earnSays_walk (a f t d : Int) (w : World) (hT : Tab w) :
    Calls Tryd.prog 3 #[.int .i64 a, .int .i64 f, .int .i64 t, .int .i64 d] w fun e w' => e = .returned (.bool true) ∧ Kept w w' := by
  cases h : okE a f t t
  · exact says_no a f t d w h
  · cases hd : dyB d
    · exact says_yesB a f t d w hT h hd
    · exact says_yesA a f t d w hT h hd

end Go.Proofs.YtcfcbglnmhoknabDoor
