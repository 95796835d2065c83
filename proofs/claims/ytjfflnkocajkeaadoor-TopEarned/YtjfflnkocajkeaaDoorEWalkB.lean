/-
  What package earn's Months returns. Condition: the table of the months' lengths reads as the program lays it (Tab).
-/
import Derived.Test.YtjfflnkocajkeaaDoorEMathB
namespace Go.Proofs.YtjfflnkocajkeaaDoor
open Go.RowKit

/-- The parts, in a new row. -/
def MonYes (w : World) (n : Nat) (g : Nat → Int) (e : Ending) (w' : World) : Prop :=
  ∃ v, e = .returned (.tuple #[v, .int .i64 0]) ∧ Gr w.heap.size w' v n g ∧ Kept w w'
/-- None, and an error. -/
def MonNo (w : World) (er : Int) (e : Ending) (w' : World) : Prop := e = .returned (.tuple #[.slice none 0 0, .int .i64 er]) ∧ Kept w w'
theorem Gr.later {B n : Nat} {w w' : World} {v : Value} {g : Nat → Int} (a : Gr B w v n g) (k : Kept w w') : Gr B w' v n g := by
  refine ⟨a.own.1, ?_⟩
  rcases a.own.2 with h | ⟨b, cap, cur, rfl, hb, hh, hr⟩
  · exact .inl h
  · exact .inr ⟨b, cap, cur, rfl, hb, (k.block b (Array.getElem?_eq_some_iff.1 hh).1).trans hh, hr⟩
theorem Gr.form {B n : Nat} {w : World} {v : Value} {g : Nat → Int} (h : Gr B w v n g) : ∃ a c, v = .slice a n c := by
  rcases h.own.2 with ⟨e, h0⟩ | ⟨q, c, _, e, _⟩
  · exact ⟨none, 0, by rw [e, h0]⟩
  · exact ⟨_, c, e⟩
theorem Gr.cap {B n m c : Nat} {w : World} {a : Option Addr} {g : Nat → Int} (h : Gr B w (.slice a m c) n g) : n ≤ c := by
  rcases h.own.2 with ⟨_, h0⟩ | ⟨q, c', _, e, _, _, hc, _⟩
  · omega
  · injection e with _ _ e3; omega
set_option maxRecDepth 100000 in
set_option maxHeartbeats 4000000 in
theorem months_go (a f t : Int) (w : World) (hT : Tab w) (h : okE a f t t = true) :
    Calls Tryd.prog 14 #[.int .i64 a, .int .i64 f, .int .i64 t] w fun e w' => (mCt f t ≤ 40 ∧ MonYes w (mCt f t).toNat (eaP a f t) e w') ∨ (40 < mCt f t ∧ MonNo w 2 e w') := by
  obtain ⟨⟨a0, a1⟩, ⟨f0, f1⟩, ⟨t0, t1⟩, _, ft⟩ := (okE_iff a f t t).1 h
  have H := Lib.hid h
  have TT := Lib.hid hT
  have ES := Lib.hid (fun k hk => enD_spec f t f0 ft t1 k hk)
  have EE := Lib.hid (fun k hk k1 => enD_end f t f0 ft t1 k hk k1)
  have MP := Lib.hid (mCt_pos f t f0 ft t1)
  have BY := Lib.hid (fun d (d0 : 0 ≤ d) (d1 : d ≤ 292193) w => eby_yes a f t d w ((okE_iff a f t d).2 ⟨⟨a0, a1⟩, ⟨f0, f1⟩, ⟨t0, t1⟩, ⟨d0, d1⟩, ft⟩))
  have CB := Lib.hid (fun k => eaC_bd (a := a) (f := f) (t := t) ft k a0 a1)
  have C0 := Lib.hid (eaC_zero a f t ft)
  clear h hT
  go_enter Tryd.func14, Tryd.ntmps14
  go_wp2_with fail
  refine (eby_yes _ _ _ _ _ H.out).mono ?_
  rintro e w1 ⟨rfl, hK1⟩
  go_wp2
  go_loopw [10, 11, 12] (fun v b x wr => ∃ k : Nat, k ≤ 40 ∧ (k : Int) ≤ mCt f t ∧ b = .int .i64 (eaC a f t k) ∧ x = .int .i64 (enD f k) ∧ Gr w.heap.size wr v k (eaP a f t) ∧ Kept w wr) (fun _ _ x _ => (292194 - intOf x).toNat)
  case atStart => exact ⟨0, by omega, by have := MP.out; omega, by rw [C0.out], rfl, Gr.nil _ _ _, hK1⟩
  case round =>
    clear hK1
    obtain ⟨k, k40, km, rfl, rfl, hG, hK⟩ := hrel
    obtain ⟨ad, cp, rfl⟩ := hG.form
    have cb := CB.out k
    by_cases hz : (k : Int) = mCt f t
    · have Z := Lib.hid hz
      have k1 : 1 ≤ k := by have := MP.out; omega
      obtain ⟨e1, e2⟩ := EE.out k hz k1
      clear km cb
      generalize enD f k = x at *
      have nl : decide (x < t) = false := by rw [decide_eq_false_iff_not]; omega
      clear hz
      go_wp2
      go_ret2
      refine .inl ⟨by rw [← Z.out]; omega, _, rfl, ?_, hK⟩
      rw [← Z.out]
      exact hG
    · obtain ⟨s1, s2, s3, s4, s5, _⟩ := ES.out k (by omega)
      have HX := Lib.hid (show enD f (k + 1) = lastV (enD f k + 1) from rfl)
      have cb2 := CB.out (k + 1)
      have LY := Lib.hid (fun w hT => last_yes (enD f k + 1) w hT (by omega) (by omega))
      have Z := Lib.hid hz
      have KM := Lib.hid km
      have BK := Lib.hid (fun w => BY.out (enD f (k + 1)) (by omega) s5 w)
      have PK := Lib.hid (show eaC a f t (k + 1) = eaV a f t (enD f (k + 1)) from rfl)
      have PP := Lib.hid (show eaP a f t k = eaC a f t (k + 1) - eaC a f t k from rfl)
      rw [← HX.out] at LY
      rw [← PK.out] at BK
      clear hz km
      generalize hy : enD f (k + 1) = y at *
      have HY := Lib.hid hy
      clear hy
      generalize enD f k = x at *
      generalize hc : eaC a f t (k + 1) = c1 at *
      have HC := Lib.hid hc
      clear hc
      generalize eaC a f t k = c0 at *
      by_cases h40 : k = 40
      · subst h40
        go_wp2
        go_ret2
        exact .inr ⟨by have := Z.out; have := KM.out; omega, rfl, hK⟩
      · have nk : ((k : Int) == 40) = false := by rw [beq_eq_false_iff_ne]; omega
        have lt : x < t := by omega
        go_wp2_with fail
        refine (LY.out _ (TT.out.kept hK)).mono ?_
        rintro e w2 ⟨rfl, hK2⟩
        go_wp2_with fail
        refine (BK.out _).mono ?_
        rintro e w3 ⟨rfl, hK3⟩
        have hG2 := hG.later (hK2.trans hK3)
        have hK4 := (hK.trans hK2).trans hK3
        clear hG hK hK2 hK3
        go_wp2_with (at_builtin; refine app_one rfl (.tmp 48) (.tmp 52) rfl (B := w.heap.size) (z := c1 - c0) rfl rfl (hG2.alloc _) (by simp) (by omega) (by have := hK4.size; simp; omega) ?_)
        intro v' w5 hG3 hgrow _
        have hK5 := (hG2.alloc _).below (Nat.le_refl _) (hK4.alloc _) hgrow
        clear hG2 hK4 hgrow
        have hG4 : Gr w.heap.size w5 v' (k + 1) (eaP a f t) := hG3.congr (fun j hj => by
          by_cases e : j = k
          · subst e; rw [up_same, PP.out]
          · rw [up_ne _ _ e])
        clear hG3
        go_wp2
        go_roundw
        case rel => exact ⟨k + 1, by omega, by have := Z.out; have := KM.out; omega, by rw [HC.out], by rw [HY.out], hG4, hK5⟩
        case measure => simp [intOf]; omega
set_option maxHeartbeats 1000000 in
theorem months_no (a f t : Int) (w : World) (h : okE a f t t = false) : Calls Tryd.prog 14 #[.int .i64 a, .int .i64 f, .int .i64 t] w (MonNo w 1) := by
  have H := Lib.hid h
  clear h
  go_enter Tryd.func14, Tryd.ntmps14
  go_wp2_with fail
  refine (eby_no _ _ _ _ _ H.out).mono ?_
  rintro e w1 ⟨rfl, hK1⟩
  go_wp2
  go_ret2
  exact ⟨rfl, hK1⟩
/-- The error of Months. -/
def mnE (a f t : Int) : Int := if okE a f t t = true then (if mCt f t ≤ 40 then 0 else 2) else 1
theorem months_any (a f t : Int) (w : World) (hT : Tab w) :
    Calls Tryd.prog 14 #[.int .i64 a, .int .i64 f, .int .i64 t] w fun e w' => (mnE a f t = 0 ∧ MonYes w (mCt f t).toNat (eaP a f t) e w') ∨ (mnE a f t ≠ 0 ∧ MonNo w (mnE a f t) e w') := by
  unfold mnE
  cases h : okE a f t t
  · refine (months_no a f t w h).mono fun e w' k => .inr ⟨by simp, by simpa using k⟩
  · refine (months_go a f t w hT h).mono fun e w' k => ?_
    rcases k with ⟨c, k⟩ | ⟨c, k⟩
    · exact .inl ⟨by simp [c], k⟩
    · have c' : ¬ mCt f t ≤ 40 := by omega
      exact .inr ⟨by simp [c'], by simpa [c'] using k⟩

end Go.Proofs.YtjfflnkocajkeaaDoor
