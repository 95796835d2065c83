/-
  The reference of what is earned: Earned, the law's closure over months, Parted with it. No condition but those that each theorem names.
-/
import Derived.Test.YtcfcbglnmhoknabDoorLWalkR
namespace Go.Proofs.YtcfcbglnmhoknabDoor
open Go.RowKit

set_option maxHeartbeats 1000000 in
theorem rearned_any (a f t d : Int) (w : World) (h : okE a f t d = true) :
    Calls Tryd.prog 10 #[.int .i64 a, .int .i64 f, .int .i64 t, .int .i64 d] w fun e w' => e = .returned (.int .i64 (eaV a f t d)) ∧ w = w' := by
  obtain ⟨⟨a0, a1⟩, ⟨f0, f1⟩, ⟨t0, t1⟩, ⟨d0, d1⟩, ft⟩ := (okE_iff a f t d).1 h
  have P := Lib.hid (show ∀ n p, a * p = n → 0 ≤ p → p ≤ 300000 → ∀ w, Calls Tryd.prog 42 #[.int .i64 n, .int .i64 (t - f + 1), .int .i64 2] w fun e w' => e = .returned (.int .i64 (rnd (a * p) (t - f + 1) 2)) ∧ w = w' from fun n p e p0 p1 w => by subst e; exact rround_any (a * p) (t - f + 1) 2 w (ap_bd a0 a1 p0 p1).1 (ap_bd a0 a1 p0 p1).2 (by omega) (by omega) (by omega) (by omega))
  have B := Lib.hid (fun p (p0 : 0 ≤ p) (p1 : p ≤ 300000) => ap_bd a0 a1 p0 p1)
  have pb := pst_bd f t d ft
  have E := Lib.hid (show eaV a f t d = rnd (a * pst f t d) (t - f + 1) 2 from rfl)
  generalize eaV a f t d = V at *
  clear h
  rcases (show (d < f ∧ d ≤ t ∧ pst f t d = 0) ∨ (f ≤ d ∧ d ≤ t ∧ pst f t d = d - f + 1) ∨ (f ≤ d ∧ t < d ∧ pst f t d = t - f + 1) by unfold pst; omega) with ⟨c1, c2, c3⟩ | ⟨c1, c2, c3⟩ | ⟨c1, c2, c3⟩
  all_goals
    rw [c3] at pb E
    have mb := B.out _ pb.1 (by omega)
    clear c3
    go_enter Tryd.func10, Tryd.ntmps10
    go_wp2_with fail
    refine (P.out _ _ (by first | exact Int.mul_zero a | exact rfl) pb.1 (by omega) _).mono ?_
    rintro e w1 ⟨rfl, rfl⟩
    go_wp2
    go_ret
    exact ⟨ret_int (by first | exact E.out.symm | rw [E.out, Int.mul_zero]), rfl⟩

/-- The first day of the month of f. -/
def fsD (f : Int) : Int := Cal.num (Cal.Y f) (Cal.M f) 1
theorem fsD_ok (f : Int) (f0 : 0 ≤ f) (f1 : f ≤ 292193) : 0 ≤ fsD f ∧ fsD f ≤ 292193 ∧ idx (fsD f) 0 = idx f 0 := by
  have d := dbd f f0 f1
  have v : Cal.Vld (Cal.Y f) (Cal.M f) 1 := ⟨by omega, by omega, by omega, by omega, by omega, by omega⟩
  obtain ⟨a, b, _⟩ := Cal.back _ _ _ v
  have e := Cal.num_bd v
  refine ⟨e.1, e.2, ?_⟩
  unfold idx fsD; rw [a, b]
theorem last_idx {m n : Int} (m0 : 0 ≤ m) (m1 : m ≤ 292193) (n0 : 0 ≤ n) (n1 : n ≤ 292193) (h : idx m 0 = idx n 0) : lastV m = lastV n := by
  obtain ⟨a, b⟩ := idx_y m m0 m1
  obtain ⟨c, d⟩ := idx_y n n0 n1
  rw [h] at a b
  unfold lastV
  rw [← a, ← b, ← c, ← d]
theorem fsD_add (f t : Int) (f0 : 0 ≤ f) (ft : f ≤ t) (t1 : t ≤ 292193) (k : Nat) (h : (k : Int) < mCt f t) :
    raddV (fsD f) k = addV (fsD f) k ∧ 0 ≤ addV (fsD f) k ∧ addV (fsD f) k ≤ 292193 ∧ lastV (addV (fsD f) k) = enD f (k + 1) := by
  obtain ⟨a, b, c⟩ := fsD_ok f f0 (by omega)
  obtain ⟨s1, s2, s3, s4, s5, s6, s7, s8⟩ := enD_spec f t f0 ft t1 k h
  have e : idx (fsD f) k = idx f 0 + k := by rw [idx_add, c]
  have ib := idx_bd (enD f (k + 1)) (by omega) s5
  have i0 : 0 ≤ idx (fsD f) k ∧ idx (fsD f) k < 9600 := by rw [e, ← s6]; omega
  obtain ⟨_, _, _, u, v⟩ := add_date (fsD f) k a b i0.1 i0.2
  refine ⟨by unfold raddV; rw [if_pos i0], u, v, ?_⟩
  rw [last_idx u v (show 0 ≤ enD f (k + 1) by omega) s5 ?_, s8]
  rw [add_idx (fsD f) k 0 a b i0.1 i0.2, e, s6]; omega
/-- What the closure has captured. -/
structure EB (w : World) (p0 p1 p2 p3 : Nat) (a f t x : Int) : Prop where
  b0 : SlBox w p0 (.int .i64 a)
  b1 : SlBox w p1 (.int .i64 f)
  b2 : SlBox w p2 (.int .i64 t)
  b3 : SlBox w p3 (.int .i64 x)
theorem EB.later {w w' : World} {p0 p1 p2 p3 : Nat} {a f t x : Int} (h : EB w p0 p1 p2 p3 a f t x) (k : Kept w w') : EB w' p0 p1 p2 p3 a f t x :=
  ⟨h.b0.later k, h.b1.later k, h.b2.later k, h.b3.later k⟩
theorem EB.cells {w w' : World} {p0 p1 p2 p3 : Nat} {a f t x : Int} (h : EB w p0 p1 p2 p3 a f t x) (k : Kept w w') :
    Kept w w' ∧ w'.cell? ⟨p0, 0, none⟩ = some (.int .i64 a) ∧ w'.cell? ⟨p1, 0, none⟩ = some (.int .i64 f) ∧ w'.cell? ⟨p2, 0, none⟩ = some (.int .i64 t) ∧ w'.cell? ⟨p3, 0, none⟩ = some (.int .i64 x) :=
  ⟨k, (h.later k).b0.cell, (h.later k).b1.cell, (h.later k).b2.cell, (h.later k).b3.cell⟩
set_option maxRecDepth 100000 in
set_option maxHeartbeats 4000000 in
theorem eclo_any (p0 p1 p2 p3 k : Nat) (a f t : Int) (w : World) (hB : EB w p0 p1 p2 p3 a f t (fsD f)) (a0 : -1000000000000 ≤ a) (a1 : a ≤ 1000000000000) (f0 : 0 ≤ f) (ft : f ≤ t) (t1 : t ≤ 292193) (hk : (k : Int) ≤ mCt f t) (k40 : k ≤ 40) :
    Calls Tryd.prog 15 #[.int .i64 (k : Int), .pointer (some ⟨p0, 0, none⟩), .pointer (some ⟨p1, 0, none⟩), .pointer (some ⟨p2, 0, none⟩), .pointer (some ⟨p3, 0, none⟩)] w fun e w' => e = .returned (.int .i64 (eaC a f t k)) ∧ Kept w w' := by
  have B := Lib.hid hB
  obtain ⟨⟨_, c0⟩, ⟨_, c1⟩, ⟨_, c2⟩, ⟨_, c3⟩⟩ := hB
  by_cases z : k = 0
  · subst z
    have E := Lib.hid (eaC_zero a f t ft)
    generalize eaC a f t 0 = V at *
    go_enter Tryd.func15, Tryd.ntmps15
    go_wp2
    go_ret
    exact ⟨ret_int E.out.symm, Kept.refl w⟩
  · obtain ⟨j, rfl⟩ : ∃ j, k = j + 1 := ⟨k - 1, by omega⟩
    obtain ⟨x0, x1, _⟩ := fsD_ok f f0 (by omega)
    obtain ⟨q1, q2, q3, q4⟩ := fsD_add f t f0 ft t1 j (by omega)
    obtain ⟨s1, s2, s3, s4, s5, _⟩ := enD_spec f t f0 ft t1 j (by omega)
    have RA := Lib.hid (fun w => radd_any (fsD f) j w x0 x1 (by omega) (by omega))
    have RL := Lib.hid (fun w => rlast_any (addV (fsD f) j) w q2 q3)
    have RE := Lib.hid (fun w => rearned_any a f t (enD f (j + 1)) w ((okE_iff _ _ _ _).2 ⟨⟨a0, a1⟩, ⟨f0, by omega⟩, ⟨by omega, t1⟩, ⟨by omega, s5⟩, ft⟩))
    rw [q1] at RA
    rw [q4] at RL
    have E := Lib.hid (show eaC a f t (j + 1) = eaV a f t (enD f (j + 1)) from rfl)
    have kb : 1 ≤ ((j + 1 : Nat) : Int) ∧ ((j + 1 : Nat) : Int) ≤ 40 := by omega
    have kj : (j : Int) = ((j + 1 : Nat) : Int) - 1 := by omega
    generalize addV (fsD f) j = u at *
    rw [kj] at RA
    generalize ((j + 1 : Nat) : Int) = K at *
    have kz : (K == 0) = false := by rw [beq_eq_false_iff_ne]; omega
    have r1 : IntKind.i64.wrap (K - 1) = K - 1 := IntWalk.i64_in _ (by omega)
    clear z q1 q4 s1 s2 s3 s4 s5 hk x0 x1 q2 q3 kj k40
    generalize eaC a f t (j + 1) = V at *
    generalize eaV a f t (enD f (j + 1)) = V' at *
    generalize enD f (j + 1) = y at *
    generalize fsD f = x at *
    go_enter Tryd.func15, Tryd.ntmps15
    go_wp2_with fail
    go_region_held3 (fun w' => Kept w w' ∧ w'.cell? ⟨p0, 0, none⟩ = some (.int .i64 a) ∧ w'.cell? ⟨p1, 0, none⟩ = some (.int .i64 f) ∧ w'.cell? ⟨p2, 0, none⟩ = some (.int .i64 t) ∧ w'.cell? ⟨p3, 0, none⟩ = some (.int .i64 x))
      (first | exact B.out.cells (Kept.refl w).drew | exact B.out.cells (by assumption))
      (first | (go_at_call 17; refine (RA.out _).mono ?_; rintro e w' ⟨rfl, hk⟩; have hKa := Kept.trans (a := w) (And.left (by assumption)) hk; clear hk) | (go_at_call 16; refine (RL.out _).mono ?_; rintro e w' ⟨rfl, hk⟩; have hKb := Kept.trans (a := w) (And.left (by assumption)) hk; clear hk) | (go_at_call 10; refine (RE.out _).mono ?_; rintro e w' ⟨rfl, rfl⟩))
    rename_i hHeld
    have hKz := hHeld.1
    clear hHeld
    go_wp2
    go_ret
    exact ⟨ret_int E.out.symm, hKz⟩
set_option maxRecDepth 100000 in
set_option maxHeartbeats 4000000 in
theorem parted_ea (p0 p1 p2 p3 n : Nat) (a f t : Int) (w : World) (hB : EB w p0 p1 p2 p3 a f t (fsD f)) (a0 : -1000000000000 ≤ a) (a1 : a ≤ 1000000000000) (f0 : 0 ≤ f) (ft : f ≤ t) (t1 : t ≤ 292193) (hn : (n : Int) = mCt f t) (n40 : n ≤ 40) :
    Calls Tryd.prog 14 #[.int .i64 (n : Int), .func (.func 15) #[] #[.pointer (some ⟨p0, 0, none⟩), .pointer (some ⟨p1, 0, none⟩), .pointer (some ⟨p2, 0, none⟩), .pointer (some ⟨p3, 0, none⟩)]] w (PartedPost w n (eaP a f t)) := by
  have C := Lib.hid (fun (k : Nat) (w1 : World) (kn : k ≤ n) (hK : Kept w w1) => eclo_any p0 p1 p2 p3 k a f t w1 (hB.later hK) a0 a1 f0 ft t1 (by omega) (by omega))
  have BD := Lib.hid (fun (k : Nat) => eaC_bd (a := a) (f := f) (t := t) ft k a0 a1)
  have EP := Lib.hid (fun (k : Nat) => show eaC a f t (k + 1) - eaC a f t k = eaP a f t k from rfl)
  have n1 := mCt_pos f t f0 ft t1
  rw [← hn] at n1
  clear hB hn
  go_enter Tryd.func14, Tryd.ntmps14
  go_wp2_with fail
  refine (C.out 0 _ (by omega) (Kept.refl w)).mono ?_
  rintro e w1 ⟨rfl, hK1⟩
  go_wp2_with fail
  go_loopw [5, 6, 7] (fun v x i wr => ∃ j : Nat, j ≤ n ∧ i = .int .i64 ((j : Int) + 1) ∧ x = .int .i64 (eaC a f t j) ∧ Gr w.heap.size wr v j (eaP a f t) ∧ Kept w wr) (fun _ _ i _ => (n + 1 - intOf i).toNat)
  case atStart => exact ⟨0, by omega, rfl, rfl, Gr.nil _ _ _, hK1⟩
  case round =>
    clear hK1
    obtain ⟨j, hj, rfl, rfl, hG, hK⟩ := hrel
    by_cases hlt : j < n
    · have b1 := BD.out j
      have b2 := BD.out (j + 1)
      go_wp2_with fail
      refine (C.out (j + 1) _ hlt hK).mono ?_
      rintro e w2 ⟨rfl, hd⟩
      have hK2 := hK.trans hd
      have hG2 := hG.later hd
      clear hK hG hd
      go_wp2_with (at_builtin; refine app_one rfl (.tmp 15) (.tmp 21) rfl (B := w.heap.size) (z := eaC a f t (j + 1) - eaC a f t j) rfl rfl (hG2.alloc _) (by simp) (by omega) (by have := hK2.size; simp; omega) ?_)
      intro v' w3 hG' hgrow _
      have hK3 := (hG2.alloc _).below (Nat.le_refl _) (hK2.alloc _) hgrow
      have hG3 := hG'.congr (h := eaP a f t) (fun t _ => by
        unfold up
        by_cases e : t = j
        · rw [if_pos e, e]; exact EP.out j
        · rw [if_neg e])
      clear hG' hgrow hG2 hK2
      go_wp2_with fail
      refine (C.out (j + 1) _ hlt hK3).mono ?_
      rintro e w4 ⟨rfl, hd⟩
      have hK4 := hK3.trans hd
      have hG4 := hG3.later hd
      clear hK3 hG3 hd
      go_wp2
      go_roundw
      case rel => exact ⟨j + 1, by omega, by go_num, rfl, hG4, hK4⟩
      case measure => simp [intOf]; omega
    · obtain rfl : j = n := by omega
      obtain ⟨ad, cp, rfl, hAr⟩ := hG.arg
      clear hlt hj
      go_wp2
      go_ret
      exact ⟨ad, cp, rfl, hAr, hK⟩

end Go.Proofs.YtcfcbglnmhoknabDoor
