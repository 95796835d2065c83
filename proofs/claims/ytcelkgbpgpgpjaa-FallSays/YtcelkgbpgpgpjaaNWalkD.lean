/-
  The closure that the law FallSays hands to Parted, and Parted with it. No condition but those that each theorem names.
-/
import Derived.Test.YtcelkgbpgpgpjaaNWalkC
namespace Go.Proofs.Ytcelkgbpgpgpjaa
open Go.RowKit

theorem un_round (a total : Int) (g : Nat → Int) (k : Nat) : rnd (a * unS total g k) total 0 = unC a total g k := by
  unfold rnd unC; rw [upB_0]; simp
set_option maxRecDepth 100000 in
set_option maxHeartbeats 2000000 in
theorem unclo_any (pu pt pc pr p off n cap k : Nat) (total c r : Int) (g : Nat → Int) (w : World) (h : UnOk c r total n g) (hcap : n ≤ cap) (kn : k ≤ n) (hR : Rd w p off (tab n g)) (hB : BoxU w pu pt pc pr (.slice (some ⟨p, off, none⟩) n cap) total c r) :
    Calls Try.prog 18 #[.int .i64 (k : Int), .pointer (some ⟨pu, 0, none⟩), .pointer (some ⟨pt, 0, none⟩), .pointer (some ⟨pc, 0, none⟩), .pointer (some ⟨pr, 0, none⟩)] w fun e w' => e = .returned (.int .i64 (unC (c - r) total g k)) ∧ w = w' := by
  obtain ⟨c0, c1, r0, rc, t1, t2, n40, hg⟩ := h
  have e0 := hB.u.cell
  have e1 := hB.t.cell
  have e2 := hB.c.cell
  have e3 := hB.r.cell
  have HR := Lib.hid hR.cell
  have HG := Lib.hid hg
  have sb := unS_bd total g k t1 (fun j hj => (hg j (by omega)).1)
  have ab := as_bd (c - r) (unS total g k) (by omega) (by omega) sb.1 (by omega)
  have RE := Lib.hid (un_round (c - r) total g k)
  have US := Lib.hid (show unS total g k = min (sumTo g k) total from rfl)
  have SN := Lib.hid (fun j (hj : j ≤ k) => sum_nonneg g j (fun i hi => (hg i (by omega)).1))
  have SL := Lib.hid (fun j (hj : j ≤ k) => sum_le g j 1000000 (fun i hi => (hg i (by omega)).2))
  have RR := Lib.hid (fun w => rround_any ((c - r) * unS total g k) total 0 w (by omega) (by omega) (by omega) (by omega) (by omega) (by omega))
  rw [RE.out] at RR
  generalize unC (c - r) total g k = V at *
  generalize hS : unS total g k = S at *
  have kc : k ≤ cap := by omega
  clear hg hB hR RE hS
  go_enter Try.func18, Try.ntmps18
  go_wp2_with fail
  go_loop [7, 14] (fun s i => ∃ j : Nat, j ≤ k ∧ i = .int .i64 j ∧ s = .int .i64 (sumTo g j)) (fun _ i => (k - intOf i).toNat)
  case atStart => exact ⟨0, by omega, rfl, rfl⟩
  case round =>
    obtain ⟨j, hj, rfl, rfl⟩ := hrel
    by_cases hlt : j < k
    · have hc := HR.out j (by rw [tab_len]; omega)
      rw [tab_get] at hc
      have gb := HG.out j (by omega)
      have s1 := SN.out j hj
      have s2 := SL.out j hj
      have E := Lib.hid (show sumTo g (j + 1) = sumTo g j + g j from rfl)
      generalize sumTo g j = x at *
      generalize g j = t at *
      go_wp2
      go_round
      case rel => exact ⟨j + 1, by omega, by go_num, by rw [E.out]⟩
      case measure => simp [intOf]; omega
    · obtain rfl : j = k := by omega
      clear hlt
      have us := US.out
      have s1 := SN.out j hj
      generalize sumTo g j = x at *
      clear US SN SL
      by_cases ht : total < x
      · obtain rfl : S = total := by omega
        clear us
        go_wp2_with fail
        refine (RR.out _).mono ?_
        rintro e w1 ⟨rfl, rfl⟩
        go_wp2
        go_ret
        exact ⟨rfl, rfl⟩
      · obtain rfl : S = x := by omega
        have hb : decide (total < S) = false := by simpa using ht
        clear us ht
        go_wp2_with fail
        refine (RR.out _).mono ?_
        rintro e w1 ⟨rfl, rfl⟩
        go_wp2
        go_ret
        exact ⟨rfl, rfl⟩
set_option maxRecDepth 100000 in
set_option maxHeartbeats 2000000 in
theorem unclo_none (pu pt pc pr cap : Nat) (a : Option Addr) (total c r : Int) (g : Nat → Int) (w : World) (h : UnOk c r total 0 g) (hB : BoxU w pu pt pc pr (.slice a 0 cap) total c r) :
    Calls Try.prog 18 #[.int .i64 0, .pointer (some ⟨pu, 0, none⟩), .pointer (some ⟨pt, 0, none⟩), .pointer (some ⟨pc, 0, none⟩), .pointer (some ⟨pr, 0, none⟩)] w fun e w' => e = .returned (.int .i64 0) ∧ w = w' := by
  obtain ⟨c0, c1, r0, rc, t1, t2, n40, hg⟩ := h
  have e0 := hB.u.cell
  have e1 := hB.t.cell
  have e2 := hB.c.cell
  have e3 := hB.r.cell
  have RR := Lib.hid (fun (x : Int) (w : World) (hx : x = 0) => show Calls Try.prog 19 #[.int .i64 x, .int .i64 total, .int .i64 0] w (fun e w' => e = .returned (.int .i64 0) ∧ w = w') from by
    subst hx
    have := rround_any 0 total 0 w (by omega) (by omega) (by omega) (by omega) (by omega) (by omega)
    have RZ : rnd 0 total 0 = 0 := by unfold rnd; rw [upB_0]; simp
    rw [RZ] at this
    exact this)
  have tb : decide (total < 0) = false := by simp; omega
  clear hB hg
  cases a with
  | none =>
    go_enter Try.func18, Try.ntmps18
    go_wp2_with fail
    go_loop [7, 14] (fun s i => i = .int .i64 0 ∧ s = .int .i64 0) (fun _ _ => 0)
    case atStart => exact ⟨rfl, rfl⟩
    case round =>
      obtain ⟨rfl, rfl⟩ := hrel
      go_wp2_with fail
      refine (RR.out _ _ (by simp)).mono ?_
      rintro e w1 ⟨rfl, rfl⟩
      go_wp2
      go_ret
      exact ⟨rfl, rfl⟩
  | some ad =>
    go_enter Try.func18, Try.ntmps18
    go_wp2_with fail
    go_loop [7, 14] (fun s i => i = .int .i64 0 ∧ s = .int .i64 0) (fun _ _ => 0)
    case atStart => exact ⟨rfl, rfl⟩
    case round =>
      obtain ⟨rfl, rfl⟩ := hrel
      go_wp2_with fail
      refine (RR.out _ _ (by simp)).mono ?_
      rintro e w1 ⟨rfl, rfl⟩
      go_wp2
      go_ret
      exact ⟨rfl, rfl⟩
/-- In one contract. -/
theorem unclo (pu pt pc pr n cap k : Nat) (a : Option Addr) (total c r : Int) (g : Nat → Int) (w : World) (h : UnOk c r total n g) (hcap : n ≤ cap) (kn : k ≤ n) (hA : Arg w a n g) (hB : BoxU w pu pt pc pr (.slice a n cap) total c r) :
    Calls Try.prog 18 #[.int .i64 (k : Int), .pointer (some ⟨pu, 0, none⟩), .pointer (some ⟨pt, 0, none⟩), .pointer (some ⟨pc, 0, none⟩), .pointer (some ⟨pr, 0, none⟩)] w fun e w' => e = .returned (.int .i64 (unC (c - r) total g k)) ∧ w = w' := by
  by_cases hn : 0 < n
  · obtain ⟨p, off, rfl, hR⟩ := hA.at hn
    exact unclo_any pu pt pc pr p off n cap k total c r g w h hcap kn hR hB
  · obtain rfl : n = 0 := by omega
    obtain rfl : k = 0 := by omega
    rw [unC_zero _ _ _ h.t1]
    exact unclo_none pu pt pc pr cap a total c r g w h hB
set_option maxRecDepth 100000 in
set_option maxHeartbeats 4000000 in
theorem parted_un (pu pt pc pr n cap : Nat) (a : Option Addr) (total c r : Int) (g : Nat → Int) (w : World) (h : UnOk c r total n g) (hcap : n ≤ cap) (hA : Arg w a n g) (hB : BoxU w pu pt pc pr (.slice a n cap) total c r) :
    Calls Try.prog 17 #[.int .i64 (n : Int), .func (.func 18) #[] #[.pointer (some ⟨pu, 0, none⟩), .pointer (some ⟨pt, 0, none⟩), .pointer (some ⟨pc, 0, none⟩), .pointer (some ⟨pr, 0, none⟩)]] w (PartedPost w n (dif (unC (c - r) total g))) := by
  have C := Lib.hid (fun (k : Nat) (w1 : World) (kn : k ≤ n) (hK : Kept w w1) => unclo pu pt pc pr n cap k a total c r g w1 h hcap kn (hA.later hK) (hB.later hK))
  have BD := Lib.hid (fun (k : Nat) (kn : k ≤ n) => show 0 ≤ unC (c - r) total g k ∧ unC (c - r) total g k ≤ 1000000000000 by
    have := unC_bd (c - r) total g k h.t1 (by have := h.rc; omega) (fun j hj => (h.g j (by omega)).1)
    have := h.c1; have := h.r0; omega)
  have n40 := h.n40
  have EP := Lib.hid (fun (k : Nat) => show unC (c - r) total g (k + 1) - unC (c - r) total g k = dif (unC (c - r) total g) k from rfl)
  clear hB hA h
  generalize unC (c - r) total g = f at *
  go_enter Try.func17, Try.ntmps17
  go_wp2_with fail
  refine (C.out 0 _ (by omega) (Kept.refl w)).mono ?_
  rintro e w1 ⟨rfl, rfl⟩
  go_wp2_with fail
  go_loopw [5, 6, 7] (fun v x i wr => ∃ j : Nat, j ≤ n ∧ i = .int .i64 ((j : Int) + 1) ∧ x = .int .i64 (f j) ∧ Gr w.heap.size wr v j (dif f) ∧ Kept w wr) (fun _ _ i _ => (n + 1 - intOf i).toNat)
  case atStart => exact ⟨0, by omega, rfl, rfl, Gr.nil _ _ _, Kept.refl w⟩
  case round =>
    obtain ⟨j, hj, rfl, rfl, hG, hK⟩ := hrel
    by_cases hlt : j < n
    · have b1 := BD.out j hj
      have b2 := BD.out (j + 1) hlt
      go_wp2_with fail
      refine (C.out (j + 1) _ hlt hK).mono ?_
      rintro e w2 ⟨rfl, rfl⟩
      go_wp2_with (at_builtin; refine app_one rfl (.tmp 15) (.tmp 21) rfl (B := w.heap.size) (z := f (j + 1) - f j) rfl rfl (hG.alloc _) (by simp) (by omega) (by have := hK.size; simp; omega) ?_)
      intro v' w3 hG' hgrow _
      have hK3 := (hG.alloc _).below (Nat.le_refl _) (hK.alloc _) hgrow
      have hG3 := hG'.congr (h := dif f) (fun t _ => by
        unfold up
        by_cases e : t = j
        · rw [if_pos e, e]; exact EP.out j
        · rw [if_neg e])
      clear hG' hgrow hG hK
      go_wp2_with fail
      refine (C.out (j + 1) _ hlt hK3).mono ?_
      rintro e w4 ⟨rfl, rfl⟩
      go_wp2
      go_roundw
      case rel => exact ⟨j + 1, by omega, by go_num, rfl, hG3, hK3⟩
      case measure => simp [intOf]; omega
    · obtain rfl : j = n := by omega
      obtain ⟨ad, cp, rfl, hAr⟩ := hG.arg
      clear hlt hj
      go_wp2
      go_ret
      exact ⟨ad, cp, rfl, hAr, hK⟩

end Go.Proofs.Ytcelkgbpgpgpjaa
