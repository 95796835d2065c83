/-
  What package line returns: check, near, sumTo, periods, Straight, Digits. No condition but those that each theorem names.
-/
import Derived.Test.YtklbikifcebckaaLMath
namespace Go.Proofs.Ytklbikifcebckaa
open Go.RowKit

/-- The error of P19. -/
def erA (c r n : Int) : Int := if okA c r n = true then 0 else 1
theorem erA_yes {c r n : Int} (h : okA c r n = true) : erA c r n = 0 := by unfold erA; rw [if_pos h]
theorem erA_no {c r n : Int} (h : okA c r n = false) : erA c r n = 1 := by unfold erA; rw [h]; rfl
theorem okA_no {c r n : Int} (h : okA c r n = false) : c < 0 ∨ (0 ≤ c ∧ 1000000000000 < c) ∨ (0 ≤ c ∧ c ≤ 1000000000000 ∧ r < 0) ∨ (0 ≤ c ∧ c ≤ 1000000000000 ∧ 0 ≤ r ∧ c < r) ∨ (0 ≤ c ∧ c ≤ 1000000000000 ∧ 0 ≤ r ∧ r ≤ c ∧ n < 1) ∨ (0 ≤ c ∧ c ≤ 1000000000000 ∧ 0 ≤ r ∧ r ≤ c ∧ 1 ≤ n ∧ 40 < n) := by
  have : ¬ (0 ≤ c ∧ c ≤ 1000000000000 ∧ 0 ≤ r ∧ r ≤ c ∧ 1 ≤ n ∧ n ≤ 40) := by rw [← okA_iff, h]; simp
  omega
set_option maxHeartbeats 1000000 in
theorem lcheck_any (c r n : Int) (w : World) :
    Calls Try.prog 81 #[.int .i64 c, .int .i64 r, .int .i64 n] w fun e w' => e = .returned (.int .i64 (erA c r n)) ∧ w = w' := by
  cases h : okA c r n
  · rw [erA_no h]
    have h' := okA_no h
    clear h
    rcases h' with h | ⟨h1, h2⟩ | ⟨h1, h2, h3⟩ | ⟨h1, h2, h3, h4⟩ | ⟨h1, h2, h3, h4, h5⟩ | ⟨h1, h2, h3, h4, h5, h6⟩
    all_goals
      go_enter Try.func81, Try.ntmps81
      go_wp2
      go_ret
      exact ⟨rfl, rfl⟩
  · rw [erA_yes h]
    obtain ⟨h1, h2, h3, h4, h5, h6⟩ := (okA_iff c r n).1 h
    clear h
    go_enter Try.func81, Try.ntmps81
    go_wp2
    go_ret
    exact ⟨rfl, rfl⟩
set_option maxHeartbeats 1000000 in
theorem lnear_any (x d : Int) (w : World) (x0 : 0 ≤ x) (x1 : x ≤ 1000000000000000) (d1 : 1 ≤ d) (d2 : d ≤ 1000000) :
    Calls Try.prog 84 #[.int .i64 x, .int .i64 d] w fun e w' => e = .returned (.int .i64 (rnd x d 2)) ∧ Kept w w' := by
  have dz : (d == 0) = false := by rw [beq_eq_false_iff_ne]; omega
  obtain ⟨r0, r1⟩ := emod_bd x d (by omega)
  have q0 : 0 ≤ x / d := Int.ediv_nonneg x0 (by omega)
  have q1 := (div_bd x d 1000000000000000 d1 (by omega) x1).2
  have O := Lib.hid ((ok_iff (x % d) d).2 ⟨by omega, by omega, d1, d2⟩)
  have E := Lib.hid (rnd_split x d d1 x0)
  have rb : 0 ≤ rnd (x % d) d 2 ∧ rnd (x % d) d 2 ≤ 1 := by
    have := rnd_bd (x % d) d 2
    rw [Int.ediv_eq_zero_of_lt r0 r1] at this
    omega
  go_enter Try.func84, Try.ntmps84
  go_wp2_with fail
  refine (round_yes _ _ _ _ O.out (by omega) (by omega)).mono ?_
  rintro e w1 ⟨rfl, hK⟩
  generalize rnd (x % d) d 2 = u at *
  go_wp2
  go_ret
  exact ⟨ret_int E.out, hK⟩
set_option maxHeartbeats 1000000 in
theorem lsum_any (n : Nat) (w : World) (h : n ≤ 40) :
    Calls Try.prog 85 #[.int .i64 (n : Int)] w fun e w' => e = .returned (.int .i64 (dgA n)) ∧ w = w' := by
  have E := Lib.hid (dgA_div n)
  have t := dgA_two n
  have b := dgA_bd h
  have p0 : 0 ≤ (n : Int) * ((n : Int) + 1) := by omega
  have p1 : (n : Int) * ((n : Int) + 1) ≤ 1640 := by omega
  clear t b
  go_enter Try.func85, Try.ntmps85
  go_wp2
  go_ret
  exact ⟨ret_int E.out, rfl⟩

/-- The boxes that the closures have captured. -/
structure BoxL (w : World) (pc pr pn : Nat) (c r : Int) (n : Nat) : Prop where
  c : SlBox w pc (.int .i64 c)
  r : SlBox w pr (.int .i64 r)
  n : SlBox w pn (.int .i64 n)
theorem BoxL.later {w w' : World} {pc pr pn n : Nat} {c r : Int} (h : BoxL w pc pr pn c r n) (k : Kept w w') : BoxL w' pc pr pn c r n := ⟨h.c.later k, h.r.later k, h.n.later k⟩
theorem ak_bd (a : Int) (k : Nat) (a0 : 0 ≤ a) (a1 : a ≤ 1000000000000) (hk : k ≤ 40) : 0 ≤ a * (k : Int) ∧ a * (k : Int) ≤ 40000000000000 := by
  refine ⟨Int.mul_nonneg a0 (by omega), ?_⟩
  have : a * (k : Int) ≤ 1000000000000 * 40 := Int.mul_le_mul a1 (by omega) (by omega) (by omega)
  omega
theorem ad_bd (a d : Int) (a0 : 0 ≤ a) (a1 : a ≤ 1000000000000) (d0 : 0 ≤ d) (d1 : d ≤ 820) : 0 ≤ a * d ∧ a * d ≤ 820000000000000 := by
  refine ⟨Int.mul_nonneg a0 d0, ?_⟩
  have : a * d ≤ 1000000000000 * 820 := Int.mul_le_mul a1 d1 d0 (by omega)
  omega
set_option maxRecDepth 100000 in
set_option maxHeartbeats 1000000 in
theorem stclo_any (pc pr pn n k : Nat) (c r : Int) (w : World) (n1 : 1 ≤ n) (n40 : n ≤ 40) (kn : k ≤ n) (h0 : 0 ≤ r) (h1 : r ≤ c) (h2 : c ≤ 1000000000000) (hB : BoxL w pc pr pn c r n) :
    Calls Try.prog 83 #[.int .i64 (k : Int), .pointer (some ⟨pc, 0, none⟩), .pointer (some ⟨pr, 0, none⟩), .pointer (some ⟨pn, 0, none⟩)] w fun e w' => e = .returned (.int .i64 (stC (c - r) n k)) ∧ Kept w w' := by
  have c1 := hB.c.cell
  have c2 := hB.r.cell
  have c3 := hB.n.cell
  have m := ak_bd (c - r) k (by omega) (by omega) (by omega)
  clear hB
  go_enter Try.func83, Try.ntmps83
  go_wp2_with fail
  refine (lnear_any _ _ _ (by omega) (by omega) (by omega) (by omega)).mono ?_
  rintro e w1 ⟨rfl, hK⟩
  go_wp2
  go_ret
  exact ⟨rfl, hK⟩
set_option maxRecDepth 100000 in
set_option maxHeartbeats 1000000 in
theorem dgclo_any (pa pc pr pn n k : Nat) (c r : Int) (w : World) (n1 : 1 ≤ n) (n40 : n ≤ 40) (kn : k ≤ n) (h0 : 0 ≤ r) (h1 : r ≤ c) (h2 : c ≤ 1000000000000) (hA : SlBox w pa (.int .i64 (dgA n))) (hB : BoxL w pc pr pn c r n) :
    Calls Try.prog 86 #[.int .i64 (k : Int), .pointer (some ⟨pa, 0, none⟩), .pointer (some ⟨pn, 0, none⟩), .pointer (some ⟨pc, 0, none⟩), .pointer (some ⟨pr, 0, none⟩)] w fun e w' => e = .returned (.int .i64 (dgC (c - r) n k)) ∧ Kept w w' := by
  have L := Lib.hid (fun (w : World) => show Calls Try.prog 85 #[.int .i64 ((n : Int) - (k : Int))] w (fun e w' => e = .returned (.int .i64 (dgA (n - k))) ∧ w = w') from by
    have := lsum_any (n - k) w (by omega)
    rw [show ((n - k : Nat) : Int) = (n : Int) - (k : Int) by omega] at this
    exact this)
  have E := Lib.hid (show rnd ((c - r) * (dgA n - dgA (n - k))) (dgA n) 2 = dgC (c - r) n k from rfl)
  have b1 := dgA_bd n40
  have b2 := dgA_bd (show n - k ≤ 40 by omega)
  have b3 := dgA_pos n1
  have b4 := dgK_bd n k
  have m := ad_bd (c - r) (dgK n k) (by omega) (by omega) b4.1 (by omega)
  unfold dgK at m b4
  have c0 := hA.cell
  have c1 := hB.c.cell
  have c2 := hB.r.cell
  have c3 := hB.n.cell
  clear hA hB
  generalize dgC (c - r) n k = R at *
  generalize dgA (n - k) = y at *
  generalize dgA n = x at *
  go_enter Try.func86, Try.ntmps86
  go_wp2_with fail
  go_quiet (first | (go_at_call 85; exact quiet_same (L.out _)))
  go_wp2_with fail
  refine (lnear_any _ _ _ (by omega) (by omega) (by omega) (by omega)).mono ?_
  rintro e w1 ⟨rfl, hK⟩
  go_wp2
  go_ret
  exact ⟨ret_int E.out, ((Kept.refl w).drewN _).trans hK⟩

/-- A new row. -/
def RowPost (w : World) (n : Nat) (g : Nat → Int) (e : Ending) (w' : World) : Prop :=
  ∃ p : Nat, w.heap.size ≤ p ∧ e = .returned (.slice (some ⟨p, 0, none⟩) n n) ∧ Own w' p (tab n g) ∧ Kept w w'

set_option maxRecDepth 100000 in
set_option maxHeartbeats 2000000 in
theorem periods_st (pc pr pn n : Nat) (c r : Int) (w : World) (n1 : 1 ≤ n) (n40 : n ≤ 40) (h0 : 0 ≤ r) (h1 : r ≤ c) (h2 : c ≤ 1000000000000) (hB : BoxL w pc pr pn c r n) :
    Calls Try.prog 82 #[.int .i64 (n : Int), .func (.func 83) #[] #[.pointer (some ⟨pc, 0, none⟩), .pointer (some ⟨pr, 0, none⟩), .pointer (some ⟨pn, 0, none⟩)]] w (RowPost w n (dif (stC (c - r) n))) := by
  have CL := Lib.hid (fun (k : Nat) (w1 : World) (kn : k ≤ n) (hK : Kept w w1) => stclo_any pc pr pn n k c r w1 n1 n40 kn h0 h1 h2 (hB.later hK))
  have BD := Lib.hid (fun (k : Nat) (kn : k ≤ n) => stC_bd (c - r) n k n1 (show 0 ≤ c - r by omega) kn)
  have Z := Lib.hid (stC_zero (c - r) n n1)
  have mk := make_ints n (by omega)
  have a1 : c - r ≤ 1000000000000 := by omega
  clear hB h0 h1 h2
  generalize c - r = a at *
  go_enter Try.func82, Try.ntmps82
  go_wp2
  have hO := Own.made (w := w) (n := n) (t := 3) rfl
  have hK := (Kept.refl w).alloc (.cells (zs n) 3)
  rw [tab_zero] at hO
  generalize hp : w.heap.size = p at *
  have hpl : w.heap.size ≤ p := by omega
  have HP := Lib.hid hp
  clear hp mk
  generalize w.alloc (.cells (zs n) 3) = w1 at *
  go_loopw [6, 13] (fun b i wr => ∃ k : Nat, k ≤ n ∧ i = .int .i64 k ∧ b = .int .i64 (stC a n k) ∧ Own wr p (tab n (mix (dif (stC a n)) (fun _ => 0) k)) ∧ Kept w wr) (fun _ i _ => (n - intOf i).toNat)
  case atStart => exact ⟨0, by omega, rfl, by rw [Z.out], by rw [mix_zero]; exact hO, hK⟩
  case round =>
    obtain ⟨k, hk, rfl, rfl, hOr, hKr⟩ := hrel
    by_cases hlt : k < n
    · have b1 := BD.out k hk
      have b2 := BD.out (k + 1) hlt
      have D := Lib.hid (show dif (stC a n) k = stC a n (k + 1) - stC a n k from rfl)
      clear hO hK
      go_wp2_with fail
      refine (CL.out (k + 1) _ hlt hKr).mono ?_
      rintro e w2 ⟨rfl, hK2⟩
      have hO2 := hOr.later hK2
      have hK3 := hKr.trans hK2
      clear hOr hKr hK2
      have hc := hO2.cell k (by rw [tab_len]; exact hlt)
      have hf := hO2.free k (by rw [tab_len]; exact hlt)
      rw [tab_get, mix_at] at hc
      go_wp2
      go_roundw
      case rel =>
        refine ⟨k + 1, by omega, by go_num, rfl, ?_, hK3.setAt hpl _⟩
        have := hO2.set k (dif (stC a n) k) (by rw [tab_len]; exact hlt)
        rw [tab_set, mix_set (dif (stC a n)) _ k] at this
        rw [D.out] at this
        exact this
      case measure => simp [intOf]; omega
    · obtain rfl : k = n := by omega
      clear hlt
      rw [mix_end] at hOr
      go_wp2
      go_ret
      exact ⟨p, hpl, rfl, hOr, hKr⟩

set_option maxRecDepth 100000 in
set_option maxHeartbeats 2000000 in
theorem periods_dg (pa pc pr pn n : Nat) (c r : Int) (w : World) (n1 : 1 ≤ n) (n40 : n ≤ 40) (h0 : 0 ≤ r) (h1 : r ≤ c) (h2 : c ≤ 1000000000000) (hA : SlBox w pa (.int .i64 (dgA n))) (hB : BoxL w pc pr pn c r n) :
    Calls Try.prog 82 #[.int .i64 (n : Int), .func (.func 86) #[] #[.pointer (some ⟨pa, 0, none⟩), .pointer (some ⟨pn, 0, none⟩), .pointer (some ⟨pc, 0, none⟩), .pointer (some ⟨pr, 0, none⟩)]] w (RowPost w n (dif (dgC (c - r) n))) := by
  have CL := Lib.hid (fun (k : Nat) (w1 : World) (kn : k ≤ n) (hK : Kept w w1) => dgclo_any pa pc pr pn n k c r w1 n1 n40 kn h0 h1 h2 (hA.later hK) (hB.later hK))
  have BD := Lib.hid (fun (k : Nat) (kn : k ≤ n) => dgC_bd (c - r) n k n1 (show 0 ≤ c - r by omega) kn)
  have Z := Lib.hid (dgC_zero (c - r) n n1)
  have mk := make_ints n (by omega)
  have a1 : c - r ≤ 1000000000000 := by omega
  clear hA hB h0 h1 h2
  generalize c - r = a at *
  go_enter Try.func82, Try.ntmps82
  go_wp2
  have hO := Own.made (w := w) (n := n) (t := 3) rfl
  have hK := (Kept.refl w).alloc (.cells (zs n) 3)
  rw [tab_zero] at hO
  generalize hp : w.heap.size = p at *
  have hpl : w.heap.size ≤ p := by omega
  have HP := Lib.hid hp
  clear hp mk
  generalize w.alloc (.cells (zs n) 3) = w1 at *
  go_loopw [6, 13] (fun b i wr => ∃ k : Nat, k ≤ n ∧ i = .int .i64 k ∧ b = .int .i64 (dgC a n k) ∧ Own wr p (tab n (mix (dif (dgC a n)) (fun _ => 0) k)) ∧ Kept w wr) (fun _ i _ => (n - intOf i).toNat)
  case atStart => exact ⟨0, by omega, rfl, by rw [Z.out], by rw [mix_zero]; exact hO, hK⟩
  case round =>
    obtain ⟨k, hk, rfl, rfl, hOr, hKr⟩ := hrel
    by_cases hlt : k < n
    · have b1 := BD.out k hk
      have b2 := BD.out (k + 1) hlt
      have D := Lib.hid (show dif (dgC a n) k = dgC a n (k + 1) - dgC a n k from rfl)
      clear hO hK
      go_wp2_with fail
      refine (CL.out (k + 1) _ hlt hKr).mono ?_
      rintro e w2 ⟨rfl, hK2⟩
      have hO2 := hOr.later hK2
      have hK3 := hKr.trans hK2
      clear hOr hKr hK2
      have hc := hO2.cell k (by rw [tab_len]; exact hlt)
      have hf := hO2.free k (by rw [tab_len]; exact hlt)
      rw [tab_get, mix_at] at hc
      go_wp2
      go_roundw
      case rel =>
        refine ⟨k + 1, by omega, by go_num, rfl, ?_, hK3.setAt hpl _⟩
        have := hO2.set k (dif (dgC a n) k) (by rw [tab_len]; exact hlt)
        rw [tab_set, mix_set (dif (dgC a n)) _ k] at this
        rw [D.out] at this
        exact this
      case measure => simp [intOf]; omega
    · obtain rfl : k = n := by omega
      clear hlt
      rw [mix_end] at hOr
      go_wp2
      go_ret
      exact ⟨p, hpl, rfl, hOr, hKr⟩
/-- A new row, and no error. -/
def PairPost (w : World) (n : Nat) (g : Nat → Int) (e : Ending) (w' : World) : Prop :=
  ∃ p : Nat, w.heap.size ≤ p ∧ e = .returned (.tuple #[.slice (some ⟨p, 0, none⟩) n n, .int .i64 0]) ∧ Own w' p (tab n g) ∧ Kept w w'
/-- No row, and an error. -/
def NonePost (w : World) (er : Int) (e : Ending) (w' : World) : Prop := e = .returned (.tuple #[.slice none 0 0, .int .i64 er]) ∧ Kept w w'
theorem three_boxes (w : World) (c r : Int) (n : Nat) :
    BoxL (((w.alloc (.cells #[.int .i64 c] 3)).alloc (.cells #[.int .i64 r] 3)).alloc (.cells #[.int .i64 (n : Int)] 3)) w.heap.size (w.heap.size + 1) (w.heap.size + 2) c r n :=
  ⟨(SlBox.new rfl).later (((Kept.refl _).alloc _).alloc _), (SlBox.new (by simp)).later ((Kept.refl _).alloc _), SlBox.new (by simp)⟩
set_option maxRecDepth 100000 in
set_option maxHeartbeats 1000000 in
theorem straight_yes (c r : Int) (n : Nat) (w : World) (h : okA c r n = true) :
    Calls Try.prog 38 #[.int .i64 c, .int .i64 r, .int .i64 (n : Int)] w (PairPost w n (dif (stC (c - r) n))) := by
  have H := Lib.hid (erA_yes h)
  obtain ⟨h1, h2, h3, h4, h5, h6⟩ := (okA_iff c r n).1 h
  have B := three_boxes w c r n
  have hK0 := (((Kept.refl w).alloc (.cells #[.int .i64 c] 3)).alloc (.cells #[.int .i64 r] 3)).alloc (.cells #[.int .i64 (n : Int)] 3)
  clear h
  go_enter Try.func38, Try.ntmps38
  go_wp2_with fail
  refine (lcheck_any _ _ _ _).mono ?_
  rintro e w1 ⟨rfl, rfl⟩
  rw [H.out]
  go_wp2_with fail
  refine (periods_st _ _ _ n c r _ (by omega) (by omega) h3 h4 h2 B).mono ?_
  rintro e w1 ⟨p, hp, rfl, hO, hK⟩
  have hK1 := hK0.trans hK
  have hp' : w.heap.size ≤ p := by have := hK0.le; omega
  clear hK hK0 B hp
  go_wp2
  go_ret2
  exact ⟨p, hp', rfl, hO, hK1⟩
set_option maxHeartbeats 1000000 in
theorem straight_no (c r n : Int) (w : World) (h : okA c r n = false) :
    Calls Try.prog 38 #[.int .i64 c, .int .i64 r, .int .i64 n] w (NonePost w 1) := by
  have H := Lib.hid (erA_no h)
  have hK0 := (((Kept.refl w).alloc (.cells #[.int .i64 c] 3)).alloc (.cells #[.int .i64 r] 3)).alloc (.cells #[.int .i64 n] 3)
  clear h
  go_enter Try.func38, Try.ntmps38
  go_wp2_with fail
  refine (lcheck_any _ _ _ _).mono ?_
  rintro e w1 ⟨rfl, rfl⟩
  rw [H.out]
  go_wp2
  go_ret2
  exact ⟨rfl, hK0⟩
set_option maxRecDepth 100000 in
set_option maxHeartbeats 1000000 in
theorem digits_yes (c r : Int) (n : Nat) (w : World) (h : okA c r n = true) :
    Calls Try.prog 39 #[.int .i64 c, .int .i64 r, .int .i64 (n : Int)] w (PairPost w n (dif (dgC (c - r) n))) := by
  have H := Lib.hid (erA_yes h)
  obtain ⟨h1, h2, h3, h4, h5, h6⟩ := (okA_iff c r n).1 h
  have B := three_boxes w c r n
  have hK0 := (((Kept.refl w).alloc (.cells #[.int .i64 c] 3)).alloc (.cells #[.int .i64 r] 3)).alloc (.cells #[.int .i64 (n : Int)] 3)
  clear h
  go_enter Try.func39, Try.ntmps39
  go_wp2_with fail
  refine (lcheck_any _ _ _ _).mono ?_
  rintro e w1 ⟨rfl, rfl⟩
  rw [H.out]
  go_wp2_with fail
  refine (lsum_any _ _ (by omega)).mono ?_
  rintro e w1 ⟨rfl, rfl⟩
  have B2 := B.later ((Kept.refl _).alloc (.cells #[.int .i64 (dgA n)] 3))
  have hK1 := hK0.alloc (.cells #[.int .i64 (dgA n)] 3)
  have A2 : SlBox ((((w.alloc (.cells #[.int .i64 c] 3)).alloc (.cells #[.int .i64 r] 3)).alloc (.cells #[.int .i64 (n : Int)] 3)).alloc (.cells #[.int .i64 (dgA n)] 3)) (w.heap.size + 3) (.int .i64 (dgA n)) := SlBox.new (by simp)
  go_wp2_with fail
  refine (periods_dg _ _ _ _ n c r _ (by omega) (by omega) h3 h4 h2 A2 B2).mono ?_
  rintro e w1 ⟨p, hp, rfl, hO, hK⟩
  have hK2 := hK1.trans hK
  have hp' : w.heap.size ≤ p := by have := hK1.le; omega
  clear hK hK0 hK1 B B2 A2 hp
  go_wp2
  go_ret2
  exact ⟨p, hp', rfl, hO, hK2⟩
set_option maxHeartbeats 1000000 in
theorem digits_no (c r n : Int) (w : World) (h : okA c r n = false) :
    Calls Try.prog 39 #[.int .i64 c, .int .i64 r, .int .i64 n] w (NonePost w 1) := by
  have H := Lib.hid (erA_no h)
  have hK0 := (((Kept.refl w).alloc (.cells #[.int .i64 c] 3)).alloc (.cells #[.int .i64 r] 3)).alloc (.cells #[.int .i64 n] 3)
  clear h
  go_enter Try.func39, Try.ntmps39
  go_wp2_with fail
  refine (lcheck_any _ _ _ _).mono ?_
  rintro e w1 ⟨rfl, rfl⟩
  rw [H.out]
  go_wp2
  go_ret2
  exact ⟨rfl, hK0⟩

end Go.Proofs.Ytklbikifcebckaa
