/-
  What package fall returns: badUnits, produced, Units; slices.ContainsFunc of badUnits. No condition but those that each theorem names.
-/
import Derived.Test.YtklbikifcebckaaNWalkA
namespace Go.Proofs.Ytklbikifcebckaa
open Go.RowKit

/-- Numbers that may be. -/
def WtOk (wt : Nat → Int) (n : Nat) : Prop := ∀ i, i < n → 0 ≤ wt i ∧ wt i ≤ 1000000
/-- A weight that may not be. -/
def badB (v : Int) : Bool := decide (v < 0 ∨ 1000000 < v)
theorem badB_ok {v : Int} (h : 0 ≤ v ∧ v ≤ 1000000) : badB v = false := by unfold badB; simp; omega
theorem badB_iff {v : Int} (h : badB v = false) : 0 ≤ v ∧ v ≤ 1000000 := by unfold badB at h; simp at h; omega
theorem WtOk.succ {wt : Nat → Int} {j : Nat} (h : WtOk wt j) (hb : badB (wt j) = false) : WtOk wt (j + 1) := by
  intro i hi
  by_cases c : i < j
  · exact h i c
  · obtain rfl : i = j := by omega
    exact badB_iff hb
/-- All weights may be. -/
def okWts (wt : Nat → Int) (n : Nat) : Bool := (List.range n).all fun i => !badB (wt i)
theorem okWts_iff (wt : Nat → Int) (n : Nat) : okWts wt n = true ↔ WtOk wt n := by
  unfold okWts WtOk
  rw [List.all_eq_true]
  constructor
  · intro h i hi
    have := h i (by simpa using hi)
    exact badB_iff (by simpa using this)
  · intro h i hi
    rw [badB_ok (h i (by simpa using hi))]; rfl
def SomeAt (w : World) (e : Ending) (w' : World) : Prop := ∃ r : Nat, e = .returned (.int .i64 (r : Int)) ∧ w = w'

set_option maxHeartbeats 400000 in
theorem badWeight_any (v : Int) (w : World) :
    Calls Try.prog 90 #[.int .i64 v] w fun e w' => e = .returned (.bool (badB v)) ∧ w = w' := by
  have E := Lib.hid (show badB v = decide (v < 0 ∨ 1000000 < v) from rfl)
  generalize badB v = B at *
  by_cases h : v < 0
  · go_enter Try.func90, Try.ntmps90
    go_wp2
    go_ret
    exact ⟨ret_bool (by rw [E.out]; simp [h]), rfl⟩
  · have hb : decide (v < 0) = false := by simpa using h
    have H := Lib.hid h
    clear h
    go_enter Try.func90, Try.ntmps90
    go_wp2
    go_ret
    exact ⟨ret_bool (by rw [E.out]; have := H.out; simp; omega), rfl⟩

set_option maxHeartbeats 1000000 in
theorem index_bad_ok (a : Option Addr) (n cap : Nat) (wt : Nat → Int) (w : World) (hn : n ≤ 1000) (hA : Arg w a n wt) (hw : WtOk wt n) :
    Calls Try.prog 123 #[.slice a n cap, .func (.func 90) #[] #[]] w fun e w' => e = .returned (.int .i64 (-1)) ∧ w = w' := by
  have HA := Lib.hid hA
  have HW := Lib.hid hw
  clear hA hw
  go_enter Try.func123, Try.ntmps123
  go_wp2
  go_loop [8] (fun i => ∃ j : Nat, j ≤ n ∧ i = .int .i64 j) (fun i => (n - intOf i).toNat)
  case atStart => exact ⟨0, by omega, rfl⟩
  case round =>
    obtain ⟨j, hj, rfl⟩ := hrel
    by_cases hlt : j < n
    · obtain ⟨p, off, rfl, hR⟩ := HA.out.at (by omega)
      have hc := hR.cell j (by rw [tab_len]; exact hlt)
      rw [tab_get] at hc
      have HB := Lib.hid (badB_ok (HW.out j hlt))
      clear hR
      go_wp2_with fail
      refine (badWeight_any _ _).mono ?_
      rintro e w1 ⟨rfl, rfl⟩
      rw [HB.out]
      go_wp2
      go_round
      case rel => exact ⟨j + 1, by omega, by go_num⟩
      case measure => simp [intOf]; omega
    · obtain rfl : j = n := by omega
      clear hlt
      go_wp2
      go_ret
      exact ⟨rfl, rfl⟩
set_option maxHeartbeats 1000000 in
theorem index_bad_bad (a : Option Addr) (n cap : Nat) (wt : Nat → Int) (w : World) (hn : n ≤ 1000) (hA : Arg w a n wt) (hw : ¬ WtOk wt n) :
    Calls Try.prog 123 #[.slice a n cap, .func (.func 90) #[] #[]] w (SomeAt w) := by
  have HA := Lib.hid hA
  have HW := Lib.hid hw
  clear hA hw
  go_enter Try.func123, Try.ntmps123
  go_wp2
  go_loop [8] (fun i => ∃ j : Nat, j ≤ n ∧ i = .int .i64 j ∧ WtOk wt j) (fun i => (n - intOf i).toNat)
  case atStart => exact ⟨0, by omega, rfl, fun i hi => by omega⟩
  case round =>
    obtain ⟨j, hj, rfl, hok⟩ := hrel
    have HK := Lib.hid hok
    clear hok
    by_cases hlt : j < n
    · obtain ⟨p, off, rfl, hR⟩ := HA.out.at (by omega)
      have hc := hR.cell j (by rw [tab_len]; exact hlt)
      rw [tab_get] at hc
      clear hR
      cases hb : badB (wt j)
      · have HB := Lib.hid hb
        have HS := Lib.hid (WtOk.succ HK.out hb)
        clear hb
        go_wp2_with fail
        refine (badWeight_any _ _).mono ?_
        rintro e w1 ⟨rfl, rfl⟩
        rw [HB.out]
        go_wp2
        go_round
        case rel => exact ⟨j + 1, by omega, by go_num, HS.out⟩
        case measure => simp [intOf]; omega
      · have HB := Lib.hid hb
        clear hb
        go_wp2_with fail
        refine (badWeight_any _ _).mono ?_
        rintro e w1 ⟨rfl, rfl⟩
        rw [HB.out]
        go_wp2
        go_ret
        exact ⟨j, rfl, rfl⟩
    · obtain rfl : j = n := by omega
      exact absurd HK.out HW.out
set_option maxHeartbeats 1000000 in
theorem contains_bad (a : Option Addr) (n cap : Nat) (wt : Nat → Int) (w : World) (hn : n ≤ 1000) (hA : Arg w a n wt) :
    Calls Try.prog 75 #[.slice a n cap, .func (.func 90) #[] #[]] w fun e w' => e = .returned (.bool (!okWts wt n)) ∧ w = w' := by
  have HA := Lib.hid hA
  clear hA
  cases ho : okWts wt n
  · have HO := Lib.hid ((not_congr (okWts_iff wt n)).1 (by rw [ho]; simp))
    clear ho
    go_enter Try.func75, Try.ntmps75
    go_wp2_with fail
    refine (index_bad_bad _ n _ wt _ hn HA.out HO.out).mono ?_
    rintro e w1 ⟨r, rfl, rfl⟩
    go_wp2
    go_ret
    exact ⟨ret_bool (by simp), rfl⟩
  · have HO := Lib.hid ((okWts_iff wt n).1 ho)
    clear ho
    go_enter Try.func75, Try.ntmps75
    go_wp2_with fail
    refine (index_bad_ok _ n _ wt _ hn HA.out HO.out).mono ?_
    rintro e w1 ⟨rfl, rfl⟩
    go_wp2
    go_ret
    exact ⟨ret_bool (by simp), rfl⟩

theorem as_bd (a s : Int) (a0 : 0 ≤ a) (a1 : a ≤ 1000000000000) (s0 : 0 ≤ s) (s1 : s ≤ 1000000) : 0 ≤ a * s ∧ a * s ≤ 1000000000000000000 := by
  refine ⟨Int.mul_nonneg a0 s0, ?_⟩
  have : a * s ≤ 1000000000000 * 1000000 := Int.mul_le_mul a1 s1 s0 (by omega)
  omega
set_option maxRecDepth 100000 in
set_option maxHeartbeats 2000000 in
theorem produced_any (am total : Int) (a : Option Addr) (n cap : Nat) (g : Nat → Int) (w : World) (a0 : 0 ≤ am) (a1 : am ≤ 1000000000000) (t1 : 1 ≤ total) (t2 : total ≤ 1000000) (n40 : n ≤ 40) (hA : Arg w a n g) (hg : WtOk g n) :
    Calls Try.prog 91 #[.int .i64 am, .int .i64 total, .slice a n cap] w (RowPost w n (dif (unC am total g))) := by
  have HG := Lib.hid hg
  have BS := Lib.hid (fun (k : Nat) (kn : k ≤ n) => unS_bd total g k t1 (fun j hj => (hg j (by omega)).1))
  have BC := Lib.hid (fun (k : Nat) (kn : k ≤ n) => unC_bd am total g k t1 a0 (fun j hj => (hg j (by omega)).1))
  have Z := Lib.hid (unC_zero am total g t1)
  have ZS := Lib.hid (show unS total g 0 = 0 by unfold unS; rw [sumTo]; omega)
  have HA := Lib.hid hA
  have mk := make_ints n (by omega)
  have tz : (total == 0) = false := by rw [beq_eq_false_iff_ne]; omega
  clear hg hA
  go_enter Try.func91, Try.ntmps91
  go_wp2
  have hO := Own.made (w := w) (n := n) (t := 3) rfl
  have hK := (Kept.refl w).alloc (.cells (zs n) 3)
  rw [tab_zero] at hO
  generalize hp : w.heap.size = p at *
  have hpl : w.heap.size ≤ p := by omega
  have HP := Lib.hid hp
  clear hp mk
  generalize w.alloc (.cells (zs n) 3) = w1 at *
  go_loopw [8, 9, 18] (fun s b i wr => ∃ k : Nat, k ≤ n ∧ i = .int .i64 k ∧ s = .int .i64 (unS total g k) ∧ b = .int .i64 (unC am total g k) ∧ Own wr p (tab n (mix (dif (unC am total g)) (fun _ => 0) k)) ∧ Kept w wr) (fun _ _ i _ => (n - intOf i).toNat)
  case atStart => exact ⟨0, by omega, rfl, by rw [ZS.out], by rw [Z.out], by rw [mix_zero]; exact hO, hK⟩
  case round =>
    obtain ⟨k, hk, rfl, rfl, rfl, hOr, hKr⟩ := hrel
    clear hO hK
    by_cases hlt : k < n
    · obtain ⟨q, off, rfl, hR⟩ := HA.out.at (by omega)
      have hd := (hR.later hKr).cell k (by rw [tab_len]; exact hlt)
      rw [tab_get] at hd
      have hc := hOr.cell k (by rw [tab_len]; exact hlt)
      have hf := hOr.free k (by rw [tab_len]; exact hlt)
      rw [tab_get, mix_at] at hc
      have gb := HG.out k hlt
      have s1 := BS.out k hk
      have s2 := BS.out (k + 1) hlt
      have c1 := BC.out k hk
      have c2 := BC.out (k + 1) hlt
      have US := unS_succ total g k gb.1
      have CE := Lib.hid (show unC am total g (k + 1) = am * unS total g (k + 1) / total from rfl)
      have ST := Lib.hid (show Own (wr.setCell ⟨p, k, none⟩ (.int .i64 (unC am total g (k + 1) - unC am total g k))) p (tab n (mix (dif (unC am total g)) (fun _ => 0) (k + 1))) by
        have := hOr.set k (dif (unC am total g) k) (by rw [tab_len]; exact hlt)
        rw [tab_set, mix_set (dif (unC am total g)) _ k] at this
        exact this)
      have KT := Lib.hid (hKr.setAt (i := k) hpl (.int .i64 (unC am total g (k + 1) - unC am total g k)))
      have ab := as_bd am (unS total g (k + 1)) a0 a1 s2.1 (by omega)
      have MB := Lib.hid (show unC am total g (k + 1) = unC am total g (k + 1) from rfl)
      rw [CE.out] at c2 ST KT
      clear MB hR
      generalize hx : unS total g k = x at *
      generalize hy : unS total g (k + 1) = y at *
      generalize hz : unC am total g k = z at *
      generalize g k = t at *
      have HY := Lib.hid hy
      clear hx hz hy
      rcases (show (total < x + t ∧ y = total) ∨ (x + t ≤ total ∧ y = x + t) by omega) with ⟨q1, q2⟩ | ⟨q1, q2⟩
      · subst q2
        clear US
        have mn : min (x + t) y = y := by omega
        go_wp2
        go_roundw
        case rel => exact ⟨k + 1, by omega, by go_num, by rw [HY.out], by rw [CE.out], ST.out, KT.out⟩
        case measure => simp [intOf]; omega
      · subst q2
        clear US
        have mn : min (x + t) total = x + t := by omega
        go_wp2
        go_roundw
        case rel => exact ⟨k + 1, by omega, by go_num, by rw [HY.out], by rw [CE.out], ST.out, KT.out⟩
        case measure => simp [intOf]; omega
    · obtain rfl : k = n := by omega
      clear hlt
      rw [mix_end] at hOr
      go_wp2
      go_ret
      exact ⟨p, hpl, rfl, hOr, hKr⟩

/-- The error of Units. -/
def unE (c r total : Int) (n : Nat) (g : Nat → Int) : Int :=
  if okA c r 1 = true then (if total < 1 ∨ 1000000 < total then 1 else if 40 < n then 2 else if okWts g n = true then 0 else 1) else 1
/-- What is known where there is no error. -/
structure UnOk (c r total : Int) (n : Nat) (g : Nat → Int) : Prop where
  c0 : 0 ≤ c
  c1 : c ≤ 1000000000000
  r0 : 0 ≤ r
  rc : r ≤ c
  t1 : 1 ≤ total
  t2 : total ≤ 1000000
  n40 : n ≤ 40
  g : WtOk g n
theorem unE_ok {c r total : Int} {n : Nat} {g : Nat → Int} (h : UnOk c r total n g) : unE c r total n g = 0 := by
  unfold unE
  rw [if_pos ((okA_iff c r 1).2 ⟨h.c0, h.c1, h.r0, h.rc, by omega, by omega⟩), if_neg (by have := h.t1; have := h.t2; omega), if_neg (by have := h.n40; omega), if_pos ((okWts_iff g n).2 h.g)]
theorem unE_iff {c r total : Int} {n : Nat} {g : Nat → Int} (h : unE c r total n g = 0) : UnOk c r total n g := by
  unfold unE at h
  by_cases a : okA c r 1 = true
  · rw [if_pos a] at h
    by_cases b : total < 1 ∨ 1000000 < total
    · rw [if_pos b] at h; omega
    · rw [if_neg b] at h
      by_cases d : 40 < n
      · rw [if_pos d] at h; omega
      · rw [if_neg d] at h
        by_cases e : okWts g n = true
        · obtain ⟨h1, h2, h3, h4, _⟩ := (okA_iff c r 1).1 a
          exact ⟨h1, h2, h3, h4, by omega, by omega, by omega, (okWts_iff g n).1 e⟩
        · rw [if_neg e] at h; omega
  · rw [if_neg a] at h; omega
set_option maxRecDepth 100000 in
set_option maxHeartbeats 2000000 in
theorem units_yes (c r total : Int) (a : Option Addr) (n cap : Nat) (g : Nat → Int) (w : World) (h : UnOk c r total n g) (hA : Arg w a n g) :
    Calls Try.prog 41 #[.int .i64 c, .int .i64 r, .int .i64 total, .slice a n cap] w (PairPost w n (dif (unC (c - r) total g))) := by
  obtain ⟨c0, c1, r0, rc, t1, t2, n40, hg⟩ := h
  have H := Lib.hid (erA_yes ((okA_iff c r 1).2 ⟨c0, c1, r0, rc, by omega, by omega⟩))
  have HG := Lib.hid hg
  have HO := Lib.hid ((okWts_iff g n).2 hg)
  have HA := Lib.hid hA
  have n41 : decide ((40 : Int) < (n : Int)) = false := by simp; omega
  clear hg hA
  go_enter Try.func41, Try.ntmps41
  go_wp2_with fail
  refine (fcheck_any _ _ _ _).mono ?_
  rintro e w1 ⟨rfl, hK1⟩
  rw [H.out]
  go_wp2_with fail
  refine (contains_bad _ n _ g _ (by omega) (HA.out.later hK1)).mono ?_
  rintro e w2 ⟨rfl, rfl⟩
  rw [HO.out]
  go_wp2_with fail
  refine (produced_any (c - r) total _ n _ g _ (by omega) (by omega) t1 t2 n40 (HA.out.later hK1) HG.out).mono ?_
  rintro e w2 ⟨p, hp, rfl, hO, hK⟩
  have hK2 := hK1.trans hK
  have hp' : w.heap.size ≤ p := by have := hK1.le; omega
  clear hK hK1 hp
  go_wp2
  go_ret2
  exact ⟨p, hp', rfl, hO, hK2⟩
set_option maxRecDepth 100000 in
set_option maxHeartbeats 2000000 in
theorem units_no (c r total : Int) (a : Option Addr) (n cap : Nat) (g : Nat → Int) (w : World) (hn : n ≤ 4000000000000000000) (h : ¬ unE c r total n g = 0) (hA : Arg w a n g) :
    Calls Try.prog 41 #[.int .i64 c, .int .i64 r, .int .i64 total, .slice a n cap] w (NonePost w (unE c r total n g)) := by
  have E : unE c r total n g = if okA c r 1 = true then (if total < 1 ∨ 1000000 < total then 1 else if 40 < n then 2 else if okWts g n = true then 0 else 1) else 1 := rfl
  have HA := Lib.hid hA
  clear hA
  cases ho : okA c r 1
  · rw [ho, if_neg (by simp)] at E
    rw [E]
    have H := Lib.hid (erA_no ho)
    clear E h ho
    go_enter Try.func41, Try.ntmps41
    go_wp2_with fail
    refine (fcheck_any _ _ _ _).mono ?_
    rintro e w1 ⟨rfl, hK1⟩
    rw [H.out]
    go_wp2
    go_ret2
    exact ⟨rfl, hK1⟩
  · rw [ho, if_pos rfl] at E
    have H := Lib.hid (erA_yes ho)
    clear ho
    by_cases ht : total < 1 ∨ 1000000 < total
    · rw [if_pos ht] at E
      rw [E]
      clear E h
      rcases (show total < 1 ∨ (1 ≤ total ∧ 1000000 < total) by omega) with h | ⟨h1, h2⟩
      all_goals
        clear ht
        go_enter Try.func41, Try.ntmps41
        go_wp2_with fail
        refine (fcheck_any _ _ _ _).mono ?_
        rintro e w1 ⟨rfl, hK1⟩
        rw [H.out]
        go_wp2
        go_ret2
        exact ⟨rfl, hK1⟩
    · rw [if_neg ht] at E
      have t1 : 1 ≤ total := by omega
      have t2 : total ≤ 1000000 := by omega
      clear ht
      by_cases h4 : 40 < n
      · rw [if_pos h4] at E
        rw [E]
        have n41 : decide ((40 : Int) < (n : Int)) = true := by simp; omega
        clear E h
        go_enter Try.func41, Try.ntmps41
        go_wp2_with fail
        refine (fcheck_any _ _ _ _).mono ?_
        rintro e w1 ⟨rfl, hK1⟩
        rw [H.out]
        go_wp2
        go_ret2
        exact ⟨rfl, hK1⟩
      · rw [if_neg h4] at E
        have n41 : decide ((40 : Int) < (n : Int)) = false := by simp; omega
        have HO := Lib.hid (show okWts g n = false by
          cases c : okWts g n
          · rfl
          · rw [c, if_pos rfl] at E; exact absurd E h)
        rw [HO.out, if_neg (by simp)] at E
        rw [E]
        clear E h
        go_enter Try.func41, Try.ntmps41
        go_wp2_with fail
        refine (fcheck_any _ _ _ _).mono ?_
        rintro e w1 ⟨rfl, hK1⟩
        rw [H.out]
        go_wp2_with fail
        refine (contains_bad _ n _ g _ (by omega) (HA.out.later hK1)).mono ?_
        rintro e w2 ⟨rfl, rfl⟩
        rw [HO.out]
        go_wp2
        go_ret2
        exact ⟨rfl, hK1⟩

end Go.Proofs.Ytklbikifcebckaa
