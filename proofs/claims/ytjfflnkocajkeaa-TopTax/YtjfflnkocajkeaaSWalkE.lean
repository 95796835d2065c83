/-
  What slices.ContainsFunc says of the weights, their sum, and what By of package split returns. No condition but those that each theorem names.
-/
import Derived.Test.YtjfflnkocajkeaaSWalkD
namespace Go.Proofs.Ytjfflnkocajkeaa
open Go.RowKit

/-- A weight that may not be. -/
def badB (v : Int) : Bool := decide (v < 0 ∨ 1000000 < v)
theorem badB_ok {v : Int} (h : 0 ≤ v ∧ v ≤ 1000000) : badB v = false := by unfold badB; simp; omega
theorem badB_iff {v : Int} (h : badB v = false) : 0 ≤ v ∧ v ≤ 1000000 := by unfold badB at h; simp at h; omega
theorem WtOk.succ {wt : Nat → Int} {j : Nat} (h : WtOk wt j) (hb : badB (wt j) = false) : WtOk wt (j + 1) := by
  intro i hi
  by_cases c : i < j
  · exact h i c
  · obtain rfl : i = j := by omega
    exact badB_iff hb
/-- All weights may be. -/
def okWts (wt : Nat → Int) (n : Nat) : Bool := (List.range n).all fun i => !badB (wt i)
theorem okWts_iff (wt : Nat → Int) (n : Nat) : okWts wt n = true ↔ WtOk wt n := by
  unfold okWts WtOk
  rw [List.all_eq_true]
  constructor
  · intro h i hi
    have := h i (by simpa using hi)
    exact badB_iff (by simpa using this)
  · intro h i hi
    rw [badB_ok (h i (by simpa using hi))]; rfl
def SomeAt (w : World) (e : Ending) (w' : World) : Prop := ∃ r : Nat, e = .returned (.int .i64 (r : Int)) ∧ w = w'

set_option maxHeartbeats 400000 in
theorem badWeight_any (v : Int) (w : World) :
    Calls Try.prog 76 #[.int .i64 v] w fun e w' => e = .returned (.bool (badB v)) ∧ w = w' := by
  have E := Lib.hid (show badB v = decide (v < 0 ∨ 1000000 < v) from rfl)
  generalize badB v = B at *
  by_cases h : v < 0
  · go_enter Try.func76, Try.ntmps76
    go_wp2
    go_ret
    exact ⟨ret_bool (by rw [E.out]; simp [h]), rfl⟩
  · have hb : decide (v < 0) = false := by simpa using h
    have H := Lib.hid h
    clear h
    go_enter Try.func76, Try.ntmps76
    go_wp2
    go_ret
    exact ⟨ret_bool (by rw [E.out]; have := H.out; simp; omega), rfl⟩

set_option maxHeartbeats 1000000 in
theorem index_bad_ok (a : Option Addr) (n cap : Nat) (wt : Nat → Int) (w : World) (hn : n ≤ 1000) (hA : Arg w a n wt) (hw : WtOk wt n) :
    Calls Try.prog 123 #[.slice a n cap, .func (.func 76) #[] #[]] w fun e w' => e = .returned (.int .i64 (-1)) ∧ w = w' := by
  have HA := Lib.hid hA
  have HW := Lib.hid hw
  clear hA hw
  go_enter Try.func123, Try.ntmps123
  go_wp2
  go_loop [8] (fun i => ∃ j : Nat, j ≤ n ∧ i = .int .i64 j) (fun i => (n - intOf i).toNat)
  case atStart => exact ⟨0, by omega, rfl⟩
  case round =>
    obtain ⟨j, hj, rfl⟩ := hrel
    by_cases hlt : j < n
    · obtain ⟨p, off, rfl, hR⟩ := HA.out.at (by omega)
      have hc := hR.cell j (by rw [tab_len]; exact hlt)
      rw [tab_get] at hc
      have HB := Lib.hid (badB_ok (HW.out j hlt))
      clear hR
      go_wp2_with fail
      refine (badWeight_any _ _).mono ?_
      rintro e w1 ⟨rfl, rfl⟩
      rw [HB.out]
      go_wp2
      go_round
      case rel => exact ⟨j + 1, by omega, by go_num⟩
      case measure => simp [intOf]; omega
    · obtain rfl : j = n := by omega
      clear hlt
      go_wp2
      go_ret
      exact ⟨rfl, rfl⟩
set_option maxHeartbeats 1000000 in
theorem index_bad_bad (a : Option Addr) (n cap : Nat) (wt : Nat → Int) (w : World) (hn : n ≤ 1000) (hA : Arg w a n wt) (hw : ¬ WtOk wt n) :
    Calls Try.prog 123 #[.slice a n cap, .func (.func 76) #[] #[]] w (SomeAt w) := by
  have HA := Lib.hid hA
  have HW := Lib.hid hw
  clear hA hw
  go_enter Try.func123, Try.ntmps123
  go_wp2
  go_loop [8] (fun i => ∃ j : Nat, j ≤ n ∧ i = .int .i64 j ∧ WtOk wt j) (fun i => (n - intOf i).toNat)
  case atStart => exact ⟨0, by omega, rfl, fun i hi => by omega⟩
  case round =>
    obtain ⟨j, hj, rfl, hok⟩ := hrel
    have HK := Lib.hid hok
    clear hok
    by_cases hlt : j < n
    · obtain ⟨p, off, rfl, hR⟩ := HA.out.at (by omega)
      have hc := hR.cell j (by rw [tab_len]; exact hlt)
      rw [tab_get] at hc
      clear hR
      cases hb : badB (wt j)
      · have HB := Lib.hid hb
        have HS := Lib.hid (WtOk.succ HK.out hb)
        clear hb
        go_wp2_with fail
        refine (badWeight_any _ _).mono ?_
        rintro e w1 ⟨rfl, rfl⟩
        rw [HB.out]
        go_wp2
        go_round
        case rel => exact ⟨j + 1, by omega, by go_num, HS.out⟩
        case measure => simp [intOf]; omega
      · have HB := Lib.hid hb
        clear hb
        go_wp2_with fail
        refine (badWeight_any _ _).mono ?_
        rintro e w1 ⟨rfl, rfl⟩
        rw [HB.out]
        go_wp2
        go_ret
        exact ⟨j, rfl, rfl⟩
    · obtain rfl : j = n := by omega
      exact absurd HK.out HW.out
set_option maxHeartbeats 1000000 in
theorem contains_bad (a : Option Addr) (n cap : Nat) (wt : Nat → Int) (w : World) (hn : n ≤ 1000) (hA : Arg w a n wt) :
    Calls Try.prog 75 #[.slice a n cap, .func (.func 76) #[] #[]] w fun e w' => e = .returned (.bool (!okWts wt n)) ∧ w = w' := by
  have HA := Lib.hid hA
  clear hA
  cases ho : okWts wt n
  · have HO := Lib.hid ((not_congr (okWts_iff wt n)).1 (by rw [ho]; simp))
    clear ho
    go_enter Try.func75, Try.ntmps75
    go_wp2_with fail
    refine (index_bad_bad _ n _ wt _ hn HA.out HO.out).mono ?_
    rintro e w1 ⟨r, rfl, rfl⟩
    go_wp2
    go_ret
    exact ⟨ret_bool (by simp), rfl⟩
  · have HO := Lib.hid ((okWts_iff wt n).1 ho)
    clear ho
    go_enter Try.func75, Try.ntmps75
    go_wp2_with fail
    refine (index_bad_ok _ n _ wt _ hn HA.out HO.out).mono ?_
    rintro e w1 ⟨rfl, rfl⟩
    go_wp2
    go_ret
    exact ⟨ret_bool (by simp), rfl⟩

set_option maxHeartbeats 1000000 in
theorem ssum_any (a : Option Addr) (g : Nat → Int) (n cap : Nat) (w : World) (hn : n ≤ 1000) (hg : ∀ j, j < n → -2000000000000 ≤ g j ∧ g j ≤ 2000000000000) (hA : Arg w a n g) :
    Calls Try.prog 77 #[.slice a n cap] w fun e w' => e = .returned (.int .i64 (sumTo g n)) ∧ w = w' := by
  have HG := Lib.hid hg
  have HA := Lib.hid hA
  clear hg hA
  go_enter Try.func77, Try.ntmps77
  go_wp2
  go_loop [3, 8] (fun s i => ∃ k : Nat, k ≤ n ∧ i = .int .i64 k ∧ s = .int .i64 (sumTo g k)) (fun _ i => (n - intOf i).toNat)
  case atStart => exact ⟨0, by omega, rfl, rfl⟩
  case round =>
    obtain ⟨k, hk, rfl, rfl⟩ := hrel
    by_cases hlt : k < n
    · obtain ⟨p, off, rfl, hR⟩ := HA.out.at (by omega)
      have hc := hR.cell k (by rw [tab_len]; exact hlt)
      rw [tab_get] at hc
      clear hR
      have gb := HG.out k hlt
      have sb := sumTo_bd g 2000000000000 k (fun j hj => HG.out j (by omega))
      have S := Lib.hid (show sumTo g (k + 1) = sumTo g k + g k from rfl)
      go_wp2
      go_round
      case rel => exact ⟨k + 1, by omega, by go_num, by rw [S.out]⟩
      case measure => simp [intOf]; omega
    · obtain rfl : k = n := by omega
      clear hlt
      go_wp2
      go_ret
      exact ⟨rfl, rfl⟩

/-- What By returns of what may be. -/
def ByPost (w : World) (amount : Int) (n u : Nat) (r g : Nat → Int) (e : Ending) (w' : World) : Prop :=
  ∃ (pp : Nat) (d : Nat → Int), w.heap.size ≤ pp ∧ e = .returned (.tuple #[.slice (some ⟨pp, 0, none⟩) n n, .int .i64 0]) ∧ Ordered (keyOf r) n d ∧ Own w' pp (tab n fun i => sg amount (addU d g u i)) ∧ Kept w w'
/-- The error that By returns: 0 if none. -/
def byE (amount : Int) (n : Nat) (wt : Nat → Int) : Int :=
  if 40 < n then 2 else if amB amount = false ∨ okWts wt n = false then 1 else if sumTo wt n = 0 then 6 else 0

set_option maxRecDepth 100000 in
set_option maxHeartbeats 4000000 in
theorem by_no (amount : Int) (a : Option Addr) (n cap : Nat) (wt : Nat → Int) (w : World) (hn : n ≤ 4000000000000000000) (hA : Arg w a n wt) (he : byE amount n wt ≠ 0) :
    Calls Try.prog 36 #[.int .i64 amount, .slice a n cap] w fun e w' => e = .returned (.tuple #[.slice none 0 0, .int .i64 (byE amount n wt)]) ∧ w = w' := by
  by_cases c : 40 < n
  · have E := Lib.hid (show byE amount n wt = 2 by unfold byE; rw [if_pos c])
    generalize byE amount n wt = V at *
    have HA := Lib.hid hA
    clear hA he
    have c1 : (40 : Int) < (n : Int) := by omega
    go_enter Try.func36, Try.ntmps36
    go_wp2
    go_ret2
    exact ⟨by rw [E.out]; rfl, rfl⟩
  · have cb : decide (40 < n) = false := by simpa using c
    have cc : decide ((40 : Int) < (n : Int)) = false := by simp; omega
    have n40 : n ≤ 40 := by omega
    cases h1 : amB amount
    · have E := Lib.hid (show byE amount n wt = 1 by unfold byE; rw [if_neg c, if_pos (.inl h1)])
      generalize byE amount n wt = V at *
      have HA := Lib.hid hA
      have H1 := Lib.hid h1
      clear hA he h1 c
      go_enter Try.func36, Try.ntmps36
      go_wp2_with fail
      refine (valid_any _ _).mono ?_
      rintro e w1 ⟨rfl, rfl⟩
      rw [H1.out]
      go_wp2
      go_ret2
      exact ⟨by rw [E.out]; rfl, rfl⟩
    · cases h2 : okWts wt n
      · have E := Lib.hid (show byE amount n wt = 1 by unfold byE; rw [if_neg c, if_pos (.inr h2)])
        generalize byE amount n wt = V at *
        have HA := Lib.hid hA
        have H1 := Lib.hid h1
        have H2 := Lib.hid h2
        clear hA he h1 h2 c
        go_enter Try.func36, Try.ntmps36
        go_wp2_with fail
        refine (valid_any _ _).mono ?_
        rintro e w1 ⟨rfl, rfl⟩
        rw [H1.out]
        go_wp2_with fail
        refine (contains_bad _ n _ wt _ (by omega) HA.out).mono ?_
        rintro e w1 ⟨rfl, rfl⟩
        rw [H2.out]
        go_wp2
        go_ret2
        exact ⟨by rw [E.out]; rfl, rfl⟩
      · have hz : sumTo wt n = 0 := by
          by_cases z : sumTo wt n = 0
          · exact z
          · exfalso; apply he; unfold byE; rw [if_neg c, if_neg (by rw [h1, h2]; simp), if_neg z]
        have E := Lib.hid (show byE amount n wt = 6 by unfold byE; rw [if_neg c, if_neg (by rw [h1, h2]; simp), if_pos hz])
        generalize byE amount n wt = V at *
        have HW := Lib.hid ((okWts_iff wt n).1 h2)
        have HA := Lib.hid hA
        have H1 := Lib.hid h1
        have H2 := Lib.hid h2
        have HZ := Lib.hid hz
        clear hA he h1 h2 c hz
        go_enter Try.func36, Try.ntmps36
        go_wp2_with fail
        refine (valid_any _ _).mono ?_
        rintro e w1 ⟨rfl, rfl⟩
        rw [H1.out]
        go_wp2_with fail
        refine (contains_bad _ n _ wt _ (by omega) HA.out).mono ?_
        rintro e w1 ⟨rfl, rfl⟩
        rw [H2.out]
        go_wp2_with fail
        refine (ssum_any _ wt n _ _ (by omega) (fun j hj => by have := HW.out j hj; omega) HA.out).mono ?_
        rintro e w1 ⟨rfl, rfl⟩
        rw [HZ.out]
        go_wp2
        go_ret2
        exact ⟨by rw [E.out]; rfl, rfl⟩

set_option maxRecDepth 100000 in
set_option maxHeartbeats 4000000 in
theorem by_yes (amount : Int) (a : Option Addr) (n cap u : Nat) (wt : Nat → Int) (w : World) (hA : Arg w a n wt) (he : byE amount n wt = 0)
    (hu : (amount.natAbs : Int) - sumTo (bs (amount.natAbs : Int) wt (sumTo wt n)) n = u) :
    Calls Try.prog 36 #[.int .i64 amount, .slice a n cap] w (ByPost w amount n u (rs (amount.natAbs : Int) wt (sumTo wt n)) (bs (amount.natAbs : Int) wt (sumTo wt n))) := by
  obtain ⟨n40, h1, h2, hz⟩ : n ≤ 40 ∧ amB amount = true ∧ okWts wt n = true ∧ sumTo wt n ≠ 0 := by
    unfold byE at he
    by_cases c : 40 < n
    · rw [if_pos c] at he; omega
    · rw [if_neg c] at he
      by_cases c2 : amB amount = false ∨ okWts wt n = false
      · rw [if_pos c2] at he; omega
      · rw [if_neg c2] at he
        by_cases c3 : sumTo wt n = 0
        · rw [if_pos c3] at he; omega
        · refine ⟨by omega, ?_, ?_, c3⟩
          · cases z : amB amount
            · exact absurd (.inl z) c2
            · rfl
          · cases z : okWts wt n
            · exact absurd (.inr z) c2
            · rfl
  have hw := (okWts_iff wt n).1 h2
  obtain ⟨a0, a1⟩ := (am_iff amount).1 h1
  have hT0 : 0 < sumTo wt n := by have := sum_nonneg wt n (fun i hi => (hw i hi).1); omega
  have n1 : 1 ≤ n := by
    by_cases c : n = 0
    · subst c; simp [sumTo] at hz
    · omega
  have cb : decide (40 < n) = false := by simp; omega
  have cc : decide ((40 : Int) < (n : Int)) = false := by simp; omega
  have tz : (sumTo wt n == 0) = false := by rw [beq_eq_false_iff_ne]; exact hz
  obtain ⟨p, off, rfl, hR⟩ := hA.at (by omega)
  have HA := Lib.hid hA
  have HW := Lib.hid hw
  have H1 := Lib.hid h1
  have H2 := Lib.hid h2
  have HU := Lib.hid hu
  clear hA he h1 h2 hz hu hw
  go_enter Try.func36, Try.ntmps36
  go_wp2_with fail
  refine (valid_any _ _).mono ?_
  rintro e w1 ⟨rfl, rfl⟩
  rw [H1.out]
  go_wp2_with fail
  refine (contains_bad _ n _ wt _ (by omega) HA.out).mono ?_
  rintro e w1 ⟨rfl, rfl⟩
  rw [H2.out]
  go_wp2_with fail
  refine (ssum_any _ wt n _ _ (by omega) (fun j hj => by have := HW.out j hj; omega) HA.out).mono ?_
  rintro e w1 ⟨rfl, rfl⟩
  go_wp2_with fail
  refine (size_any _ _ (by omega) (by omega)).mono ?_
  rintro e w1 ⟨rfl, rfl⟩
  go_wp2_with fail
  refine (weighted_any (amount.natAbs : Int) p off cap n u wt (sumTo wt n) _ n1 n40 (by omega) (by omega) HW.out rfl hT0 HU.out hR).mono ?_
  rintro e w2 ⟨pp, d, hpp, rfl, hR2, hO2, hK2⟩
  have HR2 := Lib.hid hR2
  have HB : Hid (∀ j, j < n → -4000000000000000000 ≤ addU d (bs (amount.natAbs : Int) wt (sumTo wt n)) u j ∧ addU d (bs (amount.natAbs : Int) wt (sumTo wt n)) u j ≤ 4000000000000000000) := by
    intro j hj
    have ub := units_bd (W := (amount.natAbs : Int)) (wt := wt) (n := n) (sumTo wt n) rfl hT0
    have hun := HU.out
    have e := addU_congr d (bs (amount.natAbs : Int) wt (sumTo wt n)) (mix (bs (amount.natAbs : Int) wt (sumTo wt n)) (fun _ => 0) n) u n (fun q hq => by simp [mix, hq]) (HR2.out.1.inR (Nat.le_refl _) (fun q hq => by unfold idn; omega)) (by omega) j hj
    have b := addU_bd d (mix (bs (amount.natAbs : Int) wt (sumTo wt n)) (fun _ => 0) n) u 1000000000000 (fun q => by
      unfold mix
      split
      · have := bs_bd HW.out (show (0 : Int) ≤ (amount.natAbs : Int) by omega) (sumTo wt n) rfl hT0 q (by assumption); omega
      · simp) j
    rw [e]; omega
  clear hR2 hR
  go_wp2_with fail
  refine (signed_any amount pp n _ w _ (by omega) HB.out hO2 hpp hK2).mono ?_
  rintro e w3 ⟨rfl, hO3, hK3⟩
  go_wp2
  go_ret2
  exact ⟨pp, d, hpp, rfl, HR2.out, hO3, hK3⟩

end Go.Proofs.Ytjfflnkocajkeaa
