/-
  What package seats returns: divisor, next, total, Deal, Quotas. No condition but those that each theorem names.
-/
import Derived.Test.YtklbikifcebckaaDWalkA
namespace Go.Proofs.Ytklbikifcebckaa
open Go.RowKit

theorem way3 {way : Int} (h0 : 0 ≤ way) (h2 : way ≤ 2) : way = 0 ∨ way = 1 ∨ way = 2 := by omega
theorem dv0 (s : Int) : dv 0 s = s + 1 := by simp [dv]
theorem dv1 (s : Int) : dv 1 s = 2 * s + 1 := by simp [dv]
theorem dv2 (s : Int) : dv 2 s = s := by simp [dv]
set_option maxHeartbeats 400000 in
theorem divisor_any (way s : Int) (w : World) (h0 : 0 ≤ way) (h2 : way ≤ 2) (s0 : 0 ≤ s) (s1 : s ≤ 1000) :
    Calls Try.prog 122 #[.int .i64 way, .int .i64 s] w fun e w' => e = .returned (.int .i64 (dv way s)) ∧ w = w' := by
  rcases way3 h0 h2 with rfl | rfl | rfl
  · rw [dv0]
    go_enter Try.func122, Try.ntmps122
    go_wp2
    go_ret
    exact ⟨rfl, rfl⟩
  · rw [dv1]
    go_enter Try.func122, Try.ntmps122
    go_wp2
    go_ret
    exact ⟨rfl, rfl⟩
  · rw [dv2]
    go_enter Try.func122, Try.ntmps122
    go_wp2
    go_ret
    exact ⟨rfl, rfl⟩
theorem dv_bd {way s : Int} (s0 : 0 ≤ s) (s1 : s ≤ 1000) : 0 ≤ dv way s ∧ dv way s ≤ 2001 := ⟨dv_nonneg s0, by have := dv_le (way := way) s0; omega⟩
theorem vd_bd {v d : Int} (v0 : 0 ≤ v) (v1 : v ≤ 1000000) (d0 : 0 ≤ d) (d1 : d ≤ 2001) : 0 ≤ v * d ∧ v * d ≤ 2001000000 :=
  ⟨Int.mul_nonneg v0 d0, by have : v * d ≤ 1000000 * 2001 := Int.mul_le_mul v1 d1 d0 (by omega); omega⟩

set_option maxRecDepth 100000 in
set_option maxHeartbeats 4000000 in
theorem next_any (way : Int) (vp voff hp n cap hcap : Nat) (v h : Nat → Int) (w : World) (h0 : 0 ≤ way) (h2 : way ≤ 2) (n40 : n ≤ 40) (hv : WtOk v n) (hh : ∀ j, j < n → 0 ≤ h j ∧ h j ≤ 1000)
    (hR : Rd w vp voff (tab n v)) (hH : Rd w hp 0 (tab n h)) :
    Calls Try.prog 73 #[.int .i64 way, .slice (some ⟨vp, voff, none⟩) n cap, .slice (some ⟨hp, 0, none⟩) n hcap] w fun e w' => e = .returned (.int .i64 (nx way v h n)) ∧ Drew w w' := by
  have HV := Lib.hid hv
  have HH := Lib.hid hh
  have HR := Lib.hid hR
  have HL := Lib.hid hH
  clear hv hh hR hH
  go_enter Try.func73, Try.ntmps73
  go_wp2
  go_loopw [7, 12] (fun b i wr => ∃ k : Nat, k ≤ n ∧ i = .int .i64 k ∧ b = .int .i64 (nx way v h k) ∧ Drew w wr) (fun _ i _ => (n - intOf i).toNat)
  case atStart => exact ⟨0, by omega, rfl, rfl, Drew.refl w⟩
  case round =>
    obtain ⟨k, hk, rfl, rfl, hD⟩ := hrel
    have HD := Lib.hid hD
    clear hD
    by_cases hlt : k < n
    · have hc := (HR.out.later HD.out.kept).cell k (by rw [tab_len]; exact hlt)
      have hd := (HL.out.later HD.out.kept).cell k (by rw [tab_len]; exact hlt)
      rw [tab_get] at hc hd
      rw [Nat.zero_add] at hd
      have k1 : (k : Int) < (n : Int) := by omega
      by_cases vz : v k = 0
      · have E := Lib.hid (nx_zero (way := way) (h := h) vz)
        rw [vz] at hc
        generalize nx way v h k = b at *
        clear vz hd
        go_wp2
        go_roundw
        case rel => exact ⟨k + 1, by omega, by go_num, by rw [E.out], HD.out⟩
        case measure => simp [intOf]; omega
      · have vb : (v k == 0) = false := by rw [beq_eq_false_iff_ne]; exact vz
        rcases (show nx way v h k < 0 ∨ 0 ≤ nx way v h k by omega) with b0 | b0
        · have E := Lib.hid (nx_first vz b0)
          have bd : decide (nx way v h k < 0) = true := by simpa using b0
          generalize nx way v h k = b at *
          clear vz b0
          go_wp2
          go_quiet (fail)
          go_wp2
          go_roundw
          case rel => exact ⟨k + 1, by omega, by go_num, by rw [E.out], HD.out.drewN _⟩
          case measure => simp [intOf]; omega
        · obtain ⟨c, hc0⟩ := Int.eq_ofNat_of_zero_le b0
          have rg := nx_range way v h k
          have ck : c < k := by omega
          have cn : c < n := by omega
          have hc2 := (HR.out.later HD.out.kept).cell c (by rw [tab_len]; exact cn)
          have hd2 := (HL.out.later HD.out.kept).cell c (by rw [tab_len]; exact cn)
          rw [tab_get] at hc2 hd2
          rw [Nat.zero_add] at hd2
          have c1 : (c : Int) < (n : Int) := by omega
          have cz : decide ((c : Int) < 0) = false := by simp
          have hk2 := HH.out k hlt
          have hh2 := HH.out c cn
          have vk := HV.out k hlt
          have vc := HV.out c cn
          have b1 := dv_bd (way := way) hk2.1 hk2.2
          have b2 := dv_bd (way := way) hh2.1 hh2.2
          have m1 := vd_bd vk.1 vk.2 b2.1 b2.2
          have m2 := vd_bd vc.1 vc.2 b1.1 b1.2
          by_cases l : v c * dv way (h k) < v k * dv way (h c)
          · have E := Lib.hid (nx_more vz hc0 l)
            have ld : decide (v c * dv way (h k) < v k * dv way (h c)) = true := by simpa using l
            rw [hc0]
            clear vz b0 hc0 l rg
            go_wp2
            go_quiet (first | (go_at_call 122; exact quiet_same (divisor_any _ _ _ h0 h2 (by omega) (by omega))))
            go_wp2
            go_roundw
            case rel => exact ⟨k + 1, by omega, by go_num, by rw [E.out], HD.out.drewN _⟩
            case measure => simp [intOf]; omega
          · have E := Lib.hid (nx_less vz hc0 l)
            have ld : decide (v c * dv way (h k) < v k * dv way (h c)) = false := by simpa using l
            rw [hc0]
            clear vz b0 hc0 l rg
            go_wp2
            go_quiet (first | (go_at_call 122; exact quiet_same (divisor_any _ _ _ h0 h2 (by omega) (by omega))))
            go_wp2
            go_roundw
            case rel => exact ⟨k + 1, by omega, by go_num, by rw [E.out], HD.out.drewN _⟩
            case measure => simp [intOf]; omega
    · obtain rfl : k = n := by omega
      clear hlt
      go_wp2
      go_ret
      exact ⟨rfl, HD.out⟩

/-- The error that Deal and Quotas have in common: 0 if none. -/
def totE (N : Int) (n : Nat) (v : Nat → Int) : Int :=
  if 40 < n then 2 else if N < 0 ∨ 1000 < N ∨ okWts v n = false then 1 else if sumTo v n = 0 then 6 else 0
theorem totE_ok {N : Int} {n : Nat} {v : Nat → Int} (h : totE N n v = 0) : n ≤ 40 ∧ 0 ≤ N ∧ N ≤ 1000 ∧ okWts v n = true ∧ sumTo v n ≠ 0 := by
  unfold totE at h
  split at h
  · omega
  · split at h
    · omega
    · next c =>
      split at h
      · omega
      · refine ⟨by omega, by omega, by omega, ?_, by assumption⟩
        cases z : okWts v n
        · exact absurd (.inr (.inr z)) c
        · rfl
/-- What is known where there is no error. -/
structure TotOk (N : Int) (n : Nat) (v : Nat → Int) : Prop where
  n1 : 1 ≤ n
  n40 : n ≤ 40
  N0 : 0 ≤ N
  N1 : N ≤ 1000
  wts : WtOk v n
  T0 : 0 < sumTo v n
  T1 : sumTo v n ≤ 40000000
theorem totE_tot {N : Int} {n : Nat} {v : Nat → Int} (h : totE N n v = 0) : TotOk N n v := by
  obtain ⟨n40, N0, N1, hw, hz⟩ := totE_ok h
  have hw := (okWts_iff v n).1 hw
  have s := sum_nonneg v n (fun i hi => (hw i hi).1)
  have t := sum_le v n 1000000 (fun i hi => (hw i hi).2)
  refine ⟨?_, n40, N0, N1, hw, by omega, by omega⟩
  by_cases c : n = 0
  · subst c; simp [sumTo] at hz
  · omega
theorem TotOk.err {N : Int} {n : Nat} {v : Nat → Int} (h : TotOk N n v) : totE N n v = 0 := by
  have a := h.n40; have b := h.N0; have c := h.N1; have d := h.T0
  unfold totE
  rw [if_neg (by omega), if_neg (by rw [(okWts_iff v n).2 h.wts]; intro q; rcases q with q | q | q
                                    · omega
                                    · omega
                                    · cases q), if_neg (by omega)]
set_option maxRecDepth 100000 in
set_option maxHeartbeats 4000000 in
theorem total_any (N : Int) (a : Option Addr) (n cap : Nat) (v : Nat → Int) (w : World) (hn : n ≤ 4000000000000000000) (hA : Arg w a n v) :
    Calls Try.prog 72 #[.int .i64 N, .slice a n cap] w fun e w' => e = .returned (.tuple #[.int .i64 (if totE N n v = 0 then sumTo v n else 0), .int .i64 (totE N n v)]) ∧ w = w' := by
  have HA := Lib.hid hA
  clear hA
  by_cases c : 40 < n
  · have E := Lib.hid (show totE N n v = 2 by unfold totE; rw [if_pos c])
    have F := Lib.hid (show (if totE N n v = 0 then sumTo v n else 0) = 0 by rw [E.out]; rfl)
    generalize (if totE N n v = 0 then sumTo v n else 0) = V at *
    generalize totE N n v = U at *
    have c1 : (40 : Int) < (n : Int) := by omega
    go_enter Try.func72, Try.ntmps72
    go_wp2
    go_ret2
    exact ⟨by rw [E.out, F.out]; rfl, rfl⟩
  · have cb : decide (40 < n) = false := by simpa using c
    have cc : decide ((40 : Int) < (n : Int)) = false := by simp; omega
    have n40 : n ≤ 40 := by omega
    by_cases n0 : N < 0
    · have E := Lib.hid (show totE N n v = 1 by unfold totE; rw [if_neg c, if_pos (.inl n0)])
      have F := Lib.hid (show (if totE N n v = 0 then sumTo v n else 0) = 0 by rw [E.out]; rfl)
      generalize (if totE N n v = 0 then sumTo v n else 0) = V at *
      generalize totE N n v = U at *
      clear c
      go_enter Try.func72, Try.ntmps72
      go_wp2
      go_ret2
      exact ⟨by rw [E.out, F.out]; rfl, rfl⟩
    · have nd : decide (N < 0) = false := by simpa using n0
      by_cases n1 : 1000 < N
      · have E := Lib.hid (show totE N n v = 1 by unfold totE; rw [if_neg c, if_pos (.inr (.inl n1))])
        have F := Lib.hid (show (if totE N n v = 0 then sumTo v n else 0) = 0 by rw [E.out]; rfl)
        generalize (if totE N n v = 0 then sumTo v n else 0) = V at *
        generalize totE N n v = U at *
        clear c n0
        go_enter Try.func72, Try.ntmps72
        go_wp2
        go_ret2
        exact ⟨by rw [E.out, F.out]; rfl, rfl⟩
      · have nd1 : decide (1000 < N) = false := by simpa using n1
        cases h2 : okWts v n
        · have E := Lib.hid (show totE N n v = 1 by unfold totE; rw [if_neg c, if_pos (.inr (.inr h2))])
          have F := Lib.hid (show (if totE N n v = 0 then sumTo v n else 0) = 0 by rw [E.out]; rfl)
          generalize (if totE N n v = 0 then sumTo v n else 0) = V at *
          generalize totE N n v = U at *
          have H2 := Lib.hid h2
          clear c n0 n1 h2
          go_enter Try.func72, Try.ntmps72
          go_wp2_with fail
          refine (contains_badD _ n _ v _ (by omega) HA.out).mono ?_
          rintro e w1 ⟨rfl, rfl⟩
          rw [H2.out]
          go_wp2
          go_ret2
          exact ⟨by rw [E.out, F.out]; rfl, rfl⟩
        · have HW := Lib.hid ((okWts_iff v n).1 h2)
          have H2 := Lib.hid h2
          have cond : ¬ (N < 0 ∨ 1000 < N ∨ okWts v n = false) := by rw [h2]; intro q; rcases q with q | q | q
                                                                     · exact n0 q
                                                                     · exact n1 q
                                                                     · cases q
          have E : totE N n v = if sumTo v n = 0 then 6 else 0 := by unfold totE; rw [if_neg c, if_neg cond]
          have F : (if totE N n v = 0 then sumTo v n else 0) = sumTo v n := by
            rw [E]; split
            · next z => rw [if_neg (by omega), z]
            · rw [if_pos rfl]
          have EE := Lib.hid E
          have FF := Lib.hid F
          generalize (if totE N n v = 0 then sumTo v n else 0) = V at *
          generalize totE N n v = U at *
          clear E F cond c n0 n1 h2
          go_enter Try.func72, Try.ntmps72
          go_wp2_with fail
          refine (contains_badD _ n _ v _ (by omega) HA.out).mono ?_
          rintro e w1 ⟨rfl, rfl⟩
          rw [H2.out]
          go_wp2
          go_loop [6, 24] (fun s i => ∃ k : Nat, k ≤ n ∧ i = .int .i64 k ∧ s = .int .i64 (sumTo v k)) (fun _ i => (n - intOf i).toNat)
          case atStart => exact ⟨0, by omega, rfl, rfl⟩
          case round =>
            obtain ⟨k, hk, rfl, rfl⟩ := hrel
            by_cases hlt : k < n
            · obtain ⟨p, off, rfl, hR⟩ := HA.out.at (by omega)
              have hc := hR.cell k (by rw [tab_len]; exact hlt)
              rw [tab_get] at hc
              clear hR
              have gb := HW.out k hlt
              have sb := sumTo_bd v 1000000 k (fun j hj => by have := HW.out j (by omega); omega)
              have S := Lib.hid (show sumTo v (k + 1) = sumTo v k + v k from rfl)
              go_wp2
              go_round
              case rel => exact ⟨k + 1, by omega, by go_num, by rw [S.out]⟩
              case measure => simp [intOf]; omega
            · obtain rfl : k = n := by omega
              clear hlt
              by_cases z : sumTo v k = 0
              · have Z := Lib.hid z
                rw [z]
                clear z
                go_wp2
                go_ret2
                exact ⟨by rw [FF.out, EE.out, Z.out]; rfl, rfl⟩
              · have zb : (sumTo v k == 0) = false := by rw [beq_eq_false_iff_ne]; exact z
                have Z := Lib.hid z
                clear z
                go_wp2
                go_ret2
                exact ⟨by rw [FF.out, EE.out, if_neg Z.out]; rfl, rfl⟩

/-- The error that Deal returns: 0 if none. -/
def dealE (way N : Int) (n : Nat) (v : Nat → Int) : Int := if way < 0 ∨ 2 < way then 1 else totE N n v
theorem dealE_way {way N : Int} {n : Nat} {v : Nat → Int} (h : dealE way N n v = 0) : 0 ≤ way ∧ way ≤ 2 ∧ TotOk N n v := by
  unfold dealE at h
  split at h
  · omega
  · exact ⟨by omega, by omega, totE_tot h⟩
theorem dealE_tot {way N : Int} {n : Nat} {v : Nat → Int} (h0 : 0 ≤ way) (h2 : way ≤ 2) : dealE way N n v = totE N n v := by
  unfold dealE; rw [if_neg (by omega)]
set_option maxRecDepth 100000 in
set_option maxHeartbeats 4000000 in
theorem deal_no (way N : Int) (a : Option Addr) (n cap : Nat) (v : Nat → Int) (w : World) (hn : n ≤ 4000000000000000000) (hA : Arg w a n v) (he : dealE way N n v ≠ 0) :
    Calls Try.prog 35 #[.int .i64 way, .int .i64 N, .slice a n cap] w fun e w' => e = .returned (.tuple #[.slice none 0 0, .int .i64 (dealE way N n v)]) ∧ w = w' := by
  have HA := Lib.hid hA
  clear hA
  by_cases c : way < 0 ∨ 2 < way
  · have E := Lib.hid (show dealE way N n v = 1 by unfold dealE; rw [if_pos c])
    generalize dealE way N n v = V at *
    have c0 : (way != 0) = true := by rw [bne_iff_ne]; omega
    have c1 : (way != 1) = true := by rw [bne_iff_ne]; omega
    have c2 : (way != 2) = true := by rw [bne_iff_ne]; omega
    clear c he
    go_enter Try.func35, Try.ntmps35
    go_wp2
    go_ret2
    exact ⟨by rw [E.out]; rfl, rfl⟩
  · have E := Lib.hid (show dealE way N n v = totE N n v from dealE_tot (by omega) (by omega))
    generalize dealE way N n v = V at *
    have hb : (totE N n v != 0) = true := by rw [bne_iff_ne, ← E.out]; exact he
    clear he
    rcases (show way = 0 ∨ way = 1 ∨ way = 2 by omega) with rfl | rfl | rfl
    all_goals
      clear c
      go_enter Try.func35, Try.ntmps35
      go_wp2_with fail
      refine (total_any N _ n _ v _ hn HA.out).mono ?_
      rintro e w1 ⟨rfl, rfl⟩
      generalize (if totE N n v = 0 then sumTo v n else 0) = T at *
      go_wp2
      go_ret2
      exact ⟨by rw [E.out]; rfl, rfl⟩
/-- What Deal returns. -/
def DealPost (w : World) (way : Int) (n s : Nat) (v : Nat → Int) (e : Ending) (w' : World) : Prop :=
  ∃ p : Nat, w.heap.size ≤ p ∧ e = .returned (.tuple #[.slice (some ⟨p, 0, none⟩) n n, .int .i64 0]) ∧ Own w' p (tab n (dl way v n s)) ∧ Kept w w'
set_option maxRecDepth 100000 in
set_option maxHeartbeats 4000000 in
theorem deal_yes (way : Int) (s : Nat) (a : Option Addr) (n cap : Nat) (v : Nat → Int) (w : World) (hA : Arg w a n v) (h0 : 0 ≤ way) (h2 : way ≤ 2) (ok : TotOk s n v) :
    Calls Try.prog 35 #[.int .i64 way, .int .i64 (s : Int), .slice a n cap] w (DealPost w way n s v) := by
  have n40 := ok.n40
  have n1 := ok.n1
  have s1 := ok.N1
  have E := Lib.hid ok.err
  have OK := Lib.hid ok
  obtain ⟨vp, off, rfl, hR⟩ := hA.at (by omega)
  have mk := make_ints n (by omega)
  clear ok hA
  have WW : (way != 0) = false ∨ ((way != 0) = true ∧ (way != 1) = false) ∨ ((way != 0) = true ∧ (way != 1) = true ∧ (way != 2) = false) := by
    rcases way3 h0 h2 with rfl | rfl | rfl <;> simp
  have W : Hid (0 ≤ way ∧ way ≤ 2) := ⟨h0, h2⟩
  rcases WW with w0 | ⟨w0, w1'⟩ | ⟨w0, w1', w2'⟩
  all_goals
    clear h0 h2
    go_enter Try.func35, Try.ntmps35
    go_wp2_with fail
    refine (total_any _ _ n _ v _ (by omega) (Arg.of hR)).mono ?_
    rintro e w0 ⟨rfl, rfl⟩
    rw [E.out, if_pos rfl]
    go_wp2_with fail
    have hO0 := Own.made (w := w) (n := n) (t := 3) rfl
    have hK0 := (Kept.refl w).alloc (.cells (zs n) 3)
    rw [tab_zero] at hO0
    have hp : w.heap.size ≤ w.heap.size := Nat.le_refl _
    have lp := hR.lt
    clear mk
    generalize w.alloc (.cells (zs n) 3) = w1 at *
    generalize hP : w.heap.size = p at *
    have HP := Lib.hid hP
    have HV : Hid (w.heap.size ≤ p) := by rw [HP.out]; exact Nat.le_refl _
    clear hP hp
    go_loopw [34] (fun i wr => ∃ k : Nat, k ≤ s ∧ i = .int .i64 k ∧ Own wr p (tab n (dl way v n k)) ∧ Kept w wr) (fun i _ => (s - intOf i).toNat)
    case atStart => exact ⟨0, by omega, rfl, hO0, hK0⟩
    case round =>
      obtain ⟨k, hk, rfl, hO, hK⟩ := hrel
      by_cases hlt : k < s
      · have bd := Lib.hid (fun j => dl_nn way v n k j)
        obtain ⟨c, ce, cn, _, _⟩ := nx_in (way := way) (fun q hq => (OK.out.wts q hq).1) (fun q _ => (bd.out q).1) OK.out.T0
        have D := Lib.hid (show dl way v n (k + 1) = up (dl way v n k) c (dl way v n k c + 1) by rw [dl, ce, Int.toNat_natCast])
        have CE := Lib.hid ce
        clear ce
        have k1 : (k : Int) < (s : Int) := by omega
        have c1 : (c : Int) < (n : Int) := by omega
        go_wp2_with fail
        refine (next_any _ _ _ _ n _ _ v _ _ W.out.1 W.out.2 n40 OK.out.wts (fun j _ => by have := bd.out j; omega) (hR.later hK) hO.rd).mono ?_
        rintro e w2 ⟨rfl, hd⟩
        rw [CE.out]
        have hO2 := hO.later hd.kept
        have hK2 := hK.trans hd.kept
        clear hO hK hd
        have hc := hO2.cell c (by rw [tab_len]; exact cn)
        have hf := hO2.free c (by rw [tab_len]; exact cn)
        rw [tab_get] at hc
        have cb := bd.out c
        have NO := Lib.hid (hO2.set c (dl way v n k c + 1) (by rw [tab_len]; exact cn))
        have NK := Lib.hid (hK2.setAt (i := c) HV.out (.int .i64 (dl way v n k c + 1)))
        clear hO2 hK2 CE
        go_wp2
        go_roundw
        case rel => exact ⟨k + 1, by omega, by go_num, by have := NO.out; rw [tab_set] at this; rw [D.out]; exact this, NK.out⟩
        case measure => simp [intOf]; omega
      · obtain rfl : k = s := by omega
        clear hlt
        go_wp2
        go_ret2
        exact ⟨p, HV.out, rfl, hO, hK⟩

/-- What Quotas returns. -/
def qt (N : Int) (v : Nat → Int) (T : Int) : Nat → Int := fun i => N * v i / T
set_option maxRecDepth 100000 in
set_option maxHeartbeats 4000000 in
theorem quotas_no (N : Int) (a : Option Addr) (n cap : Nat) (v : Nat → Int) (w : World) (hn : n ≤ 4000000000000000000) (hA : Arg w a n v) (he : totE N n v ≠ 0) :
    Calls Try.prog 34 #[.int .i64 N, .slice a n cap] w fun e w' => e = .returned (.tuple #[.slice none 0 0, .int .i64 (totE N n v)]) ∧ w = w' := by
  have HA := Lib.hid hA
  clear hA
  have hb : (totE N n v != 0) = true := by rw [bne_iff_ne]; exact he
  clear he
  go_enter Try.func34, Try.ntmps34
  go_wp2_with fail
  refine (total_any N _ n _ v _ hn HA.out).mono ?_
  rintro e w1 ⟨rfl, rfl⟩
  generalize (if totE N n v = 0 then sumTo v n else 0) = T at *
  go_wp2
  go_ret2
  exact ⟨rfl, rfl⟩
set_option maxRecDepth 100000 in
set_option maxHeartbeats 4000000 in
theorem quotas_yes (N : Int) (a : Option Addr) (n cap : Nat) (v : Nat → Int) (w : World) (hA : Arg w a n v) (ok : TotOk N n v) :
    Calls Try.prog 34 #[.int .i64 N, .slice a n cap] w fun e w' => ∃ p : Nat, w.heap.size ≤ p ∧ e = .returned (.tuple #[.slice (some ⟨p, 0, none⟩) n n, .int .i64 0]) ∧ Own w' p (tab n (qt N v (sumTo v n))) ∧ Kept w w' := by
  have n40 := ok.n40
  have n1 := ok.n1
  have N0 := ok.N0
  have N1 := ok.N1
  have T0 := ok.T0
  have T1 := ok.T1
  have E := Lib.hid ok.err
  have OK := Lib.hid ok.wts
  obtain ⟨vp, off, rfl, hR⟩ := hA.at (by omega)
  have mk := make_ints n (by omega)
  clear ok hA
  go_enter Try.func34, Try.ntmps34
  go_wp2_with fail
  refine (total_any _ _ n _ v _ (by omega) (Arg.of hR)).mono ?_
  rintro e w0 ⟨rfl, rfl⟩
  rw [E.out, if_pos rfl]
  generalize hT : sumTo v n = T at *
  have tz : (T == 0) = false := by rw [beq_eq_false_iff_ne]; omega
  have HT := Lib.hid hT
  clear hT
  go_wp2_with fail
  have hO0 := Own.made (w := w) (n := n) (t := 3) rfl
  have hK0 := (Kept.refl w).alloc (.cells (zs n) 3)
  rw [tab_zero] at hO0
  clear mk
  generalize w.alloc (.cells (zs n) 3) = w1 at *
  generalize hP : w.heap.size = p at *
  have HP := Lib.hid hP
  have HV : Hid (w.heap.size ≤ p) := by rw [HP.out]; exact Nat.le_refl _
  clear hP
  go_loopw [25] (fun i wr => ∃ k : Nat, k ≤ n ∧ i = .int .i64 k ∧ Own wr p (tab n (mix (qt N v T) (fun _ => 0) k)) ∧ Kept w wr) (fun i _ => (n - intOf i).toNat)
  case atStart => exact ⟨0, by omega, rfl, by rw [mix_zero]; exact hO0, hK0⟩
  case round =>
    obtain ⟨k, hk, rfl, hO, hK⟩ := hrel
    by_cases hlt : k < n
    · have hc := (hR.later hK).cell k (by rw [tab_len]; exact hlt)
      have hx := hO.cell k (by rw [tab_len]; exact hlt)
      have hf := hO.free k (by rw [tab_len]; exact hlt)
      rw [tab_get] at hc
      rw [tab_get, mix_at] at hx
      have vb := OK.out k hlt
      have m0 : 0 ≤ N * v k := Int.mul_nonneg N0 vb.1
      have m1 : N * v k ≤ 1000 * 1000000 := Int.mul_le_mul N1 vb.2 vb.1 (by omega)
      have q0 : 0 ≤ N * v k / T := Int.ediv_nonneg m0 (by omega)
      have q1 : N * v k / T ≤ N * v k := Int.ediv_le_self _ m0
      have NO := Lib.hid (hO.set k (N * v k / T) (by rw [tab_len]; exact hlt))
      have NK := Lib.hid (hK.setAt (i := k) HV.out (.int .i64 (N * v k / T)))
      have EX := Lib.hid (mix_set (qt N v T) (fun _ => 0) k)
      clear hO hK
      have k1 : (k : Int) < (n : Int) := by omega
      go_wp2
      go_roundw
      case rel => exact ⟨k + 1, by omega, by go_num, by have := NO.out; rw [tab_set] at this; rw [← EX.out]; exact this, NK.out⟩
      case measure => simp [intOf]; omega
    · obtain rfl : k = n := by omega
      clear hlt
      rw [mix_end] at hO
      go_wp2
      go_ret2
      exact ⟨p, HV.out, rfl, by rw [HT.out]; exact hO, hK⟩

end Go.Proofs.Ytklbikifcebckaa
