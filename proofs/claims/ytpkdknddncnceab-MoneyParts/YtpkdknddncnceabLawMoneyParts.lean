/-
  The law MoneyParts returns true: shares of parts are, together, that of the whole, but for less than one each. Condition: the row's length is within its capacity.
-/
import Derived.Test.YtpkdknddncnceabMWalkA
import Derived.Test.YtpkdknddncnceabSWalkF
import Derived.Test.YtpkdknddncnceabLawSplitSum
namespace Go.Proofs.Ytpkdknddncnceab
open Go.RowKit

theorem sum_each (g : Nat → Int) (n : Nat) (h : ∀ i, i < n → 0 ≤ g i) (i : Nat) (hi : i < n) : g i ≤ sumTo g n := by
  induction n with
  | zero => omega
  | succ n ih =>
    have a := sum_nonneg g n (fun j hj => h j (by omega))
    have b := h n (by omega)
    rw [sumTo]
    by_cases e : i = n
    · subst e; omega
    · have := ih (fun j hj => h j (by omega)) (by omega); omega
theorem ByOk.share {amount : Int} {n u : Nat} {wt d : Nat → Int} (h : ByOk amount n u wt d) (a0 : 0 ≤ amount) (i : Nat) (hi : i < n) : 0 ≤ byV amount n u wt d i ∧ byV amount n u wt d i ≤ amount := by
  have nn : ∀ j, j < n → 0 ≤ byV amount n u wt d j := by
    intro j hj
    have b := bs_bd h.wts (show (0 : Int) ≤ (amount.natAbs : Int) by omega) (sumTo wt n) rfl h.T0 j hj
    unfold byV sg
    rw [if_neg (by omega)]
    rcases h.part j hj with ⟨_, p⟩ | ⟨_, p, _⟩ <;> rw [p] <;> omega
  refine ⟨nn i hi, ?_⟩
  have := sum_each _ n nn i hi
  rw [h.sum] at this
  exact this
set_option maxRecDepth 100000 in
set_option maxHeartbeats 4000000 in
theorem moneyParts_walk (P R : Int) (a : Option Addr) (n0 cap : Nat) (wt : Nat → Int) (W : Int) (w : World) (hn : n0 ≤ 4000000000000000000) (hA : Arg w a n0 wt) (hcap : n0 ≤ cap) :
    Calls Try.prog 6 #[.int .i64 P, .int .i64 R, .slice a n0 cap, .int .i64 W] w fun e w' => e = .returned (.bool true) ∧ Kept w w' := by
  have T := Lib.hid (show shV 3 500000 1 = 2 by decide)
  go_enter Try.func6, Try.ntmps6
  go_wp2_with fail
  refine (share_yes _ _ _ _ (by decide)).mono ?_
  rintro e w1 ⟨rfl, hK1⟩
  rw [T.out]
  have hA1 := hA.later hK1
  clear T hA
  go_wp2_with fail
  refine (weights_any _ _ _ wt _ hn hcap hA1).mono ?_
  rintro e w2 ⟨n, ad, cp, g, n40, rfl, hG, hg, hK⟩
  have hK2 := hK1.trans hK
  clear hK1 hK hA1 hg
  go_wp2_with fail
  refine (within_any _ _ _ (by omega) (by omega)).mono ?_
  rintro e w3 ⟨r, r0, r1, rfl, rfl⟩
  go_wp2_with fail
  refine (within_any _ _ _ (by omega) (by omega)).mono ?_
  rintro e w3 ⟨y, y0, y1, rfl, rfl⟩
  go_wp2_with fail
  refine (within_any _ _ _ (by omega) (by omega)).mono ?_
  rintro e w3 ⟨p, p0, p1, rfl, rfl⟩
  by_cases he : byE p n g = 0
  · obtain ⟨u, hu, hB⟩ := units_ex he
    have HE := Lib.hid he
    have HU := Lib.hid hu
    have HB := Lib.hid hB
    clear he hu hB
    go_wp2_with fail
    refine (by_yes p _ n _ u g _ hG HE.out HU.out).mono ?_
    rintro e w3 ⟨q, d, hq, rfl, hR, hO, hK⟩
    have OK := Lib.hid (HB.out d hR)
    have hK3 := hK2.trans hK
    have n1 := OK.out.n1
    have hO' : Own w3 q (tab n (byV p n u g d)) := hO
    have SH := Lib.hid (fun i hi => OK.out.share p0 i hi)
    have OM := Lib.hid ((okM_iff p r y).2 ⟨by omega, by omega, by omega, by omega⟩)
    have NR := Lib.hid (parts_near (byV p n u g d) r y p n OK.out.sum y0 (by omega))
    have sb := shV_bd OM.out
    clear hR hO HB hG hK hK2 HU HE hq
    generalize byV p n u g d = v at *
    go_wp2_with fail
    refine (share_yes _ _ _ _ OM.out).mono ?_
    rintro e w4 ⟨rfl, hK⟩
    have hK4 := hK3.trans hK
    have hO4 := hO'.later hK
    have NS : Hid (sumTo (fun i => shV (v i) r y) n - shV p r y ≤ n ∧ shV p r y - sumTo (fun i => shV (v i) r y) n ≤ n) := NR.out
    clear hK hK3 hO' NR
    generalize shV p r y = all at *
    have SB := Lib.hid (fun i hi => show -1000000000000 ≤ shV (v i) r y ∧ shV (v i) r y ≤ 1000000000000 from shV_bd ((okM_iff (v i) r y).2 ⟨by have := SH.out i hi; omega, by omega, by omega, by omega⟩))
    go_wp2_with fail
    go_loopw [14, 59] (fun s i wr => ∃ k : Nat, k ≤ n ∧ i = .int .i64 k ∧ s = .int .i64 (sumTo (fun i => shV (v i) r y) k) ∧ Kept w4 wr) (fun _ i _ => (n - intOf i).toNat)
    case atStart => exact ⟨0, by omega, rfl, rfl, Kept.refl _⟩
    case round =>
      obtain ⟨k, hk, rfl, rfl, hD⟩ := hrel
      by_cases hlt : k < n
      · have hc := (hO4.later hD).cell k (by rw [tab_len]; exact hlt)
        rw [tab_get] at hc
        have vb := SH.out k hlt
        have OV := Lib.hid ((okM_iff (v k) r y).2 ⟨by omega, by omega, by omega, by omega⟩)
        have kb := SB.out k hlt
        have tb := sumTo_bd (fun i => shV (v i) r y) 1000000000000 k (fun j hj => SB.out j (by omega))
        have S := Lib.hid (show sumTo (fun i => shV (v i) r y) (k + 1) = sumTo (fun i => shV (v i) r y) k + shV (v k) r y from rfl)
        generalize sumTo (fun i => shV (v i) r y) k = t at *
        go_wp2_with fail
        refine (share_yes _ _ _ _ OV.out).mono ?_
        rintro e w5 ⟨rfl, hK⟩
        have hD2 := hD.trans hK
        clear hD hK
        generalize shV (v k) r y = x at *
        go_wp2
        go_roundw
        case rel => exact ⟨k + 1, by omega, by go_num, by rw [S.out], hD2⟩
        case measure => simp [intOf]; omega
      · obtain rfl : k = n := by omega
        clear hlt
        have tb := sumTo_bd (fun i => shV (v i) r y) 1000000000000 k (fun j hj => SB.out j hj)
        have ns := NS.out
        generalize sumTo (fun i => shV (v i) r y) k = t at *
        have d1 : decide (t - all ≤ (k : Int)) = true := by simpa using ns.1
        have d2 : decide (all - t ≤ (k : Int)) = true := by simpa using ns.2
        go_wp2
        go_ret
        exact ⟨ret_bool (by simp), hK4.trans hD⟩
  · have nb : (byE p n g != 0) = true := by rw [bne_iff_ne]; exact he
    have HE := Lib.hid he
    clear he
    go_wp2_with fail
    refine (by_no p _ n _ g _ (by omega) hG HE.out).mono ?_
    rintro e w3 ⟨rfl, rfl⟩
    go_wp2
    go_ret
    exact ⟨rfl, hK2⟩

end Go.Proofs.Ytpkdknddncnceab
