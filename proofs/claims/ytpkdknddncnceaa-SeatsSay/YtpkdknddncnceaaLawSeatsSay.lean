/-
  The law SeatsSay returns true: whatever is handed in, Deal and Quotas answer what the document says. No condition.
-/
import Derived.Test.YtpkdknddncnceaaQWalkI
import Derived.Test.YtpkdknddncnceaaQWalkV
import Derived.Test.YtpkdknddncnceaaDGrow
namespace Go.Proofs.Ytpkdknddncnceaa
open Go.RowKit Go.WideShapes

set_option maxRecDepth 100000 in
set_option maxHeartbeats 8000000 in
theorem seatsSay_walk (way N : Int) (a : Option Addr) (n cap : Nat) (v : Nat → Int) (w : World) (hn : n ≤ 4000000000000000000) (hA : Arg w a n v) :
    Calls Try.prog 3 #[.int .i64 way, .int .i64 N, .slice a n cap] w fun e w' => e = .returned (.bool true) ∧ Kept w w' := by
  by_cases he : totE N n v = 0
  · have ok := totE_tot he
    obtain ⟨S, rfl⟩ := Int.eq_ofNat_of_zero_le ok.N0
    have OK := Lib.hid ok
    have HE := Lib.hid he
    have n1 := ok.n1
    have n40 := ok.n40
    have s1 := ok.N1
    have T0 := ok.T0
    have T1 := ok.T1
    obtain ⟨vp, off, rfl, hR0⟩ := hA.at n1
    clear ok he hA
    by_cases bad : way < 0 ∨ 2 < way
    · have DE := Lib.hid (show dealE way S n v = 1 by unfold dealE; rw [if_pos bad])
      have bb : decide (way < 0) = true ∨ (decide (way < 0) = false ∧ decide (2 < way) = true) := by
        rcases bad with z | z
        · left; simpa using z
        · by_cases y : way < 0
          · left; simpa using y
          · right; exact ⟨by simpa using y, by simpa using z⟩
      clear bad
      rcases bb with b1 | ⟨b1, b2⟩
      all_goals
        go_enter Try.func3, Try.ntmps3
        go_wp2_with fail
        refine (deal_no way S _ n _ v _ hn (Arg.of hR0) (by rw [DE.out]; decide)).mono ?_
        rintro e w1 ⟨rfl, rfl⟩
        rw [DE.out]
        go_wp2_with fail
        refine (quotas_yes S _ n _ v _ (Arg.of hR0) OK.out).mono ?_
        rintro e W ⟨yp, hyp, rfl, hY0, hKW⟩
        have HR := Lib.hid (hR0.later hKW)
        have HY := Lib.hid hY0.rd
        clear hyp hY0 hR0
        go_wp2_with fail
        refine (rvotes_any _ _ n _ v _ hn (Arg.of HR.out)).mono ?_
        rintro e w3 ⟨rfl, rfl⟩
        rw [HE.out]
        go_wp2_with fail
        go_loop [13, 75] (fun s i => ∃ k : Nat, k ≤ n ∧ i = .int .i64 k ∧ s = .int .i64 (sumTo v k)) (fun _ i => (n - intOf i).toNat)
        case atStart => exact ⟨0, by omega, rfl, rfl⟩
        case round =>
          obtain ⟨k, hk, rfl, rfl⟩ := hrel
          by_cases hlt : k < n
          · have hc := HR.out.cell k (by rw [tab_len]; exact hlt)
            rw [tab_get] at hc
            have gb := OK.out.wts k hlt
            have sb := sumTo_bd v 1000000 k (fun j hj => by have := OK.out.wts j (by omega); omega)
            have Z := Lib.hid (show sumTo v (k + 1) = sumTo v k + v k from rfl)
            go_wp2
            go_round
            case rel => exact ⟨k + 1, by omega, by go_num, by rw [Z.out]⟩
            case measure => simp [intOf]; omega
          · obtain rfl : k = n := by omega
            clear hlt
            generalize hT : sumTo v k = T at *
            have tz : (T == 0) = false := by rw [beq_eq_false_iff_ne]; omega
            clear hT
            go_wp2_with fail
            go_loopw [16, 85] (fun vv i wr => ∃ j : Nat, j ≤ k ∧ i = .int .i64 j ∧ Gr W.heap.size wr vv j (qt (S : Int) v T) ∧ Kept W wr) (fun _ i _ => (k - intOf i).toNat)
            case atStart => exact ⟨0, by omega, rfl, Gr.nil _ _ _, Kept.refl _⟩
            case round =>
              obtain ⟨j, hj, rfl, hG, hK⟩ := hrel
              by_cases hlt : j < k
              · have hc := (HR.out.later hK).cell j (by rw [tab_len]; exact hlt)
                rw [tab_get] at hc
                have gb := OK.out.wts j hlt
                have m0 : 0 ≤ (S : Int) * v j := Int.mul_nonneg (by omega) gb.1
                have m1 : (S : Int) * v j ≤ 1000 * 1000000 := Int.mul_le_mul (by omega) gb.2 gb.1 (by omega)
                have r0 := Int.emod_nonneg ((S : Int) * v j) (show T ≠ 0 by omega)
                have r1 := Int.emod_lt_of_pos ((S : Int) * v j) (show 0 < T by omega)
                have ed := Int.mul_ediv_add_emod ((S : Int) * v j) T
                have q0 : 0 ≤ (S : Int) * v j / T := Int.ediv_nonneg m0 (by omega)
                have r2 : (S : Int) * v j % T ≤ (S : Int) * v j := by
                  have : 0 ≤ T * ((S : Int) * v j / T) := Int.mul_nonneg (by omega) q0
                  omega
                have QE := Lib.hid (show ((S : Int) * v j - (S : Int) * v j % T) / T = qt (S : Int) v T j by
                  unfold qt
                  rw [show (S : Int) * v j - (S : Int) * v j % T = (S : Int) * v j / T * T by rw [Int.mul_comm _ T]; omega]
                  exact Int.mul_ediv_cancel _ (by omega))
                have z0 : 0 ≤ (S : Int) * v j - (S : Int) * v j % T := by omega
                have z1 : 0 ≤ ((S : Int) * v j - (S : Int) * v j % T) / T := Int.ediv_nonneg z0 (by omega)
                have z2 : ((S : Int) * v j - (S : Int) * v j % T) / T ≤ (S : Int) * v j - (S : Int) * v j % T := Int.ediv_le_self _ z0
                clear ed q0
                go_wp2_with (at_builtin; refine app_one rfl _ _ rfl (B := W.heap.size) (z := ((S : Int) * v j - (S : Int) * v j % T) / T) rfl rfl (hG.alloc _) (by simp) (by omega) (by have := hK.size; simp; omega) ?_)
                intro v' w5 hG' hgrow _
                have hK5 := (hG.alloc _).below (Nat.le_refl _) (hK.alloc _) hgrow
                have hG5 := hG'.congr (h := qt (S : Int) v T) (fun t _ => by
                  unfold up
                  by_cases e : t = j
                  · rw [if_pos e, e]; exact QE.out
                  · rw [if_neg e])
                clear hgrow hG hc hG' hK QE
                go_wp2
                go_roundw
                case rel => exact ⟨j + 1, by omega, by go_num, hG5, hK5⟩
                case measure => simp [intOf]; omega
              · obtain rfl : j = k := by omega
                obtain ⟨q, c, rfl, hq⟩ := hG.form n1
                have hM := hG.toOwn.rd
                have hY := HY.out.later hK
                clear hlt hG
                go_wp2_with fail
                refine (equal_yes (qt (S : Int) v T) _ 0 _ q 0 _ j _ (by omega) hY hM).mono ?_
                rintro e w6 ⟨rfl, hd⟩
                go_wp2
                go_ret
                exact ⟨rfl, (hKW.trans hK).trans hd.kept⟩
    · have h0 : 0 ≤ way := by omega
      have h2 : way ≤ 2 := by omega
      have b1 : decide (way < 0) = false := by simp; omega
      have b2 : decide (2 < way) = false := by simp; omega
      clear bad
      go_enter Try.func3, Try.ntmps3
      go_wp2_with fail
      refine (deal_yes way S _ n _ v _ (Arg.of hR0) h0 h2 OK.out).mono ?_
      rintro e w1 ⟨xp, hxp, rfl, hX, hK1⟩
      have hR1 := hR0.later hK1
      clear hR0 hxp
      go_wp2_with fail
      refine (quotas_yes S _ n _ v _ (Arg.of hR1) OK.out).mono ?_
      rintro e w2 ⟨yp, hyp, rfl, hY, hK⟩
      have hR2 := hR1.later hK
      have hK2 := hK1.trans hK
      have hX2 := hX.rd.later hK
      clear hR1 hK1 hK hyp hX
      go_wp2_with fail
      refine (rvotes_any _ _ n _ v _ hn (Arg.of hR2)).mono ?_
      rintro e w3 ⟨rfl, rfl⟩
      rw [HE.out]
      go_wp2_with fail
      refine (rdeal_any way S vp off n _ v _ h0 h2 n1 n40 (by omega) OK.out.wts T0 hR2).mono ?_
      rintro e w3 ⟨zp, hzp, rfl, hZ, hK⟩
      have hR3 := hR2.later hK
      have hK3 := hK2.trans hK
      have hX3 := hX2.later hK
      have hY3 := hY.rd.later hK
      clear hR2 hK2 hK hzp hX2 hY
      go_wp2_with fail
      refine (equal_yes (dl way v n S) xp 0 _ zp 0 _ n _ (by omega) hX3 hZ.rd).mono ?_
      rintro e W ⟨rfl, hd⟩
      have HR := Lib.hid (hR3.later hd.kept)
      have HY := Lib.hid (hY3.later hd.kept)
      have hKW := hK3.trans hd.kept
      clear hR3 hY3 hK3 hd hX3 hZ
      go_wp2_with fail
      go_loop [13, 75] (fun s i => ∃ k : Nat, k ≤ n ∧ i = .int .i64 k ∧ s = .int .i64 (sumTo v k)) (fun _ i => (n - intOf i).toNat)
      case atStart => exact ⟨0, by omega, rfl, rfl⟩
      case round =>
        obtain ⟨k, hk, rfl, rfl⟩ := hrel
        by_cases hlt : k < n
        · have hc := HR.out.cell k (by rw [tab_len]; exact hlt)
          rw [tab_get] at hc
          have gb := OK.out.wts k hlt
          have sb := sumTo_bd v 1000000 k (fun j hj => by have := OK.out.wts j (by omega); omega)
          have Z := Lib.hid (show sumTo v (k + 1) = sumTo v k + v k from rfl)
          go_wp2
          go_round
          case rel => exact ⟨k + 1, by omega, by go_num, by rw [Z.out]⟩
          case measure => simp [intOf]; omega
        · obtain rfl : k = n := by omega
          clear hlt
          generalize hT : sumTo v k = T at *
          have tz : (T == 0) = false := by rw [beq_eq_false_iff_ne]; omega
          clear hT
          go_wp2_with fail
          go_loopw [16, 85] (fun vv i wr => ∃ j : Nat, j ≤ k ∧ i = .int .i64 j ∧ Gr W.heap.size wr vv j (qt (S : Int) v T) ∧ Kept W wr) (fun _ i _ => (k - intOf i).toNat)
          case atStart => exact ⟨0, by omega, rfl, Gr.nil _ _ _, Kept.refl _⟩
          case round =>
            obtain ⟨j, hj, rfl, hG, hK⟩ := hrel
            by_cases hlt : j < k
            · have hc := (HR.out.later hK).cell j (by rw [tab_len]; exact hlt)
              rw [tab_get] at hc
              have gb := OK.out.wts j hlt
              have m0 : 0 ≤ (S : Int) * v j := Int.mul_nonneg (by omega) gb.1
              have m1 : (S : Int) * v j ≤ 1000 * 1000000 := Int.mul_le_mul (by omega) gb.2 gb.1 (by omega)
              have r0 := Int.emod_nonneg ((S : Int) * v j) (show T ≠ 0 by omega)
              have r1 := Int.emod_lt_of_pos ((S : Int) * v j) (show 0 < T by omega)
              have ed := Int.mul_ediv_add_emod ((S : Int) * v j) T
              have q0 : 0 ≤ (S : Int) * v j / T := Int.ediv_nonneg m0 (by omega)
              have r2 : (S : Int) * v j % T ≤ (S : Int) * v j := by
                have : 0 ≤ T * ((S : Int) * v j / T) := Int.mul_nonneg (by omega) q0
                omega
              have QE := Lib.hid (show ((S : Int) * v j - (S : Int) * v j % T) / T = qt (S : Int) v T j by
                unfold qt
                rw [show (S : Int) * v j - (S : Int) * v j % T = (S : Int) * v j / T * T by rw [Int.mul_comm _ T]; omega]
                exact Int.mul_ediv_cancel _ (by omega))
              have z0 : 0 ≤ (S : Int) * v j - (S : Int) * v j % T := by omega
              have z1 : 0 ≤ ((S : Int) * v j - (S : Int) * v j % T) / T := Int.ediv_nonneg z0 (by omega)
              have z2 : ((S : Int) * v j - (S : Int) * v j % T) / T ≤ (S : Int) * v j - (S : Int) * v j % T := Int.ediv_le_self _ z0
              clear ed q0
              go_wp2_with (at_builtin; refine app_one rfl _ _ rfl (B := W.heap.size) (z := ((S : Int) * v j - (S : Int) * v j % T) / T) rfl rfl (hG.alloc _) (by simp) (by omega) (by have := hK.size; simp; omega) ?_)
              intro v' w5 hG' hgrow _
              have hK5 := (hG.alloc _).below (Nat.le_refl _) (hK.alloc _) hgrow
              have hG5 := hG'.congr (h := qt (S : Int) v T) (fun t _ => by
                unfold up
                by_cases e : t = j
                · rw [if_pos e, e]; exact QE.out
                · rw [if_neg e])
              clear hgrow hG hc hG' hK QE
              go_wp2
              go_roundw
              case rel => exact ⟨j + 1, by omega, by go_num, hG5, hK5⟩
              case measure => simp [intOf]; omega
            · obtain rfl : j = k := by omega
              obtain ⟨q, c, rfl, hq⟩ := hG.form n1
              have hM := hG.toOwn.rd
              have hY := HY.out.later hK
              clear hlt hG
              go_wp2_with fail
              refine (equal_yes (qt (S : Int) v T) _ 0 _ q 0 _ j _ (by omega) hY hM).mono ?_
              rintro e w6 ⟨rfl, hd⟩
              go_wp2
              go_ret
              exact ⟨rfl, (hKW.trans hK).trans hd.kept⟩
  · have nb : (totE N n v != 0) = true := by rw [bne_iff_ne]; exact he
    have HE := Lib.hid he
    by_cases bad : way < 0 ∨ 2 < way
    · have DE := Lib.hid (show dealE way N n v = 1 by unfold dealE; rw [if_pos bad])
      have bb : decide (way < 0) = true ∨ (decide (way < 0) = false ∧ decide (2 < way) = true) := by
        rcases bad with z | z
        · left; simpa using z
        · by_cases y : way < 0
          · left; simpa using y
          · right; exact ⟨by simpa using y, by simpa using z⟩
      clear bad he
      rcases bb with b1 | ⟨b1, b2⟩
      all_goals
        go_enter Try.func3, Try.ntmps3
        go_wp2_with fail
        refine (deal_no way N _ n _ v _ hn hA (by rw [DE.out]; decide)).mono ?_
        rintro e w1 ⟨rfl, rfl⟩
        rw [DE.out]
        go_wp2_with fail
        refine (quotas_no N _ n _ v _ hn hA HE.out).mono ?_
        rintro e w1 ⟨rfl, rfl⟩
        go_wp2_with fail
        refine (rvotes_any N _ n _ v _ hn hA).mono ?_
        rintro e w1 ⟨rfl, rfl⟩
        generalize totE N n v = E at *
        go_wp2
        go_ret
        exact ⟨ret_bool (by simp), Kept.refl _⟩
    · have DE := Lib.hid (show dealE way N n v = totE N n v from dealE_tot (by omega) (by omega))
      have b1 : decide (way < 0) = false := by simp; omega
      have b2 : decide (2 < way) = false := by simp; omega
      clear bad he
      go_enter Try.func3, Try.ntmps3
      go_wp2_with fail
      refine (deal_no way N _ n _ v _ hn hA (by rw [DE.out]; exact HE.out)).mono ?_
      rintro e w1 ⟨rfl, rfl⟩
      rw [DE.out]
      go_wp2_with fail
      refine (quotas_no N _ n _ v _ hn hA HE.out).mono ?_
      rintro e w1 ⟨rfl, rfl⟩
      go_wp2_with fail
      refine (rvotes_any N _ n _ v _ hn hA).mono ?_
      rintro e w1 ⟨rfl, rfl⟩
      have eb : (totE N n v != totE N n v) = false := by simp
      generalize totE N n v = E at *
      go_wp2
      go_ret
      exact ⟨ret_bool (by simp), Kept.refl _⟩

end Go.Proofs.Ytpkdknddncnceaa
