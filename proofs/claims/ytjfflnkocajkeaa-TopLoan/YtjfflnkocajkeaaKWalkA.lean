/-
  What package note's interest and Rows return. No condition but those that each theorem names.
-/
import Derived.Test.YtjfflnkocajkeaaKBase
namespace Go.Proofs.Ytjfflnkocajkeaa
open Go.RowKit

/-- A loan that may be. -/
def okL (L r : Int) : Bool := decide (0 ≤ L ∧ L ≤ 1000000000000 ∧ 0 ≤ r ∧ r ≤ 1000000)
theorem okL_iff (L r : Int) : okL L r = true ↔ (0 ≤ L ∧ L ≤ 1000000000000 ∧ 0 ≤ r ∧ r ≤ 1000000) := by unfold okL; exact decide_eq_true_iff
set_option maxHeartbeats 400000 in
theorem intr_yes (L r : Int) (w : World) (h : okL L r = true) :
    Calls Try.prog 66 #[.int .i64 L, .int .i64 r] w fun e w' => e = .returned (.tuple #[.int .i64 (itR r L), .int .i64 0]) ∧ Kept w w' := by
  obtain ⟨a, b, c, d⟩ := (okL_iff L r).1 h
  have O := Lib.hid ((okM_iff L r 2).2 ⟨⟨by omega, b⟩, ⟨c, d⟩, by omega, by omega⟩)
  clear h
  go_enter Try.func66, Try.ntmps66
  go_wp2_with fail
  refine (share_yes _ _ _ _ O.out).mono ?_
  rintro e w1 ⟨rfl, hK⟩
  go_wp2
  go_ret2
  exact ⟨rfl, hK⟩
set_option maxHeartbeats 400000 in
theorem intr_no (L r : Int) (w : World) (h : okL L r = false) :
    Calls Try.prog 66 #[.int .i64 L, .int .i64 r] w fun e w' => e = .returned (.tuple #[.int .i64 0, .int .i64 1]) ∧ Kept w w' := by
  by_cases a : L < 0
  · clear h
    go_enter Try.func66, Try.ntmps66
    go_wp2
    go_ret2
    exact ⟨rfl, Kept.refl w⟩
  · have O : okM L r 2 = false := by
      cases e : okM L r 2
      · rfl
      · obtain ⟨b, c, _⟩ := (okM_iff L r 2).1 e
        rw [(okL_iff L r).2 (by omega)] at h
        cases h
    have O' := Lib.hid O
    have a' : 0 ≤ L := by omega
    clear h O a
    go_enter Try.func66, Try.ntmps66
    go_wp2_with fail
    refine (share_no _ _ _ _ O'.out).mono ?_
    rintro e w1 ⟨rfl, hK⟩
    go_wp2
    go_ret2
    exact ⟨rfl, hK⟩

/-- The error of P24. -/
def erL (L r pay : Int) : Int := if okL L r = true ∧ 1 ≤ pay ∧ pay ≤ 2000000000000 then (if 0 < L ∧ pay ≤ itR r L then 7 else if bal r pay L 40 = 0 then 0 else 2) else 1
theorem erL_yes {L r pay : Int} (h : erL L r pay = 0) : okL L r = true ∧ 1 ≤ pay ∧ pay ≤ 2000000000000 ∧ itR r L < pay ∧ bal r pay L 40 = 0 := by
  unfold erL at h
  split at h
  · rename_i a
    obtain ⟨x0, _, _, _⟩ := (okL_iff L r).1 a.1
    split at h
    · omega
    · rename_i b
      split at h
      · rename_i c
        refine ⟨a.1, a.2.1, a.2.2, ?_, c⟩
        by_cases z : L = 0
        · subst z; rw [itR_zero]; omega
        · omega
      · omega
  · omega
theorem erL_of {L r pay : Int} (h : okL L r = true) (p1 : 1 ≤ pay) (p2 : pay ≤ 2000000000000) (hi : itR r L < pay) (hb : bal r pay L 40 = 0) : erL L r pay = 0 := by
  unfold erL; rw [if_pos ⟨h, p1, p2⟩, if_neg (by omega), if_pos hb]
/-- The rows, in a new row. -/
def RowsYes (w : World) (L r pay : Int) (e : Ending) (w' : World) : Prop :=
  ∃ a c, e = .returned (.tuple #[.slice a (cnt r pay 40 L) c, .int .i64 0]) ∧ RGr w.heap.size w' (.slice a (cnt r pay 40 L) c) (cnt r pay 40 L) (rwF r pay L) ∧ Kept w w'
/-- None, and an error. -/
def RowsNo (w : World) (er : Int) (e : Ending) (w' : World) : Prop := e = .returned (.tuple #[.slice none 0 0, .int .i64 er]) ∧ Kept w w'
theorem min_nx {r pay x : Int} (x0 : 0 < x) (r0 : 0 ≤ r) : (pay - itR r x < x ∧ nx r pay x = x - (pay - itR r x)) ∨ (pay - itR r x = x ∧ nx r pay x = 0) ∨ (x < pay - itR r x ∧ nx r pay x = 0) := by
  have := itR_nonneg (L := x) (by omega) r0
  unfold nx; omega
set_option maxRecDepth 100000 in
set_option maxHeartbeats 4000000 in
/-- Paid more than the interest: the rows, or too many. -/
theorem rows_go (L r pay : Int) (w : World) (h : okL L r = true) (p1 : 1 ≤ pay) (p2 : pay ≤ 2000000000000) (hi : itR r L < pay) :
    Calls Try.prog 30 #[.int .i64 L, .int .i64 r, .int .i64 pay] w fun e w' => (bal r pay L 40 = 0 ∧ RowsYes w L r pay e w') ∨ (bal r pay L 40 ≠ 0 ∧ RowsNo w 2 e w') := by
  obtain ⟨a0, a1, r0, r1⟩ := (okL_iff L r).1 h
  have H := Lib.hid h
  have BF := Lib.hid (fun k => bal_falls a0 r0 hi k)
  have BN := Lib.hid (fun k => bal_nonneg r pay a0 k)
  have BS := Lib.hid (fun k (z : bal r pay L k ≠ 0) => min_nx (pay := pay) (x := bal r pay L k) (by have := BN.out k; omega) r0)
  have BE := Lib.hid (fun k => show bal r pay L (k + 1) = nx r pay (bal r pay L k) from rfl)
  have CF := Lib.hid (fun k (hk : k ≤ 40) (z : bal r pay L k = 0) hj => cnt_first (r := r) (pay := pay) (k := k) 40 L hk z hj)
  have ST := Lib.hid (fun k (hk : k ≤ 40) (z : bal r pay L k = 0) => bal_stay (by omega) k z 40 hk)
  have IN := Lib.hid (fun k => itR_nonneg (L := bal r pay L k) (BN.out k) r0)
  have RF := Lib.hid (fun k => show (rwF r pay L).i k = itR r (bal r pay L k) ∧ (rwF r pay L).o k = bal r pay L k - bal r pay L (k + 1) ∧ (rwF r pay L).l k = bal r pay L (k + 1) from ⟨rfl, rfl, rfl⟩)
  clear h hi
  go_enter Try.func30, Try.ntmps30
  go_wp2_with fail
  refine (intr_yes _ _ _ H.out).mono ?_
  rintro e w1 ⟨rfl, hK1⟩
  go_wp2
  go_loopw [10, 11] (fun v x wr => ∃ k : Nat, k ≤ 40 ∧ x = .int .i64 (bal r pay L k) ∧ RGr w.heap.size wr v k (rwF r pay L) ∧ Kept w wr ∧ ∀ j, j < k → bal r pay L j ≠ 0) (fun _ x _ => (intOf x).toNat)
  case atStart => exact ⟨0, by omega, rfl, RGr.nil _ _ _, hK1, fun j hj => by omega⟩
  case round =>
    clear hK1
    obtain ⟨k, hk, rfl, hG, hK, hj⟩ := hrel
    have HJ := Lib.hid hj
    clear hj
    obtain ⟨ad, cp, rfl⟩ := hG.form
    have bf := BF.out k
    have bn := BN.out k
    by_cases hz : bal r pay L k = 0
    · have Z := Lib.hid hz
      have C := Lib.hid (CF.out k hk hz HJ.out)
      clear bf bn
      rw [hz]
      clear hz
      go_wp2
      go_ret2
      refine .inl ⟨ST.out k hk Z.out, ad, cp, ?_, ?_, hK⟩
      · rw [C.out]; rfl
      · rw [C.out]; exact hG
    · have Z := Lib.hid hz
      have cs := BS.out k hz
      have be := BE.out k
      have inn := IN.out k
      have x0 : 0 < bal r pay L k := by omega
      have OK := Lib.hid ((okL_iff (bal r pay L k) r).2 ⟨bn, by omega, r0, r1⟩)
      have RK := RF.out k
      clear hz
      rw [← be] at cs
      generalize hy : bal r pay L (k + 1) = y at *
      have HY := Lib.hid hy
      clear hy
      by_cases h40 : k = 40
      · subst h40
        generalize hx : bal r pay L 40 = x at *
        have HX := Lib.hid hx
        clear cs be hx
        go_wp2_with fail
        refine (intr_yes _ _ _ OK.out).mono ?_
        rintro e w2 ⟨rfl, hK2⟩
        generalize itR r x = t at *
        go_wp2
        go_ret2
        exact .inr ⟨by rw [HX.out]; exact Z.out, rfl, hK.trans hK2⟩
      · have nk : ((k : Int) == 40) = false := by rw [beq_eq_false_iff_ne]; omega
        generalize hx : bal r pay L k = x at *
        have HX := Lib.hid hx
        clear be hx
        go_wp2_with fail
        refine (intr_yes _ _ _ OK.out).mono ?_
        rintro e w2 ⟨rfl, hK2⟩
        have hG2 := hG.later hK2
        have hK3 := hK.trans hK2
        clear hG hK hK2
        generalize itR r x = t at *
        obtain ⟨ri, ro, rl⟩ := RK
        have RI := Lib.hid ri
        have RO := Lib.hid ro
        have RL := Lib.hid rl
        clear ri ro rl
        rcases cs with ⟨c1, c2⟩ | ⟨c1, c2⟩ | ⟨c1, c2⟩
        case' inl => have mn : min (pay - t) x = pay - t := by omega
        case' inr.inl => have mn : min (pay - t) x = x := by omega
        case' inr.inr => have mn : min (pay - t) x = x := by omega
        all_goals
          have C2 := Lib.hid c2
          clear c2
          go_wp2_with (at_builtin; refine rapp_one rfl (.tmp 53) (.tmp 58) rfl (B := w.heap.size) rfl rfl (hG2.alloc _) (by rw [RI.out]; simp) (by rw [RO.out, C2.out]; simp; try omega) (by rw [RL.out, C2.out]; simp; try omega) (by omega) (by have := hK3.size; simp; omega) ?_)
          intro v' w3 hG3 hgrow
          have hK4 := (hG2.alloc _).below (Nat.le_refl _) (hK3.alloc _) hgrow
          clear hG2 hK3 hgrow
          go_wp2
          go_roundw
          case rel => exact ⟨k + 1, by omega, by rw [HY.out, C2.out], hG3, hK4, fun j hj => by
            by_cases e : j = k
            · subst e; rw [HX.out]; exact Z.out
            · exact HJ.out j (by omega)⟩
          case measure => simp [intOf]; omega

set_option maxRecDepth 100000 in
set_option maxHeartbeats 2000000 in
/-- No more than the first interest. -/
theorem rows_sum (L r pay : Int) (w : World) (h : okL L r = true) (p1 : 1 ≤ pay) (p2 : pay ≤ 2000000000000) (L1 : 0 < L) (hi : pay ≤ itR r L) :
    Calls Try.prog 30 #[.int .i64 L, .int .i64 r, .int .i64 pay] w (RowsNo w 7) := by
  have H := Lib.hid h
  clear h
  go_enter Try.func30, Try.ntmps30
  go_wp2_with fail
  refine (intr_yes _ _ _ H.out).mono ?_
  rintro e w1 ⟨rfl, hK1⟩
  go_wp2
  go_loopw [11] (fun x wr => x = .int .i64 L ∧ Kept w wr) (fun _ _ => 0)
  case atStart => exact ⟨rfl, hK1⟩
  case round =>
    clear hK1
    obtain ⟨rfl, hK⟩ := hrel
    go_wp2_with fail
    refine (intr_yes _ _ _ H.out).mono ?_
    rintro e w2 ⟨rfl, hK2⟩
    go_wp2
    go_ret2
    exact ⟨rfl, hK.trans hK2⟩
set_option maxHeartbeats 1000000 in
theorem rows_bad (L r pay : Int) (w : World) (h : okL L r = false) :
    Calls Try.prog 30 #[.int .i64 L, .int .i64 r, .int .i64 pay] w (RowsNo w 1) := by
  have H := Lib.hid h
  clear h
  go_enter Try.func30, Try.ntmps30
  go_wp2_with fail
  refine (intr_no _ _ _ H.out).mono ?_
  rintro e w1 ⟨rfl, hK1⟩
  go_wp2
  go_ret2
  exact ⟨rfl, hK1⟩
set_option maxHeartbeats 1000000 in
theorem rows_pay (L r pay : Int) (w : World) (h : okL L r = true) (hp : ¬ (1 ≤ pay ∧ pay ≤ 2000000000000)) :
    Calls Try.prog 30 #[.int .i64 L, .int .i64 r, .int .i64 pay] w (RowsNo w 1) := by
  have H := Lib.hid h
  clear h
  rcases (show pay < 1 ∨ (¬ pay < 1 ∧ 2000000000000 < pay) by omega) with p | ⟨p, q⟩
  · clear hp
    go_enter Try.func30, Try.ntmps30
    go_wp2_with fail
    refine (intr_yes _ _ _ H.out).mono ?_
    rintro e w1 ⟨rfl, hK1⟩
    go_wp2
    go_ret2
    exact ⟨rfl, hK1⟩
  · have p' : decide (pay < 1) = false := by simpa using p
    clear hp p
    go_enter Try.func30, Try.ntmps30
    go_wp2_with fail
    refine (intr_yes _ _ _ H.out).mono ?_
    rintro e w1 ⟨rfl, hK1⟩
    go_wp2
    go_ret2
    exact ⟨rfl, hK1⟩
/-- Rows: the rows, or the error. -/
theorem rows_any (L r pay : Int) (w : World) :
    Calls Try.prog 30 #[.int .i64 L, .int .i64 r, .int .i64 pay] w fun e w' => (erL L r pay = 0 ∧ RowsYes w L r pay e w') ∨ (erL L r pay ≠ 0 ∧ RowsNo w (erL L r pay) e w') := by
  cases h : okL L r
  · have E : erL L r pay = 1 := by unfold erL; rw [h]; simp
    refine (rows_bad L r pay w h).mono fun e w' k => .inr ⟨by rw [E]; omega, by rw [E]; exact k⟩
  · by_cases p : 1 ≤ pay ∧ pay ≤ 2000000000000
    · by_cases c : 0 < L ∧ pay ≤ itR r L
      · have E : erL L r pay = 7 := by unfold erL; rw [if_pos ⟨h, p⟩, if_pos c]
        refine (rows_sum L r pay w h p.1 p.2 c.1 c.2).mono fun e w' k => .inr ⟨by rw [E]; omega, by rw [E]; exact k⟩
      · obtain ⟨a0, _⟩ := (okL_iff L r).1 h
        have hi : itR r L < pay := by
          by_cases z : L = 0
          · subst z; rw [itR_zero]; omega
          · omega
        refine (rows_go L r pay w h p.1 p.2 hi).mono fun e w' k => ?_
        rcases k with ⟨b, k⟩ | ⟨b, k⟩
        · exact .inl ⟨erL_of h p.1 p.2 hi b, k⟩
        · have E : erL L r pay = 2 := by unfold erL; rw [if_pos ⟨h, p⟩, if_neg c, if_neg b]
          exact .inr ⟨by rw [E]; omega, by rw [E]; exact k⟩
    · have E : erL L r pay = 1 := by unfold erL; rw [if_neg (fun z => p z.2)]
      refine (rows_pay L r pay w h p).mono fun e w' k => .inr ⟨by rw [E]; omega, by rw [E]; exact k⟩
theorem rows_yes (L r pay : Int) (w : World) (h : erL L r pay = 0) : Calls Try.prog 30 #[.int .i64 L, .int .i64 r, .int .i64 pay] w (RowsYes w L r pay) :=
  (rows_any L r pay w).mono fun _ _ k => by
    rcases k with ⟨_, k⟩ | ⟨n, _⟩
    · exact k
    · exact absurd h n
theorem rows_no (L r pay : Int) (w : World) (h : erL L r pay ≠ 0) : Calls Try.prog 30 #[.int .i64 L, .int .i64 r, .int .i64 pay] w (RowsNo w (erL L r pay)) :=
  (rows_any L r pay w).mono fun _ _ k => by
    rcases k with ⟨n, _⟩ | ⟨_, k⟩
    · exact absurd n h
    · exact k

end Go.Proofs.Ytjfflnkocajkeaa
