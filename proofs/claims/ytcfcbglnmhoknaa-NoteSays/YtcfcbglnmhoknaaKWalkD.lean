/-
  The reference of loans: Rows (by recursion), Loan, Least bit by bit. No condition but those that each theorem names.
-/
import Derived.Test.YtcfcbglnmhoknaaKWalkB
import Derived.Test.YtcfcbglnmhoknaaKWalkC
import Derived.Test.YtcfcbglnmhoknaaMWalkC
namespace Go.Proofs.Ytcfcbglnmhoknaa
open Go.RowKit Go.WideShapes

theorem RGr.deeper {B B' n : Nat} {w : World} {v : Value} {R : Rw} (a : RGr B w v n R) (h : B' ≤ B) : RGr B' w v n R := by
  refine ⟨a.own.1, ?_⟩
  rcases a.own.2 with h' | ⟨b, cap, cur, rfl, hb, hr⟩
  · exact .inl h'
  · exact .inr ⟨b, cap, cur, rfl, by omega, hr⟩
theorem RGr.litc (w : World) (i o l : Int) (R : Rw) : RGr w.heap.size (w.alloc (.cells #[.int .i64 i, .int .i64 o, .int .i64 l] 30)) (.slice (some ⟨w.heap.size, 0, none⟩) 1 1) 1 (rcons i o l R) := by
  have h := RGr.lit w (rcons i o l R)
  rw [show (rcons i o l R).i 0 = i from rfl, show (rcons i o l R).o 0 = o from rfl, show (rcons i o l R).l 0 = l from rfl] at h
  exact h
/-- The rows, and whether they pay it all. -/
def RRowsPost (w : World) (r pay : Int) (m : Nat) (L : Int) (e : Ending) (w' : World) : Prop :=
  ∃ a c, e = .returned (.tuple #[.slice a (cnt r pay m L) c, .bool (paid L r pay m)]) ∧ RGr w.heap.size w' (.slice a (cnt r pay m L) c) (cnt r pay m L) (rwF r pay L) ∧ Kept w w'
theorem cnt_zero (r pay : Int) (m : Nat) : cnt r pay m 0 = 0 := by cases m <;> simp [cnt]
theorem cnt_succ {r pay L : Int} (m : Nat) (h : L ≠ 0) : cnt r pay (m + 1) L = cnt r pay m (nx r pay L) + 1 := by rw [cnt, if_neg h]
theorem paid_zero {r pay : Int} (hp : 0 ≤ pay) (m : Nat) : paid 0 r pay m = true := by
  unfold paid; rw [decide_eq_true_iff]; exact bal_stay hp 0 rfl m (by omega)
theorem paid_succ (r pay L : Int) (m : Nat) : paid L r pay (m + 1) = paid (nx r pay L) r pay m := by unfold paid; rw [bal_shift]
theorem rcons_same (r pay L : Int) (n : Nat) : (rcons (itR r L) (L - nx r pay L) (nx r pay L) (rwF r pay (nx r pay L))).Same (rwF r pay L) n := by
  intro j _
  cases j with
  | zero => exact ⟨rfl, rfl, rfl⟩
  | succ j =>
    unfold rcons rwF
    simp only [Nat.add_one_ne_zero, if_false, Nat.add_sub_cancel]
    rw [bal_shift r pay L j, bal_shift r pay L (j + 1)]
    exact ⟨rfl, rfl, rfl⟩
set_option maxRecDepth 100000 in
set_option maxHeartbeats 4000000 in
theorem rrows_any (r pay : Int) (r0 : 0 ≤ r) (r1 : r ≤ 1000000) (p1 : 1 ≤ pay) (p2 : pay ≤ 10000000000000) (m : Nat) :
    ∀ (L : Int) (w : World), 0 ≤ L → L ≤ 1000000000000 → itR r L < pay → m ≤ 40 → Calls Try.prog 22 #[.int .i64 L, .int .i64 r, .int .i64 pay, .int .i64 (m : Int)] w (RRowsPost w r pay m L) := by
  induction m with
  | zero =>
    intro L w h0 h1 hi _
    by_cases z : L = 0
    · subst z
      go_enter Try.func22, Try.ntmps22
      go_wp2
      go_ret2
      exact ⟨none, 0, by rw [paid_zero (by omega)]; rfl, RGr.nil _ _ _, Kept.refl w⟩
    · have lz : (L == 0) = false := by rw [beq_eq_false_iff_ne]; exact z
      have P := Lib.hid (show paid L r pay 0 = false by unfold paid; rw [decide_eq_false_iff_not]; exact z)
      clear z
      go_enter Try.func22, Try.ntmps22
      go_wp2
      go_ret2
      exact ⟨none, 0, by rw [P.out]; rfl, RGr.nil _ _ _, Kept.refl w⟩
  | succ m ih =>
    intro L w h0 h1 hi m40
    by_cases z : L = 0
    · subst z
      clear ih
      have C := Lib.hid (cnt_zero r pay (m + 1))
      have P := Lib.hid (paid_zero (r := r) (show 0 ≤ pay by omega) (m + 1))
      go_enter Try.func22, Try.ntmps22
      go_wp2
      go_ret2
      exact ⟨none, 0, by rw [P.out, C.out]; rfl, by rw [C.out]; exact RGr.nil _ _ _, Kept.refl w⟩
    · have lz : (L == 0) = false := by rw [beq_eq_false_iff_ne]; exact z
      have P := Lib.hid (paid_succ r pay L m)
      have C := Lib.hid (cnt_succ (r := r) (pay := pay) m z)
      have cl := cnt_le r pay m (nx r pay L)
      have mb := ar_bd (a := L) (r := r) (by omega) h1 r0 r1
      have i0 := itR_nonneg h0 r0
      have i1 := itR_le h0 r1
      have nx0 := nx_nonneg r pay L
      have nx1 : nx r pay L ≤ L := by unfold nx; omega
      have hi2 := itR_mono nx1 nx0 r0 (Int.le_refl r)
      have IH := Lib.hid (fun w => ih (nx r pay L) w nx0 (by omega) (by omega) (by omega))
      have RR := Lib.hid (fun w => show Calls Try.prog 21 #[.int .i64 (L * r), .int .i64 1000000, .int .i64 2] w (fun e w' => e = .returned (.int .i64 (itR r L)) ∧ w = w') from rround_any (L * r) 1000000 2 w (by omega) (by omega) (by omega) (by omega) (by omega) (by omega))
      have RS := Lib.hid (fun n => rcons_same r pay L n)
      have NX := show nx r pay L = max 0 (L + itR r L - pay) from rfl
      have mz : (((m : Int) + 1) == 0) = false := by rw [beq_eq_false_iff_ne]; omega
      clear ih z hi2 hi
      rw [show ((m + 1 : Nat) : Int) = (m : Int) + 1 by omega]
      generalize itR r L = t at *
      generalize nx r pay L = y at *
      go_enter Try.func22, Try.ntmps22
      go_wp2_with fail
      refine (RR.out _).mono ?_
      rintro e w1 ⟨rfl, rfl⟩
      rcases (show (0 < L + t - pay ∧ y = L + t - pay) ∨ (0 = L + t - pay ∧ y = L + t - pay) ∨ (L + t - pay < 0 ∧ y = 0) by omega) with ⟨q, rfl⟩ | ⟨q, rfl⟩ | ⟨q, rfl⟩
      · clear NX
        go_wp2_with fail
        refine (IH.out _).mono ?_
        rintro e w2 ⟨a, c, rfl, hG, hK⟩
        have hL : RGr w2.heap.size (w2.alloc (.cells #[.int .i64 t, .int .i64 (L - (L + t - pay)), .int .i64 (L + t - pay)] 30)) (.slice (some ⟨w2.heap.size, 0, none⟩) 1 1) 1 (rcons t (L - (L + t - pay)) (L + t - pay) (rwF r pay (L + t - pay))) := RGr.litc w2 _ _ _ _
        have hG2 := hG.alloc (.cells #[.int .i64 t, .int .i64 (L - (L + t - pay)), .int .i64 (L + t - pay)] 30)
        have hK2 := hK.alloc (.cells #[.int .i64 t, .int .i64 (L - (L + t - pay)), .int .i64 (L + t - pay)] 30)
        have le := hK.le
        clear hG hK
        go_wp2_with (at_builtin; refine rapp_cons rfl (.tmp 43) (.tmp 44) rfl (B := w2.heap.size) rfl rfl hL hG2 (by omega) (by simp) ?_)
        intro v' w3 hG3 hgrow
        have hK3 := hL.below le hK2 hgrow
        have hG4 := (hG3.congr (RS.out _)).deeper le
        clear hL hG2 hK2 hgrow hG3
        rw [← C.out] at hG4
        obtain ⟨a', c', rfl⟩ := hG4.form
        go_wp2
        go_ret2
        exact ⟨a', c', by rw [P.out]; rfl, hG4, hK3⟩
      · clear NX
        go_wp2_with fail
        refine (IH.out _).mono ?_
        rintro e w2 ⟨a, c, rfl, hG, hK⟩
        have hL : RGr w2.heap.size (w2.alloc (.cells #[.int .i64 t, .int .i64 (L - (L + t - pay)), .int .i64 (L + t - pay)] 30)) (.slice (some ⟨w2.heap.size, 0, none⟩) 1 1) 1 (rcons t (L - (L + t - pay)) (L + t - pay) (rwF r pay (L + t - pay))) := RGr.litc w2 _ _ _ _
        have hG2 := hG.alloc (.cells #[.int .i64 t, .int .i64 (L - (L + t - pay)), .int .i64 (L + t - pay)] 30)
        have hK2 := hK.alloc (.cells #[.int .i64 t, .int .i64 (L - (L + t - pay)), .int .i64 (L + t - pay)] 30)
        have le := hK.le
        clear hG hK
        go_wp2_with (at_builtin; refine rapp_cons rfl (.tmp 43) (.tmp 44) rfl (B := w2.heap.size) rfl rfl hL hG2 (by omega) (by simp) ?_)
        intro v' w3 hG3 hgrow
        have hK3 := hL.below le hK2 hgrow
        have hG4 := (hG3.congr (RS.out _)).deeper le
        clear hL hG2 hK2 hgrow hG3
        rw [← C.out] at hG4
        obtain ⟨a', c', rfl⟩ := hG4.form
        go_wp2
        go_ret2
        exact ⟨a', c', by rw [P.out]; rfl, hG4, hK3⟩
      · clear NX
        have RS := Lib.hid (fun n => show (rcons t L 0 (rwF r pay 0)).Same (rwF r pay L) n by have := RS.out n; rw [Int.sub_zero] at this; exact this)
        go_wp2_with fail
        refine (IH.out _).mono ?_
        rintro e w2 ⟨a, c, rfl, hG, hK⟩
        have hL : RGr w2.heap.size (w2.alloc (.cells #[.int .i64 t, .int .i64 L, .int .i64 (0)] 30)) (.slice (some ⟨w2.heap.size, 0, none⟩) 1 1) 1 (rcons t L (0) (rwF r pay (0))) := RGr.litc w2 _ _ _ _
        have hG2 := hG.alloc (.cells #[.int .i64 t, .int .i64 L, .int .i64 (0)] 30)
        have hK2 := hK.alloc (.cells #[.int .i64 t, .int .i64 L, .int .i64 (0)] 30)
        have le := hK.le
        clear hG hK
        go_wp2_with (at_builtin; refine rapp_cons rfl (.tmp 43) (.tmp 44) rfl (B := w2.heap.size) rfl rfl hL hG2 (by omega) (by simp) ?_)
        intro v' w3 hG3 hgrow
        have hK3 := hL.below le hK2 hgrow
        have hG4 := (hG3.congr (RS.out _)).deeper le
        clear hL hG2 hK2 hgrow hG3
        rw [← C.out] at hG4
        obtain ⟨a', c', rfl⟩ := hG4.form
        go_wp2
        go_ret2
        exact ⟨a', c', by rw [P.out]; rfl, hG4, hK3⟩

set_option maxHeartbeats 1000000 in
theorem rround_it (L r : Int) (w : World) (h : okL L r = true) : Calls Try.prog 21 #[.int .i64 (L * r), .int .i64 1000000, .int .i64 2] w (fun e w' => e = .returned (.int .i64 (itR r L)) ∧ w = w') := by
  obtain ⟨a0, a1, r0, r1⟩ := (okL_iff L r).1 h
  have mb := ar_bd (a := L) (r := r) (by omega) a1 r0 r1
  exact rround_any (L * r) 1000000 2 w (by omega) (by omega) (by omega) (by omega) (by omega) (by omega)
/-- The test whether a payment suffices, as the reference has it. -/
abbrev rfn (po pr pn : Nat) : Value := .func (.func 23) #[] #[.pointer (some ⟨po, 0, none⟩), .pointer (some ⟨pr, 0, none⟩), .pointer (some ⟨pn, 0, none⟩)]
theorem paid_grows {L r pay : Int} (h : okL L r = true) (n : Nat) (L1 : 0 < L) (hp : pay ≤ itR r L) : paid L r pay n = false := by
  obtain ⟨a0, a1, r0, r1⟩ := (okL_iff L r).1 h
  have := bal_grows a0 r0 hp n
  unfold paid
  rw [decide_eq_false_iff_not]
  omega
set_option maxRecDepth 100000 in
set_option maxHeartbeats 2000000 in
theorem rclo_any (po pr pn n : Nat) (L r pay : Int) (w : World) (h : okL L r = true) (p1 : 1 ≤ pay) (p2 : pay ≤ 10000000000000) (n40 : n ≤ 40) (hB : BoxK w po pr pn L r n) :
    Calls Try.prog 23 #[.int .i64 pay, .pointer (some ⟨po, 0, none⟩), .pointer (some ⟨pr, 0, none⟩), .pointer (some ⟨pn, 0, none⟩)] w fun e w' => e = .returned (.bool (paid L r pay n)) ∧ Kept w w' := by
  obtain ⟨a0, a1, r0, r1⟩ := (okL_iff L r).1 h
  have mb := ar_bd (a := L) (r := r) (by omega) a1 r0 r1
  have c1 := hB.o.cell
  have c2 := hB.r.cell
  have c3 := hB.n.cell
  have RI := Lib.hid (fun w => rround_it L r w h)
  have PG := Lib.hid (paid_grows h n (pay := pay))
  have RW := Lib.hid (fun (hi : itR r L < pay) w => rrows_any r pay r0 r1 p1 p2 n L w a0 a1 hi n40)
  have IZ := Lib.hid (itR_zero r)
  clear hB h
  by_cases L1 : 0 < L
  · by_cases hp : pay ≤ itR r L
    · have F := Lib.hid (PG.out L1 hp)
      generalize paid L r pay n = B at *
      clear PG RW
      generalize itR r L = t at *
      go_enter Try.func23, Try.ntmps23
      go_wp2_with fail
      refine (RI.out _).mono ?_
      rintro e w1 ⟨rfl, rfl⟩
      go_wp2
      go_ret
      exact ⟨ret_bool F.out.symm, Kept.refl w⟩
    · have hi : itR r L < pay := by omega
      have RW2 := Lib.hid (fun w => RW.out hi w)
      clear hp PG RW
      generalize itR r L = t at *
      go_enter Try.func23, Try.ntmps23
      go_wp2_with fail
      refine (RI.out _).mono ?_
      rintro e w1 ⟨rfl, rfl⟩
      go_wp2_with fail
      refine (RW2.out _).mono ?_
      rintro e w2 ⟨a, c, rfl, _, hK⟩
      clear c1 c2 c3
      go_wp2
      go_ret
      exact ⟨rfl, hK⟩
  · obtain rfl : L = 0 := by omega
    have hi : itR r 0 < pay := by rw [IZ.out]; omega
    have RW2 := Lib.hid (fun w => RW.out hi w)
    clear L1 PG RW hi
    go_enter Try.func23, Try.ntmps23
    go_wp2_with fail
    refine (RW2.out _).mono ?_
    rintro e w2 ⟨a, c, rfl, _, hK⟩
    clear c1 c2 c3
    go_wp2
    go_ret
    exact ⟨rfl, hK⟩
/-- A power of two. -/
def Pw (s : Int) : Prop := ∃ k : Nat, s = 2 ^ k
theorem Pw.half {s : Int} (h : Pw s) : 1 ≤ s ∧ (s = 1 ∨ (2 ≤ s ∧ s = 2 * (s / 2) ∧ Pw (s / 2))) := by
  obtain ⟨k, rfl⟩ := h
  have p : (0 : Int) < 2 ^ k := Int.pow_pos (by omega)
  refine ⟨by omega, ?_⟩
  cases k with
  | zero => left; rfl
  | succ k =>
    right
    have q : (0 : Int) < 2 ^ k := Int.pow_pos (by omega)
    have e : (2 : Int) ^ (k + 1) = 2 * 2 ^ k := by rw [Int.pow_succ, Int.mul_comm]
    have d : (2 : Int) ^ (k + 1) / 2 = 2 ^ k := by rw [e]; omega
    exact ⟨by omega, by omega, k, d⟩
theorem pw41 : Pw 2199023255552 := ⟨41, by decide⟩
/-- Where the search stands: it does not pay, and so much more does. -/
structure Bit (L r : Int) (n : Nat) (no step : Int) : Prop where
  lo : 1 ≤ no
  hi : no + 2 * step ≤ 4398046511105
  no' : paid L r no n = false
  at0 : step = 0 → paid L r (no + 1) n = true
  at1 : step ≠ 0 → Pw step ∧ paid L r (no + 2 * step) n = true
theorem Bit.up {L r no step : Int} {n : Nat} (h : Bit L r n no step) (s1 : 0 < step) (k : paid L r (no + step) n = false) : Bit L r n (no + step) (step / 2) := by
  obtain ⟨p, q⟩ := h.at1 (by omega)
  have a := h.lo
  have b := h.hi
  rcases p.half with ⟨_, e | ⟨e1, e2, e3⟩⟩
  · subst e
    exact ⟨by omega, by omega, k, fun _ => by rw [show no + 1 + 1 = no + 2 * 1 by omega]; exact q, fun z => absurd (by decide) z⟩
  · exact ⟨by omega, by omega, k, fun z => by omega, fun _ => ⟨e3, by rw [← e2, show no + step + step = no + 2 * step by omega]; exact q⟩⟩
theorem Bit.down {L r no step : Int} {n : Nat} (h : Bit L r n no step) (s1 : 0 < step) (k : paid L r (no + step) n = true) : Bit L r n no (step / 2) := by
  obtain ⟨p, q⟩ := h.at1 (by omega)
  have a := h.lo
  have b := h.hi
  rcases p.half with ⟨_, e | ⟨e1, e2, e3⟩⟩
  · subst e
    exact ⟨by omega, by omega, h.no', fun _ => k, fun z => absurd (by decide) z⟩
  · exact ⟨by omega, by omega, h.no', fun z => by omega, fun _ => ⟨e3, by rw [← e2]; exact k⟩⟩
theorem paid_once {L r p : Int} {n : Nat} (n1 : 1 ≤ n) (p0 : 0 ≤ p) (h : L + itR r L ≤ p) : paid L r p n = true := by
  unfold paid; rw [decide_eq_true_iff]; exact bal_once n1 p0 h
set_option maxRecDepth 100000 in
set_option maxHeartbeats 2000000 in
theorem rleast_any (L r : Int) (n : Nat) (w : World) (h : okL L r = true) (n1 : 1 ≤ n) (n40 : n ≤ 40) :
    Calls Try.prog 14 #[.int .i64 L, .int .i64 r, .int .i64 (n : Int)] w fun e w' => ∃ p : Int, Lst r L n p ∧ e = .returned (.int .i64 p) ∧ Kept w w' := by
  obtain ⟨a0, a1, r0, r1⟩ := (okL_iff L r).1 h
  have it1 := itR_le a0 r1
  have hK0 := (((Kept.refl w).alloc (.cells #[.int .i64 L] 3)).alloc (.cells #[.int .i64 r] 3)).alloc (.cells #[.int .i64 (n : Int)] 3)
  have B := three_boxesK w L r n
  have C := Lib.hid (fun pay w' k p1 p2 => rclo_any w.heap.size (w.heap.size + 1) (w.heap.size + 2) n L r pay w' h p1 p2 n40 (B.later k))
  have B0 := Lib.hid (fun (k : paid L r 1 n = false) => show Bit L r n 1 2199023255552 from ⟨by omega, by omega, k, fun z => by omega, fun _ => ⟨pw41, paid_once n1 (by omega) (by omega)⟩⟩)
  have E1 := Lib.hid (fun (k : paid L r 1 n = true) => show Lst r L n 1 from Lst.of a0 r0 (by omega) (by unfold paid at k; exact of_decide_eq_true k) (.inl rfl))
  have EN := Lib.hid (fun no (k : Bit L r n no 0) => show Lst r L n (no + 1) from Lst.of a0 r0 (by have := k.lo; omega) (by have := k.at0 rfl; unfold paid at this; exact of_decide_eq_true this) (.inr (by have := k.no'; unfold paid at this; rw [show no + 1 - 1 = no by omega]; exact of_decide_eq_false this)))
  clear h B
  go_enter Try.func14, Try.ntmps14
  go_wp2_with fail
  refine (C.out _ _ (Kept.refl _) (by omega) (by omega)).mono ?_
  rintro e w1 ⟨rfl, hK1⟩
  have hK2 := hK0.trans hK1
  cases k1 : paid L r 1 n
  · have BB := Lib.hid (B0.out k1)
    clear k1
    go_wp2_with fail
    go_loopw [8, 9] (fun x y wr => ∃ no step : Int, 0 ≤ step ∧ step ≤ 2199023255552 ∧ x = .int .i64 no ∧ y = .int .i64 step ∧ Bit L r n no step ∧ Kept w wr ∧ Kept (((w.alloc (.cells #[.int .i64 L] 3)).alloc (.cells #[.int .i64 r] 3)).alloc (.cells #[.int .i64 (n : Int)] 3)) wr) (fun _ y _ => (intOf y).toNat)
    case atStart => exact ⟨1, 2199023255552, by omega, by omega, rfl, rfl, BB.out, hK2, hK1⟩
    case round =>
      clear hK1 hK2 hK0
      obtain ⟨no, step, s0, s1, rfl, rfl, hT, hKa, hKb⟩ := hrel
      have T := Lib.hid hT
      have lo := hT.lo
      have hi := hT.hi
      clear hT
      by_cases z : step = 0
      · subst z
        have LS := Lib.hid (EN.out no T.out)
        clear T
        go_wp2
        go_ret
        exact ⟨no + 1, LS.out, rfl, hKa⟩
      · have sp : 0 < step := by omega
        clear z
        go_wp2_with fail
        refine (C.out _ _ hKb (by omega) (by omega)).mono ?_
        rintro e w2 ⟨rfl, hK3⟩
        have hKa2 := hKa.trans hK3
        have hKb2 := hKb.trans hK3
        clear hKa hKb hK3
        cases k2 : paid L r (no + step) n
        · have T2 := Lib.hid (T.out.up sp k2)
          clear k2
          go_wp2
          go_roundw
          case rel => exact ⟨no + step, step / 2, by omega, by omega, rfl, rfl, T2.out, hKa2, hKb2⟩
          case measure => simp [intOf]; omega
        · have T2 := Lib.hid (T.out.down sp k2)
          clear k2
          go_wp2
          go_roundw
          case rel => exact ⟨no, step / 2, by omega, by omega, rfl, rfl, T2.out, hKa2, hKb2⟩
          case measure => simp [intOf]; omega
  · have LS := Lib.hid (E1.out k1)
    clear k1
    go_wp2
    go_ret
    exact ⟨1, LS.out, rfl, hK2⟩

end Go.Proofs.Ytcfcbglnmhoknaa
