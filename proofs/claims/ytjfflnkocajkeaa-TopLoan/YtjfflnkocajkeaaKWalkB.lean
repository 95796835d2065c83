/-
  What package note's Least returns: the closure, the search by halves, the smallest payment. No condition but those that each theorem names.
-/
import Derived.Test.YtjfflnkocajkeaaKWalkA
namespace Go.Proofs.Ytjfflnkocajkeaa
open Go.RowKit

/-- The boxes that the closure has captured. -/
structure BoxK (w : World) (po pr pn : Nat) (L r : Int) (n : Nat) : Prop where
  o : SlBox w po (.int .i64 L)
  r : SlBox w pr (.int .i64 r)
  n : SlBox w pn (.int .i64 n)
theorem BoxK.later {w w' : World} {po pr pn n : Nat} {L r : Int} (h : BoxK w po pr pn L r n) (k : Kept w w') : BoxK w' po pr pn L r n := ⟨h.o.later k, h.r.later k, h.n.later k⟩
/-- Is it paid by n rows? -/
def paid (L r pay : Int) (n : Nat) : Bool := decide (bal r pay L n = 0)
theorem paid_no {L r pay : Int} {n : Nat} (h : okL L r = true) (p1 : 1 ≤ pay) (p2 : pay ≤ 2000000000000) (n40 : n ≤ 40) (e : erL L r pay ≠ 0) : paid L r pay n = false := by
  obtain ⟨a0, a1, r0, r1⟩ := (okL_iff L r).1 h
  unfold paid
  rw [decide_eq_false_iff_not]
  intro z
  apply e
  have z40 := bal_stay (by omega) n z 40 n40
  have hi : itR r L < pay := by
    by_cases c : itR r L < pay
    · exact c
    · have := bal_grows a0 r0 (show pay ≤ itR r L by omega) n
      by_cases l0 : L = 0
      · subst l0; rw [itR_zero] at *; omega
      · omega
  exact erL_of h p1 p2 hi z40
theorem paid_yes {L r pay : Int} {n : Nat} (e : erL L r pay = 0) : paid L r pay n = decide (cnt r pay 40 L ≤ n) := by
  obtain ⟨_, p1, _, _, b⟩ := erL_yes e
  have := cnt_iff (show 0 ≤ pay by omega) 40 n b
  unfold paid
  rw [decide_eq_decide, this]
set_option maxRecDepth 100000 in
set_option maxHeartbeats 1000000 in
theorem lclo_anyK (po pr pn n : Nat) (L r pay : Int) (w : World) (h : okL L r = true) (p1 : 1 ≤ pay) (p2 : pay ≤ 2000000000000) (n40 : n ≤ 40) (hB : BoxK w po pr pn L r n) :
    Calls Try.prog 68 #[.int .i64 pay, .pointer (some ⟨po, 0, none⟩), .pointer (some ⟨pr, 0, none⟩), .pointer (some ⟨pn, 0, none⟩)] w fun e w' => e = .returned (.bool (paid L r pay n)) ∧ Kept w w' := by
  have c1 := hB.o.cell
  have c2 := hB.r.cell
  have HB := Lib.hid hB
  clear hB
  by_cases e0 : erL L r pay = 0
  · have PY := Lib.hid (paid_yes (n := n) e0)
    have E := Lib.hid e0
    generalize paid L r pay n = B at *
    clear e0
    have cl := cnt_le r pay 40 L
    go_enter Try.func68, Try.ntmps68
    go_wp2_with fail
    refine (rows_yes _ _ _ _ E.out).mono ?_
    rintro e w1 ⟨a, c, rfl, hG, hK⟩
    have c3 := (HB.out.later hK).n.cell
    clear hG c1 c2
    generalize cnt r pay 40 L = m at *
    go_wp2
    go_ret
    exact ⟨ret_bool (by rw [PY.out, decide_eq_decide]), hK⟩
  · have PN := Lib.hid (paid_no h p1 p2 n40 e0)
    have E := Lib.hid e0
    have nz : (erL L r pay == 0) = false := by rw [beq_eq_false_iff_ne]; exact e0
    have RN := Lib.hid (fun w => rows_no L r pay w e0)
    generalize paid L r pay n = B at *
    generalize erL L r pay = er at *
    clear e0
    go_enter Try.func68, Try.ntmps68
    go_wp2_with fail
    refine (RN.out _).mono ?_
    rintro e w1 ⟨rfl, hK⟩
    clear c1 c2
    go_wp2
    go_ret
    exact ⟨ret_bool (by rw [PN.out]), hK⟩
/-- The test, as a function value. -/
abbrev lfn (po pr pn : Nat) : Value := .func (.func 68) #[] #[.pointer (some ⟨po, 0, none⟩), .pointer (some ⟨pr, 0, none⟩), .pointer (some ⟨pn, 0, none⟩)]
set_option maxRecDepth 100000 in
set_option maxHeartbeats 1000000 in
theorem sclo_any (bs po pr pn n : Nat) (L r i : Int) (w : World) (h : okL L r = true) (p1 : 0 ≤ i) (p2 : i + 1 ≤ 2000000000000) (n40 : n ≤ 40) (hB : BoxK w po pr pn L r n) (hS : SlBox w bs (lfn po pr pn)) :
    Calls Try.prog 117 #[.int .i64 i, .pointer (some ⟨bs, 0, none⟩)] w fun e w' => e = .returned (.bool (paid L r (i + 1) n)) ∧ Kept w w' := by
  have c1 := hS.cell
  have C := Lib.hid (fun w' (k : Kept w w') => lclo_anyK po pr pn n L r (i + 1) w' h (by omega) p2 n40 (hB.later k))
  clear hB hS
  generalize paid L r (i + 1) n = B at *
  go_enter Try.func117, Try.ntmps117
  go_wp2_with fail
  refine (C.out _ (Kept.refl w)).mono ?_
  rintro e w1 ⟨rfl, hK⟩
  go_wp2
  go_ret
  exact ⟨rfl, hK⟩
theorem half_bdK (i j : Int) (h : i < j) : i ≤ (i + j) / 2 ∧ (i + j) / 2 < j := by omega
set_option maxRecDepth 100000 in
set_option maxHeartbeats 2000000 in
/-- The search by halves: all before it do not pay, and it does, if it is not the end. -/
theorem search_any (bs po pr pn n : Nat) (L r m : Int) (w : World) (h : okL L r = true) (m0 : 0 ≤ m) (m1 : m ≤ 2000000000000) (n40 : n ≤ 40) (hB : BoxK w po pr pn L r n) (hS : SlBox w bs (lfn po pr pn)) :
    Calls Try.prog 116 #[.int .i64 m, .func (.func 117) #[] #[.pointer (some ⟨bs, 0, none⟩)]] w fun e w' =>
      ∃ i : Int, 0 ≤ i ∧ i ≤ m ∧ e = .returned (.int .i64 i) ∧ (∀ x, 0 ≤ x → x < i → paid L r (x + 1) n = false) ∧ (i < m → paid L r (i + 1) n = true) ∧ Kept w w' := by
  obtain ⟨a0, a1, r0, r1⟩ := (okL_iff L r).1 h
  have MO := Lib.hid (fun (x y : Int) (xy : x ≤ y) (e : paid L r (y + 1) n = false) => show paid L r (x + 1) n = false by
    unfold paid at *
    rw [decide_eq_false_iff_not] at *
    have := bal_mono (p := y + 1) (q := x + 1) a0 (Int.le_refl L) r0 (Int.le_refl r) (by omega) n
    have z := bal_nonneg r (y + 1) a0 n
    omega)
  have C := Lib.hid (fun (i : Int) (w' : World) (k : Kept w w') (p1 : 0 ≤ i) (p2 : i < m) => sclo_any bs po pr pn n L r i w' h p1 (by omega) n40 (hB.later k) (hS.later k))
  clear hB hS h
  go_enter Try.func116, Try.ntmps116
  go_wp2
  go_loopw [5, 6] (fun a b wr => ∃ i j : Int, 0 ≤ i ∧ i ≤ j ∧ j ≤ m ∧ a = .int .i64 i ∧ b = .int .i64 j ∧ (∀ x, 0 ≤ x → x < i → paid L r (x + 1) n = false) ∧ (j < m → paid L r (j + 1) n = true) ∧ Kept w wr) (fun a b _ => (intOf b - intOf a).toNat)
  case atStart => exact ⟨0, m, by omega, m0, by omega, rfl, rfl, fun x hx hy => by omega, fun hx => by omega, Kept.refl w⟩
  case round =>
    obtain ⟨i, j, hi, hij, hj, rfl, rfl, F, T, hK⟩ := hrel
    have FF := Lib.hid F
    have TT := Lib.hid T
    clear F T
    by_cases lt : i < j
    · obtain ⟨h0, h1⟩ := half_bdK i j lt
      go_wp2_with fail
      refine (C.out _ _ hK (by omega) (by omega)).mono ?_
      rintro e w1 ⟨rfl, hK1⟩
      have hK2 := hK.trans hK1
      clear hK hK1
      generalize (i + j) / 2 = q at *
      cases hp : paid L r (q + 1) n
      · have HP := Lib.hid hp
        clear hp
        go_wp2
        go_roundw
        case rel => exact ⟨q + 1, j, by omega, by omega, hj, rfl, rfl, fun x _ hx => MO.out x q (by omega) HP.out, TT.out, hK2⟩
        case measure => simp [intOf]; omega
      · have HP := Lib.hid hp
        clear hp
        go_wp2
        go_roundw
        case rel => exact ⟨i, q, hi, h0, by omega, rfl, rfl, FF.out, fun _ => HP.out, hK2⟩
        case measure => simp [intOf]; omega
    · obtain rfl : i = j := by omega
      clear lt
      go_wp2
      go_ret
      exact ⟨i, hi, hj, rfl, FF.out, TT.out, hK⟩

set_option maxRecDepth 100000 in
set_option maxHeartbeats 1000000 in
theorem smallest_any (po pr pn n : Nat) (L r m : Int) (w : World) (h : okL L r = true) (m0 : 0 ≤ m) (m1 : m ≤ 2000000000000) (n40 : n ≤ 40) (hB : BoxK w po pr pn L r n) :
    Calls Try.prog 67 #[.int .i64 m, lfn po pr pn] w fun e w' =>
      ∃ i : Int, 0 ≤ i ∧ i ≤ m ∧ e = .returned (.int .i64 (1 + i)) ∧ (∀ x, 0 ≤ x → x < i → paid L r (x + 1) n = false) ∧ (i < m → paid L r (i + 1) n = true) ∧ Kept w w' := by
  have hK0 := (Kept.refl w).alloc (.cells #[lfn po pr pn] 82)
  have hS : SlBox (w.alloc (.cells #[lfn po pr pn] 82)) w.heap.size (lfn po pr pn) := SlBox.new rfl
  have C := Lib.hid (search_any w.heap.size po pr pn n L r m _ h m0 m1 n40 (hB.later hK0) hS)
  clear hB hS
  go_enter Try.func67, Try.ntmps67
  go_wp2_with fail
  refine C.out.mono ?_
  rintro e w1 ⟨i, i0, i1, rfl, F, T, hK⟩
  have FF := Lib.hid F
  have TT := Lib.hid T
  have hK1 := hK0.trans hK
  clear F T hK hK0
  go_wp2
  go_ret
  exact ⟨i, i0, i1, rfl, FF.out, TT.out, hK1⟩
theorem three_boxesK (w : World) (L r : Int) (n : Nat) :
    BoxK (((w.alloc (.cells #[.int .i64 L] 3)).alloc (.cells #[.int .i64 r] 3)).alloc (.cells #[.int .i64 (n : Int)] 3)) w.heap.size (w.heap.size + 1) (w.heap.size + 2) L r n :=
  ⟨(SlBox.new rfl).later (((Kept.refl _).alloc _).alloc _), (SlBox.new (by simp)).later ((Kept.refl _).alloc _), SlBox.new (by simp)⟩
theorem lst_of {L r i : Int} {n : Nat} (h : okL L r = true) (n1 : 1 ≤ n) (i0 : 0 ≤ i) (i1 : i ≤ L + itR r L) (F : ∀ x, 0 ≤ x → x < i → paid L r (x + 1) n = false) (T : i < L + itR r L → paid L r (i + 1) n = true) : Lst r L n (1 + i) := by
  obtain ⟨a0, a1, r0, r1⟩ := (okL_iff L r).1 h
  have it0 := itR_nonneg a0 r0
  refine ⟨by omega, ?_, fun q q1 hq e => ?_⟩
  · by_cases c : i < L + itR r L
    · have := T c
      unfold paid at this
      rw [decide_eq_true_iff, Int.add_comm] at this
      exact this
    · exact bal_once n1 (by omega) (by omega)
  · have := F (q - 1) (by omega) (by omega)
    unfold paid at this
    rw [decide_eq_false_iff_not, show q - 1 + 1 = q by omega] at this
    exact this e
/-- Least: the smallest payment. -/
def LeastYes (w : World) (L r : Int) (n : Nat) (e : Ending) (w' : World) : Prop := ∃ p : Int, Lst r L n p ∧ p ≤ 2000000000000 ∧ e = .returned (.tuple #[.int .i64 p, .int .i64 0]) ∧ Kept w w'
set_option maxRecDepth 100000 in
set_option maxHeartbeats 2000000 in
theorem least_yes (L r : Int) (n : Nat) (w : World) (h : okL L r = true) (n1 : 1 ≤ n) (n40 : n ≤ 40) :
    Calls Try.prog 29 #[.int .i64 L, .int .i64 r, .int .i64 (n : Int)] w (LeastYes w L r n) := by
  obtain ⟨a0, a1, r0, r1⟩ := (okL_iff L r).1 h
  have H := Lib.hid h
  have LO := Lib.hid (fun i i0 i1 F T => lst_of (L := L) (r := r) (i := i) (n := n) h n1 i0 i1 F T)
  have TP := Lib.hid (fun p (k : Lst r L n p) => k.top n1 a0 r0)
  have B := three_boxesK w L r n
  have hK0 := (((Kept.refl w).alloc (.cells #[.int .i64 L] 3)).alloc (.cells #[.int .i64 r] 3)).alloc (.cells #[.int .i64 (n : Int)] 3)
  have it0 := itR_nonneg a0 r0
  have it1 := itR_le a0 r1
  have i1 : (1 : Int) ≤ (n : Int) := by omega
  have i2 : (n : Int) ≤ 40 := by omega
  clear h
  go_enter Try.func29, Try.ntmps29
  go_wp2_with fail
  refine (intr_yes _ _ _ H.out).mono ?_
  rintro e w1 ⟨rfl, hK1⟩
  have B1 := B.later hK1
  have hK2 := hK0.trans hK1
  clear B hK0 hK1
  have c0 := B1.o.cell
  have c2 := B1.n.cell
  go_wp2_with fail
  refine (smallest_any _ _ _ n L r _ _ H.out (by omega) (by omega) n40 B1).mono ?_
  rintro e w2 ⟨i, j0, j1, rfl, F, T, hK3⟩
  have LS := Lib.hid (LO.out i j0 j1 F T)
  have hK4 := hK2.trans hK3
  have tp := TP.out _ LS.out
  have TB := Lib.hid (show 1 + i ≤ 2000000000000 by omega)
  clear F T hK2 hK3 B1 c0 c2 tp
  go_wp2
  go_ret2
  exact ⟨1 + i, LS.out, TB.out, rfl, hK4⟩
set_option maxHeartbeats 1000000 in
theorem least_no (L r n : Int) (w : World) (h : okL L r = false ∨ n < 1 ∨ 40 < n) :
    Calls Try.prog 29 #[.int .i64 L, .int .i64 r, .int .i64 n] w fun e w' => e = .returned (.tuple #[.int .i64 0, .int .i64 1]) ∧ Kept w w' := by
  have hK0 := (((Kept.refl w).alloc (.cells #[.int .i64 L] 3)).alloc (.cells #[.int .i64 r] 3)).alloc (.cells #[.int .i64 n] 3)
  have hB : SlBox (((w.alloc (.cells #[.int .i64 L] 3)).alloc (.cells #[.int .i64 r] 3)).alloc (.cells #[.int .i64 n] 3)) (w.heap.size + 2) (.int .i64 n) := SlBox.new (by simp)
  cases a : okL L r
  · have H := Lib.hid a
    clear h a
    go_enter Try.func29, Try.ntmps29
    go_wp2_with fail
    refine (intr_no _ _ _ H.out).mono ?_
    rintro e w1 ⟨rfl, hK1⟩
    go_wp2
    go_ret2
    exact ⟨rfl, hK0.trans hK1⟩
  · have H := Lib.hid a
    have h' : n < 1 ∨ (1 ≤ n ∧ 40 < n) := by
      rw [a] at h; rcases h with h | h
      · cases h
      · omega
    clear h a
    rcases h' with h | ⟨h1, h⟩
    all_goals
      go_enter Try.func29, Try.ntmps29
      go_wp2_with fail
      refine (intr_yes _ _ _ H.out).mono ?_
      rintro e w1 ⟨rfl, hK1⟩
      have c2 := (hB.later hK1).cell
      go_wp2
      go_ret2
      exact ⟨rfl, hK0.trans hK1⟩

end Go.Proofs.Ytjfflnkocajkeaa
