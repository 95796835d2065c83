/-
  What the functions of package frac return: Check, checkBoth, size, commonDivisor, lowest, bounded, Norm, Add, Mul, Cmp. No condition but the bounds that each theorem names.
-/
import Derived.Test.YtkbbofpjelgiiaaRows
import Derived.Test.YtkbbofpjelgiiaaFMath
import Derived.WalkKit
import Derived.WalkSpells
import Derived.WalkLawsBesides
import Derived.Deep.QuietTactic
import Derived.BigQuiet
import Derived.Lib.Hide
import Derived.Deep.RegionHeld3
import Derived.IntWalk
import Derived.BigRegion
namespace Go.Proofs.Ytkbbofpjelgiiaa
open Go.RowKit

/-- Nothing that was there has turned. -/
def Kept (w w' : World) : Prop := Below w.heap.size w w'
theorem Kept.refl (w : World) : Kept w w := Below.refl _ _
theorem Kept.trans {a b c : World} (h : Kept a b) (k : Kept b c) : Kept a c := Below.trans h (Below.mono k h.size)
/-- Old cells and old marks read as before. -/
theorem Kept.rd {W w1 : World} (hb : Kept W w1) : (∀ b o, b < W.heap.size → w1.cell? ⟨b, o, none⟩ = W.cell? ⟨b, o, none⟩) ∧ (∀ b o, b < W.heap.size → w1.frozen? ⟨b, o, none⟩ = W.frozen? ⟨b, o, none⟩) :=
  ⟨fun b o h => Below.cell hb (p := ⟨b, o, none⟩) h, fun b o h => Below.frozen hb (p := ⟨b, o, none⟩) h⟩
theorem Kept.le {W w1 : World} (hb : Kept W w1) : W.heap.size ≤ w1.heap.size := hb.size
theorem Kept.alloc {a w : World} (h : Kept a w) (o : Obj) : Kept a (w.alloc o) := Below.alloc h h.size o
theorem Kept.drew {a w : World} (h : Kept a w) : Kept a w.drew := Below.drew h
theorem Kept.drewN {a w : World} (h : Kept a w) (n : Nat) : Kept a (w.drewN n) := below_drewN h n
theorem Kept.setCell {a w : World} (h : Kept a w) {p : Addr} (hp : a.heap.size ≤ p.block) (u : Value) : Kept a (w.setCell p u) := Below.setCell h hp u
theorem Kept.setAt {a w : World} (h : Kept a w) {b i : Nat} (hb : a.heap.size ≤ b) (u : Value) : Kept a (w.setCell ⟨b, i, none⟩ u) := h.setCell hb u
theorem ret_bool {a b : Bool} (h : a = b) : Ending.returned (.bool a) = .returned (.bool b) := by rw [h]
theorem ret_int {a b : Int} (h : a = b) : Ending.returned (.int .i64 a) = .returned (.int .i64 b) := by rw [h]
theorem quiet_same {P : Program} {f : FuncId} {args : Array Value} {w : World} {n : Nat} {v : Value}
    (h : Calls P f args (w.drewN n) fun e w' => e = .returned v ∧ w.drewN n = w') : Calls P f args (w.drewN n) fun e w'' => e = .returned v ∧ ∃ m, w'' = w.drewN m :=
  h.mono fun _ _ ⟨he, hm⟩ => ⟨he, n, hm.symm⟩

/-- A fraction as the program holds it. -/
abbrev fr2 (n d : Int) : Value := .agg #[.int .i64 n, .int .i64 d]
/-- Two numbers lie at a place, and may be written there. -/
structure Box2 (w : World) (p : Nat) (n d : Int) : Prop where
  lt : p < w.heap.size
  c0 : w.cell? ⟨p, 0, none⟩ = some (.int .i64 n)
  c1 : w.cell? ⟨p, 1, none⟩ = some (.int .i64 d)
  f0 : w.frozen? ⟨p, 0, none⟩ = false
  f1 : w.frozen? ⟨p, 1, none⟩ = false
theorem Box2.later {w w' : World} {p : Nat} {n d : Int} (h : Box2 w p n d) (k : Kept w w') : Box2 w' p n d :=
  ⟨Nat.lt_of_lt_of_le h.lt k.le, (k.rd.1 _ _ h.lt).trans h.c0, (k.rd.1 _ _ h.lt).trans h.c1, (k.rd.2 _ _ h.lt).trans h.f0, (k.rd.2 _ _ h.lt).trans h.f1⟩
theorem Box2.new {w : World} {p : Nat} {n d : Int} {t : TypeId} (hp : w.heap.size = p) : Box2 (w.alloc (.cells #[.int .i64 n, .int .i64 d] t)) p n d := by
  subst hp; constructor <;> simp
theorem Box2.alloc {w : World} {p : Nat} {n d : Int} (h : Box2 w p n d) (o : Obj) : Box2 (w.alloc o) p n d := h.later ((Kept.refl w).alloc o)
theorem Box2.drewN {w : World} {p : Nat} {n d : Int} (h : Box2 w p n d) (m : Nat) : Box2 (w.drewN m) p n d := ⟨h.lt, h.c0, h.c1, h.f0, h.f1⟩
theorem Box2.drew {w : World} {p : Nat} {n d : Int} (h : Box2 w p n d) : Box2 w.drew p n d := ⟨h.lt, h.c0, h.c1, h.f0, h.f1⟩
/-- Written whole. -/
theorem Box2.set {w : World} {p : Nat} {n d n' d' : Int} (h : Box2 w p n d) : Box2 ((w.setCell ⟨p, 0, none⟩ (.int .i64 n')).setCell ⟨p, 1, none⟩ (.int .i64 d')) p n' d' := by
  obtain ⟨lt, c0, c1, f0, f1⟩ := h
  constructor
  · simpa using lt
  · go_simp
  · go_simp
  · go_simp
  · go_simp
/-- .. and others beside it. -/
theorem Box2.other {w : World} {p r : Nat} {n d : Int} {i : Nat} {v : Value} (h : Box2 w p n d) (hr : r ≠ p) : Box2 (w.setCell ⟨r, i, none⟩ v) p n d := by
  obtain ⟨lt, c0, c1, f0, f1⟩ := h
  have hr' : p ≠ r := fun e => hr e.symm
  constructor
  · simpa using lt
  · go_simp
  · go_simp
  · go_simp
  · go_simp

set_option maxHeartbeats 400000 in
theorem check_any (n d : Int) (w : World) :
    Calls Try.prog 16 #[fr2 n d] w fun e w' => e = .returned (.int .i64 (chk n d)) ∧ Kept w w' := by
  by_cases hd : d = 0
  · subst hd
    go_enter Try.func16, Try.ntmps16
    go_wp2
    go_ret
    exact ⟨ret_int (by simp [chk]), (Kept.refl w).alloc _⟩
  · have hb : (d == 0) = false := by simp [hd]
    cases ho : okB n d
    · have e : chk n d = 1 := by unfold chk; rw [if_neg hd, ho]; simp
      have ho' : ¬ (-1000000000000 ≤ n ∧ n ≤ 1000000000000 ∧ 1 ≤ d ∧ d ≤ 1000000) := by rw [← ok_iff, ho]; simp
      rw [e]
      clear e ho
      rcases (show n < -1000000000000 ∨ (-1000000000000 ≤ n ∧ 1000000000000 < n) ∨ (-1000000000000 ≤ n ∧ n ≤ 1000000000000 ∧ d < 1) ∨ (-1000000000000 ≤ n ∧ n ≤ 1000000000000 ∧ 1 ≤ d ∧ 1000000 < d) by omega) with h | ⟨h1, h2⟩ | ⟨h1, h2, h3⟩ | ⟨h1, h2, h3, h4⟩
      all_goals
        clear ho' hd
        go_enter Try.func16, Try.ntmps16
        go_wp2
        go_ret
        exact ⟨rfl, (Kept.refl w).alloc _⟩
    · rw [chk_ok ho]
      obtain ⟨h1, h2, h3, h4⟩ := (ok_iff n d).1 ho
      clear ho hd
      go_enter Try.func16, Try.ntmps16
      go_wp2
      go_ret
      exact ⟨rfl, (Kept.refl w).alloc _⟩

set_option maxHeartbeats 400000 in
theorem size_any (n : Int) (w : World) (h0 : -4000000000000000000 ≤ n) (h1 : n ≤ 4000000000000000000) :
    Calls Try.prog 30 #[.int .i64 n] w fun e w' => e = .returned (.int .i64 n.natAbs) ∧ w = w' := by
  rcases (show n < 0 ∨ n = 0 ∨ 0 < n by omega) with h | h | h
  · go_enter Try.func30, Try.ntmps30
    go_wp2
    all_goals go_ret
    all_goals exact ⟨ret_int (by omega), rfl⟩
  · subst h
    go_enter Try.func30, Try.ntmps30
    go_wp2
    all_goals go_ret
    all_goals exact ⟨ret_int (by omega), rfl⟩
  · go_enter Try.func30, Try.ntmps30
    go_wp2
    all_goals go_ret
    all_goals exact ⟨ret_int (by omega), rfl⟩

/-- One step of Euclid's. -/
theorem gcd_step (a b : Int) (ha : 0 ≤ a) (hb : 0 < b) : Nat.gcd b.toNat (a % b).toNat = Nat.gcd a.toNat b.toNat := by
  have e : (a % b).toNat = a.toNat % b.toNat := by
    rw [Int.toNat_emod ha (by omega)]
  rw [e, Nat.gcd_comm, ← Nat.gcd_rec, Nat.gcd_comm]
theorem emod_bd (a b : Int) (hb : 0 < b) : 0 ≤ a % b ∧ a % b < b := ⟨Int.emod_nonneg _ (by omega), Int.emod_lt_of_pos _ hb⟩

/-- At most draws. -/
def Drew (w w' : World) : Prop := ∃ m, w' = w.drewN m
theorem Drew.kept {w w' : World} (h : Drew w w') : Kept w w' := by obtain ⟨m, rfl⟩ := h; exact (Kept.refl w).drewN m
theorem Drew.refl (w : World) : Drew w w := ⟨0, rfl⟩
theorem Drew.drew {w w' : World} (h : Drew w w') : Drew w w'.drew := by
  obtain ⟨m, rfl⟩ := h; exact ⟨m + 1, rfl⟩
theorem quiet_drew {P : Program} {f : FuncId} {args : Array Value} {w : World} {n : Nat} {v : Value}
    (h : Calls P f args (w.drewN n) fun e w' => e = .returned v ∧ Drew (w.drewN n) w') : Calls P f args (w.drewN n) fun e w'' => e = .returned v ∧ ∃ m, w'' = w.drewN m :=
  h.mono fun _ _ ⟨he, m, hm⟩ => ⟨he, n + m, by rw [hm, World.drewN_drewN]⟩

set_option maxHeartbeats 400000 in
theorem euclid_any (a b : Int) (w : World) (ha : 0 ≤ a) (ha1 : a ≤ 4000000000000000000) (hb : 0 ≤ b) (hb1 : b ≤ 4000000000000000000) :
    Calls Try.prog 38 #[.int .i64 a, .int .i64 b] w fun e w' => e = .returned (.int .i64 (Nat.gcd a.toNat b.toNat : Nat)) ∧ Drew w w' := by
  go_enter Try.func38, Try.ntmps38
  go_wp2
  go_loopw [0, 1] (fun s t wr => ∃ x y : Int, 0 ≤ x ∧ x ≤ 4000000000000000000 ∧ 0 ≤ y ∧ y ≤ 4000000000000000000 ∧ s = .int .i64 x ∧ t = .int .i64 y ∧ Nat.gcd x.toNat y.toNat = Nat.gcd a.toNat b.toNat ∧ Drew w wr) (fun _ t _ => (intOf t).toNat)
  case atStart => exact ⟨a, b, ha, ha1, hb, hb1, rfl, rfl, rfl, Drew.refl w⟩
  case round =>
    obtain ⟨x, y, x0, x1, y0, y1, rfl, rfl, hg, hw⟩ := hrel
    have HG := Lib.hid hg
    clear hg
    by_cases hy : y = 0
    · subst hy
      go_wp2
      go_ret
      exact ⟨ret_int (by have := HG.out; simp at this; rw [← this]; omega), hw⟩
    · have hyb : (y == 0) = false := by simp [hy]
      have hyn : (y != 0) = true := by simp [hy]
      have hy2 : 0 < y := by omega
      have hm := emod_bd x y hy2
      have HS := Lib.hid (gcd_step x y x0 hy2)
      clear hy
      go_wp2
      go_region
      all_goals (try go_wp2)
      all_goals
        go_roundw
        case rel => exact ⟨y, x % y, by omega, by omega, by omega, by omega, rfl, rfl, by rw [HS.out]; exact HG.out, hw.drew⟩
        case measure => simp [intOf]; omega

set_option maxHeartbeats 1000000 in
theorem lowest_any (n d : Int) (w : World) (h0 : -4000000000000000000 ≤ n) (h1 : n ≤ 4000000000000000000) (hd : 1 ≤ d) (hd1 : d ≤ 4000000000000000000) :
    Calls Try.prog 27 #[fr2 n d] w fun e w' => e = .returned (fr2 (lN n d) (lD n d)) ∧ Kept w w' := by
  have g := gcd_pos n d hd
  have gd : Nat.gcd d.toNat n.natAbs ≤ 4000000000000000000 := by
    have := Nat.gcd_le_left n.natAbs (show 0 < d.toNat by omega)
    omega
  have b := lN_bd n d _ hd h0 h1
  have c := lD_bd n d hd
  have c0 := lD_pos n d
  have T1 := Lib.hid (lN_tdiv n d hd)
  have T2 := Lib.hid (lD_div n d hd)
  have E : Nat.gcd n.natAbs d.toNat = Nat.gcd d.toNat n.natAbs := Nat.gcd_comm _ _
  have HE := Lib.hid E
  clear E
  go_enter Try.func27, Try.ntmps27
  go_wp2
  go_quiet (first | (go_at_call 30; exact quiet_same (size_any _ _ h0 h1)) | (go_at_call 38; exact quiet_drew (euclid_any _ _ _ (by omega) (by omega) (by omega) (by omega))))
  simp only [Int.toNat_natCast]
  rw [HE.out]
  clear HE
  generalize Nat.gcd d.toNat n.natAbs = G at *
  have g' : (1 : Int) ≤ (G : Int) := by omega
  have gz : ((G : Int) == 0) = false := by rw [beq_eq_false_iff_ne]; omega
  go_wp2
  go_region
  rw [T1.out, T2.out]
  go_wp2
  exact bodyPost_ret (v := fr2 (lN n d) (lD n d)) (by simp [results, Try.results27, go_sem]) rfl ⟨rfl, (((((Kept.refl w).alloc _).alloc _).drewN _).setCell (by simp) _).setCell (by simp) _⟩

set_option maxHeartbeats 400000 in
theorem checkBoth_any (a b c d : Int) (w : World) :
    Calls Try.prog 28 #[fr2 a b, fr2 c d] w fun e w' => e = .returned (.int .i64 (chk2 a b c d)) ∧ Kept w w' := by
  unfold chk2
  by_cases h : chk a b = 0
  · rw [if_pos h]
    have H := Lib.hid h
    clear h
    go_enter Try.func28, Try.ntmps28
    go_wp2_with fail
    refine (check_any _ _ _).mono ?_
    rintro e w1 ⟨rfl, hk1⟩
    rw [H.out]
    obtain ⟨lt, c0, c1, f0, f1⟩ := (Box2.new (w := w.alloc (.cells #[.int .i64 a, .int .i64 b] 23)) (p := w.heap.size + 1) (n := c) (d := d) (t := 23) (by simp)).later hk1
    go_wp2_with fail
    refine (check_any _ _ _).mono ?_
    rintro e w2 ⟨rfl, hk2⟩
    go_wp2
    go_ret
    exact ⟨rfl, (((Kept.refl w).alloc _).alloc _).trans (hk1.trans hk2)⟩
  · rw [if_neg h]
    have hn : (chk a b != 0) = true := by simp [h]
    clear h
    go_enter Try.func28, Try.ntmps28
    go_wp2_with fail
    refine (check_any _ _ _).mono ?_
    rintro e w1 ⟨rfl, hk1⟩
    go_wp2
    go_ret
    exact ⟨rfl, (((Kept.refl w).alloc _).alloc _).trans hk1⟩

/-- Of two boxes, the one a struct that came in, the other one the result's: both read on. -/
theorem two_new (w : World) (a b c d : Int) (t : TypeId) : Box2 ((w.alloc (.cells #[.int .i64 a, .int .i64 b] t)).alloc (.cells #[.int .i64 c, .int .i64 d] t)) w.heap.size a b ∧ Box2 ((w.alloc (.cells #[.int .i64 a, .int .i64 b] t)).alloc (.cells #[.int .i64 c, .int .i64 d] t)) (w.heap.size + 1) c d ∧ Kept w ((w.alloc (.cells #[.int .i64 a, .int .i64 b] t)).alloc (.cells #[.int .i64 c, .int .i64 d] t)) :=
  ⟨(Box2.new rfl).alloc _, Box2.new (by simp), ((Kept.refl w).alloc _).alloc _⟩

set_option maxHeartbeats 400000 in
theorem bounded_yes (n d : Int) (w : World) (h : okB n d = true) :
    Calls Try.prog 29 #[fr2 n d] w fun e w' => e = .returned (.tuple #[fr2 n d, .int .i64 0]) ∧ Kept w w' := by
  have H := Lib.hid (chk_ok h)
  clear h
  go_enter Try.func29, Try.ntmps29
  go_wp2_with fail
  refine (check_any _ _ _).mono ?_
  rintro e w1 ⟨rfl, hk1⟩
  rw [H.out]
  obtain ⟨hA, hB, hK⟩ := two_new w n d 0 0 23
  obtain ⟨lt, c0, c1, f0, f1⟩ := hA.later hk1
  obtain ⟨lt', z0, z1, g0, g1⟩ := hB.later hk1
  have hk := hK.trans hk1
  clear hA hB hK hk1
  go_wp2
  exact bodyPost_ret (v := .tuple #[fr2 n d, .int .i64 0]) (by simp [results, Try.results29, go_sem, z0, z1]) rfl ⟨rfl, (hk.setCell (by simp) _).setCell (by simp) _⟩

set_option maxHeartbeats 400000 in
theorem bounded_no (n d : Int) (w : World) (h : okB n d = false) :
    Calls Try.prog 29 #[fr2 n d] w fun e w' => e = .returned (.tuple #[fr2 0 0, .int .i64 2]) ∧ Kept w w' := by
  have hn : (chk n d != 0) = true := by
    rw [bne_iff_ne]; intro e; rw [chk_iff, h] at e; cases e
  clear h
  go_enter Try.func29, Try.ntmps29
  go_wp2_with fail
  refine (check_any _ _ _).mono ?_
  rintro e w1 ⟨rfl, hk1⟩
  obtain ⟨hA, hB, hK⟩ := two_new w n d 0 0 23
  obtain ⟨lt, c0, c1, f0, f1⟩ := hA.later hk1
  obtain ⟨lt', z0, z1, g0, g1⟩ := hB.later hk1
  have hk := hK.trans hk1
  clear hA hB hK hk1
  go_wp2
  exact bodyPost_ret (v := .tuple #[fr2 0 0, .int .i64 2]) (by simp [results, Try.results29, go_sem, z0, z1]) rfl ⟨rfl, (hk.setCell (by simp) _).setCell (by simp) _⟩

theorem bounded_any (n d : Int) (w : World) :
    Calls Try.prog 29 #[fr2 n d] w fun e w' => e = .returned (.tuple #[fr2 (bN n d) (bD n d), .int .i64 (bE n d)]) ∧ Kept w w' := by
  unfold bN bD bE
  cases h : okB n d
  · exact bounded_no n d w h
  · exact bounded_yes n d w h

end Go.Proofs.Ytkbbofpjelgiiaa
