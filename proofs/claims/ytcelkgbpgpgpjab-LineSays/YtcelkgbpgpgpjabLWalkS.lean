/-
  The reference's Digits, Parts with its closure, and Parted with it. No condition but those that each theorem names.
-/
import Derived.Test.YtcelkgbpgpgpjabLWalkR
namespace Go.Proofs.Ytcelkgbpgpgpjab
open Go.RowKit

set_option maxHeartbeats 1000000 in
theorem rdigits_any (n k : Nat) (w : World) (n40 : n ≤ 40) (kn : k ≤ n) :
    Calls Try.prog 26 #[.int .i64 (n : Int), .int .i64 (k : Int)] w fun e w' => e = .returned (.int .i64 (dgK n k)) ∧ w = w' := by
  have Z := Lib.hid (dgK_zero n)
  go_enter Try.func26, Try.ntmps26
  go_wp2_with fail
  go_loop [5, 6] (fun s i => ∃ j : Nat, j ≤ k ∧ i = .int .i64 ((n : Int) - j) ∧ s = .int .i64 (dgK n j)) (fun _ i => (k - (n - intOf i)).toNat)
  case atStart => exact ⟨0, by omega, by simp, by rw [Z.out]⟩
  case round =>
    obtain ⟨j, hj, rfl, rfl⟩ := hrel
    by_cases hlt : j < k
    · have S := Lib.hid (dgK_succ n j (by omega))
      have b := dgK_bd n j
      have b2 := dgA_bd n40
      have d1 : decide ((n : Int) - (k : Int) < (n : Int) - (j : Int)) = true := by simp; omega
      generalize dgK n (j + 1) = y at *
      generalize hx : dgK n j = x at *
      go_wp2
      go_round
      case rel => exact ⟨j + 1, by omega, by go_num, by rw [dgK_succ n j (by omega), hx]⟩
      case measure => simp [intOf]; omega
    · obtain rfl : j = k := by omega
      clear hlt
      go_wp2
      go_ret
      exact ⟨rfl, rfl⟩

/-- The plan that lies in a box. -/
structure PBox (w : World) (p : Nat) (kind a : Int) (n : Nat) : Prop where
  lt : p < w.heap.size
  k : w.cell? ⟨p, 1, none⟩ = some (.int .i64 kind)
  a : w.cell? ⟨p, 3, none⟩ = some (.int .i64 a)
  n : w.cell? ⟨p, 4, none⟩ = some (.int .i64 (n : Int))
theorem PBox.later {w w' : World} {p n : Nat} {kind a : Int} (h : PBox w p kind a n) (k : Kept w w') : PBox w' p kind a n :=
  ⟨Nat.lt_of_lt_of_le h.lt k.le, (k.rd.1 _ _ h.lt).trans h.k, (k.rd.1 _ _ h.lt).trans h.a, (k.rd.1 _ _ h.lt).trans h.n⟩

set_option maxRecDepth 100000 in
set_option maxHeartbeats 1000000 in
theorem pclo_st (p n k : Nat) (a : Int) (w : World) (n1 : 1 ≤ n) (n40 : n ≤ 40) (kn : k ≤ n) (a0 : 0 ≤ a) (a1 : a ≤ 1000000000000) (hB : PBox w p 0 a n) :
    Calls Try.prog 24 #[.int .i64 (k : Int), .pointer (some ⟨p, 0, none⟩)] w fun e w' => e = .returned (.int .i64 (stC a n k)) ∧ Drew w w' := by
  have c1 := hB.k
  have c2 := hB.a
  have c3 := hB.n
  have m := ak_bd a k a0 a1 (by omega)
  clear hB
  go_enter Try.func24, Try.ntmps24
  go_wp2_with fail
  refine (rround_any _ _ _ _ (by omega) (by omega) (by omega) (by omega) (by omega) (by omega)).mono ?_
  rintro e w1 ⟨rfl, rfl⟩
  go_wp2
  go_ret
  exact ⟨rfl, Drew.refl _⟩
set_option maxRecDepth 100000 in
set_option maxHeartbeats 1000000 in
theorem pclo_dg (p n k : Nat) (a : Int) (w : World) (n1 : 1 ≤ n) (n40 : n ≤ 40) (kn : k ≤ n) (a0 : 0 ≤ a) (a1 : a ≤ 1000000000000) (hB : PBox w p 1 a n) :
    Calls Try.prog 24 #[.int .i64 (k : Int), .pointer (some ⟨p, 0, none⟩)] w fun e w' => e = .returned (.int .i64 (dgC a n k)) ∧ Drew w w' := by
  have c1 := hB.k
  have c2 := hB.a
  have c3 := hB.n
  have b := dgK_bd n k
  have b2 := dgA_bd n40
  have b3 := dgA_pos n1
  have m := ad_bd a (dgK n k) a0 a1 b.1 (by omega)
  have D1 := Lib.hid (fun w => rdigits_any n k w n40 kn)
  have D2 := Lib.hid (fun w => rdigits_any n n w n40 (Nat.le_refl n))
  have R := Lib.hid (fun w => rround_any (a * dgK n k) (dgA n) 2 w (by omega) (by omega) (by omega) (by omega) (by omega) (by omega))
  have E := Lib.hid (show rnd (a * dgK n k) (dgA n) 2 = dgC a n k from rfl)
  rw [dgK_all] at D2
  generalize dgC a n k = V at *
  generalize dgK n k = x at *
  generalize dgA n = y at *
  generalize rnd (a * x) y 2 = V' at *
  clear hB
  go_enter Try.func24, Try.ntmps24
  go_wp2_with fail
  go_quiet (first | (go_at_call 26; first | with_reducible exact quiet_same (D1.out _) | with_reducible exact quiet_same (D2.out _)) | (go_at_call 25; exact quiet_same (R.out _)))
  go_wp2
  go_ret
  exact ⟨ret_int E.out, _, rfl⟩

/-- The plan that the law hands in. -/
def plan (kind a : Int) (n : Nat) : Value := .agg #[.string .empty, .int .i64 kind, .int .i64 0, .int .i64 a, .int .i64 (n : Int), .string .empty, .string .empty]
def planObj (kind a : Int) (n : Nat) : Obj := .cells #[.string .empty, .int .i64 kind, .int .i64 0, .int .i64 a, .int .i64 (n : Int), .string .empty, .string .empty] 30
theorem PBox.new (w : World) (kind a : Int) (n : Nat) : PBox (w.alloc (planObj kind a n)) w.heap.size kind a n := by
  unfold planObj
  constructor <;> simp

set_option maxRecDepth 100000 in
set_option maxHeartbeats 4000000 in
theorem parted_st (p n : Nat) (a : Int) (w : World) (n1 : 1 ≤ n) (n40 : n ≤ 40) (a0 : 0 ≤ a) (a1 : a ≤ 1000000000000) (hB : PBox w p 0 a n) :
    Calls Try.prog 23 #[.int .i64 (n : Int), .func (.func 24) #[] #[.pointer (some ⟨p, 0, none⟩)]] w (PartedPost w n (dif (stC a n))) := by
  have C := Lib.hid (fun (k : Nat) (w1 : World) (kn : k ≤ n) (hK : Kept w w1) => pclo_st p n k a w1 n1 n40 kn a0 a1 (hB.later hK))
  have BD := Lib.hid (fun (k : Nat) (kn : k ≤ n) => stC_bd a n k n1 a0 kn)
  have EP := Lib.hid (fun (k : Nat) => show stC a n (k + 1) - stC a n k = dif (stC a n) k from rfl)
  clear hB
  go_enter Try.func23, Try.ntmps23
  go_wp2_with fail
  refine (C.out 0 _ (by omega) (Kept.refl w)).mono ?_
  rintro e w1 ⟨rfl, hd⟩
  have hK1 := hd.kept
  clear hd
  go_wp2_with fail
  go_loopw [5, 6, 7] (fun v x i wr => ∃ j : Nat, j ≤ n ∧ i = .int .i64 ((j : Int) + 1) ∧ x = .int .i64 (stC a n j) ∧ Gr w.heap.size wr v j (dif (stC a n)) ∧ Kept w wr) (fun _ _ i _ => (n + 1 - intOf i).toNat)
  case atStart => exact ⟨0, by omega, rfl, rfl, Gr.nil _ _ _, hK1⟩
  case round =>
    clear hK1
    obtain ⟨j, hj, rfl, rfl, hG, hK⟩ := hrel
    by_cases hlt : j < n
    · have b1 := BD.out j hj
      have b2 := BD.out (j + 1) hlt
      go_wp2_with fail
      refine (C.out (j + 1) _ hlt hK).mono ?_
      rintro e w2 ⟨rfl, hd⟩
      have hK2 := hK.trans hd.kept
      have hG2 := hG.ofDrew hd
      clear hK hG hd
      go_wp2_with (at_builtin; refine app_one rfl (.tmp 15) (.tmp 21) rfl (B := w.heap.size) (z := stC a n (j + 1) - stC a n j) rfl rfl (hG2.alloc _) (by simp) (by omega) (by have := hK2.size; simp; omega) ?_)
      intro v' w3 hG' hgrow _
      have hK3 := (hG2.alloc _).below (Nat.le_refl _) (hK2.alloc _) hgrow
      have hG3 := hG'.congr (h := dif (stC a n)) (fun t _ => by
        unfold up
        by_cases e : t = j
        · rw [if_pos e, e]; exact EP.out j
        · rw [if_neg e])
      clear hG' hgrow hG2 hK2
      go_wp2_with fail
      refine (C.out (j + 1) _ hlt hK3).mono ?_
      rintro e w4 ⟨rfl, hd⟩
      have hK4 := hK3.trans hd.kept
      have hG4 := hG3.ofDrew hd
      clear hK3 hG3 hd
      go_wp2
      go_roundw
      case rel => exact ⟨j + 1, by omega, by go_num, rfl, hG4, hK4⟩
      case measure => simp [intOf]; omega
    · obtain rfl : j = n := by omega
      obtain ⟨ad, cp, rfl, hAr⟩ := hG.arg
      clear hlt hj
      go_wp2
      go_ret
      exact ⟨ad, cp, rfl, hAr, hK⟩
set_option maxRecDepth 100000 in
set_option maxHeartbeats 1000000 in
theorem rparts_st (n : Nat) (a : Int) (w : World) (n1 : 1 ≤ n) (n40 : n ≤ 40) (a0 : 0 ≤ a) (a1 : a ≤ 1000000000000) :
    Calls Try.prog 11 #[plan 0 a n] w (PartedPost w n (dif (stC a n))) := by
  have hB := PBox.new w 0 a n
  have hK0 := (Kept.refl w).alloc (planObj 0 a n)
  unfold planObj at hB hK0
  have c3 := hB.n
  unfold plan
  go_enter Try.func11, Try.ntmps11
  go_wp2_with fail
  refine (parted_st _ n a _ n1 n40 a0 a1 hB).mono ?_
  rintro e w1 ⟨ad, cp, rfl, hA, hK⟩
  have hK1 := hK0.trans hK
  clear hK hK0 hB c3
  go_wp2
  go_ret
  exact ⟨ad, cp, rfl, hA, hK1⟩

set_option maxRecDepth 100000 in
set_option maxHeartbeats 4000000 in
theorem parted_dg (p n : Nat) (a : Int) (w : World) (n1 : 1 ≤ n) (n40 : n ≤ 40) (a0 : 0 ≤ a) (a1 : a ≤ 1000000000000) (hB : PBox w p 1 a n) :
    Calls Try.prog 23 #[.int .i64 (n : Int), .func (.func 24) #[] #[.pointer (some ⟨p, 0, none⟩)]] w (PartedPost w n (dif (dgC a n))) := by
  have C := Lib.hid (fun (k : Nat) (w1 : World) (kn : k ≤ n) (hK : Kept w w1) => pclo_dg p n k a w1 n1 n40 kn a0 a1 (hB.later hK))
  have BD := Lib.hid (fun (k : Nat) (kn : k ≤ n) => dgC_bd a n k n1 a0 kn)
  have EP := Lib.hid (fun (k : Nat) => show dgC a n (k + 1) - dgC a n k = dif (dgC a n) k from rfl)
  clear hB
  go_enter Try.func23, Try.ntmps23
  go_wp2_with fail
  refine (C.out 0 _ (by omega) (Kept.refl w)).mono ?_
  rintro e w1 ⟨rfl, hd⟩
  have hK1 := hd.kept
  clear hd
  go_wp2_with fail
  go_loopw [5, 6, 7] (fun v x i wr => ∃ j : Nat, j ≤ n ∧ i = .int .i64 ((j : Int) + 1) ∧ x = .int .i64 (dgC a n j) ∧ Gr w.heap.size wr v j (dif (dgC a n)) ∧ Kept w wr) (fun _ _ i _ => (n + 1 - intOf i).toNat)
  case atStart => exact ⟨0, by omega, rfl, rfl, Gr.nil _ _ _, hK1⟩
  case round =>
    clear hK1
    obtain ⟨j, hj, rfl, rfl, hG, hK⟩ := hrel
    by_cases hlt : j < n
    · have b1 := BD.out j hj
      have b2 := BD.out (j + 1) hlt
      go_wp2_with fail
      refine (C.out (j + 1) _ hlt hK).mono ?_
      rintro e w2 ⟨rfl, hd⟩
      have hK2 := hK.trans hd.kept
      have hG2 := hG.ofDrew hd
      clear hK hG hd
      go_wp2_with (at_builtin; refine app_one rfl (.tmp 15) (.tmp 21) rfl (B := w.heap.size) (z := dgC a n (j + 1) - dgC a n j) rfl rfl (hG2.alloc _) (by simp) (by omega) (by have := hK2.size; simp; omega) ?_)
      intro v' w3 hG' hgrow _
      have hK3 := (hG2.alloc _).below (Nat.le_refl _) (hK2.alloc _) hgrow
      have hG3 := hG'.congr (h := dif (dgC a n)) (fun t _ => by
        unfold up
        by_cases e : t = j
        · rw [if_pos e, e]; exact EP.out j
        · rw [if_neg e])
      clear hG' hgrow hG2 hK2
      go_wp2_with fail
      refine (C.out (j + 1) _ hlt hK3).mono ?_
      rintro e w4 ⟨rfl, hd⟩
      have hK4 := hK3.trans hd.kept
      have hG4 := hG3.ofDrew hd
      clear hK3 hG3 hd
      go_wp2
      go_roundw
      case rel => exact ⟨j + 1, by omega, by go_num, rfl, hG4, hK4⟩
      case measure => simp [intOf]; omega
    · obtain rfl : j = n := by omega
      obtain ⟨ad, cp, rfl, hAr⟩ := hG.arg
      clear hlt hj
      go_wp2
      go_ret
      exact ⟨ad, cp, rfl, hAr, hK⟩
set_option maxRecDepth 100000 in
set_option maxHeartbeats 1000000 in
theorem rparts_dg (n : Nat) (a : Int) (w : World) (n1 : 1 ≤ n) (n40 : n ≤ 40) (a0 : 0 ≤ a) (a1 : a ≤ 1000000000000) :
    Calls Try.prog 11 #[plan 1 a n] w (PartedPost w n (dif (dgC a n))) := by
  have hB := PBox.new w 1 a n
  have hK0 := (Kept.refl w).alloc (planObj 1 a n)
  unfold planObj at hB hK0
  have c3 := hB.n
  unfold plan
  go_enter Try.func11, Try.ntmps11
  go_wp2_with fail
  refine (parted_dg _ n a _ n1 n40 a0 a1 hB).mono ?_
  rintro e w1 ⟨ad, cp, rfl, hA, hK⟩
  have hK1 := hK0.trans hK
  clear hK hK0 hB c3
  go_wp2
  go_ret
  exact ⟨ad, cp, rfl, hA, hK1⟩

end Go.Proofs.Ytcelkgbpgpgpjab
