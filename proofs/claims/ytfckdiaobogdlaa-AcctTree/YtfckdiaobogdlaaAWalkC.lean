/-
  What the library's slices.Equal, Contains, ContainsFunc and IsSorted return at rows of texts. No condition but those that each theorem names.
-/
import Derived.Test.YtfckdiaobogdlaaAMath
namespace Go.Proofs.Ytfckdiaobogdlaa
open Go.RowKit
set_option linter.unusedVariables false

set_option maxHeartbeats 2000000 in
theorem tequal_yes (l : List ByteArray) (a b : Option Addr) (n cap cap' : Nat) (w : World) (hn : l.length ≤ 1000) (e : l.length = n) (hR : TArg w a l) (hQ : TArg w b l) :
    Calls Try.prog 8 #[.slice a n cap, .slice b n cap'] w fun e w' => e = .returned (.bool true) ∧ Drew w w' := by
  have HR := Lib.hid hR
  have HQ := Lib.hid hQ
  have HE := Lib.hid e
  have hn' : n ≤ 1000 := by omega
  clear hR hQ e hn
  go_enter Try.func8, Try.ntmps8
  go_wp2
  go_loopw [13] (fun i wr => ∃ k m : Nat, k ≤ n ∧ i = .int .i64 k ∧ wr = w.drewN m) (fun i _ => (n - intOf i).toNat)
  case atStart => exact ⟨0, 0, by omega, rfl, rfl⟩
  case round =>
    obtain ⟨k, m, hk, rfl, rfl⟩ := hrel
    by_cases hlt : k < n
    · have hl : k < l.length := by rw [HE.out]; exact hlt
      obtain ⟨p, off, rfl, hp⟩ := HR.out.at hl
      obtain ⟨q, off', rfl, hq⟩ := HQ.out.at hl
      have c0 := hp.c k hl
      have d0 := hq.c k hl
      clear hp hq
      generalize l[k] = x at *
      clear hl
      have i0 : (0 : Int) ≤ (k : Int) := by omega
      have i1 : (k : Int) < (n : Int) := by omega
      go_wp2_with fail
      go_quiet (fail)
      go_wp2
      go_roundw
      case rel => exact ⟨k + 1, _, by omega, by go_num, rfl⟩
      case measure => simp [intOf]; omega
    · obtain rfl : k = n := by omega
      clear hlt
      go_wp2
      go_ret
      exact ⟨rfl, m, rfl⟩
theorem any_snoc {P : ByteArray → Bool} {l : List ByteArray} {k : Nat} (h : k < l.length) (a : (l.take k).any P = false) (b : P l[k] = false) : (l.take (k + 1)).any P = false := by
  rw [List.take_succ_eq_append_getElem h, List.any_append, a]; simp [b]
theorem any_at {P : ByteArray → Bool} {l : List ByteArray} {k : Nat} (h : k < l.length) (b : P l[k] = true) : l.any P = true := by
  rw [List.any_eq_true]; exact ⟨_, List.getElem_mem _, b⟩
/-- A place, if there is one; else -1. -/
def PlaceOf (b : Bool) (w : World) (e : Ending) (w' : World) : Prop := ∃ n : Int, e = .returned (.int .i64 n) ∧ decide (0 ≤ n) = b ∧ w = w'
set_option maxHeartbeats 2000000 in
theorem tindex_any (c : ByteArray) (l : List ByteArray) (a : Option Addr) (cap : Nat) (w : World) (hn : l.length ≤ 1000) (hA : TArg w a l) :
    Calls Try.prog 24 #[.slice a l.length cap, .string c] w (PlaceOf (memB c l) w) := by
  have HA := Lib.hid hA
  clear hA
  go_enter Try.func24, Try.ntmps24
  go_wp2
  go_loop [8] (fun i => ∃ k : Nat, k ≤ l.length ∧ i = .int .i64 k ∧ Hid ((l.take k).any (fun s => c.toList == s.toList) = false)) (fun i => (l.length - intOf i).toNat)
  case atStart => exact ⟨0, by omega, rfl, Lib.hid rfl⟩
  case round =>
    obtain ⟨k, hk, rfl, HK⟩ := hrel
    by_cases hlt : k < l.length
    · obtain ⟨p, off, rfl, hp⟩ := HA.out.at hlt
      have c0 := hp.c k hlt
      clear hp
      cases hc : (c.toList == (l[k]).toList)
      · have HN := Lib.hid (any_snoc hlt HK.out hc)
        go_wp2
        go_round
        case rel => exact ⟨k + 1, by omega, by go_num, HN⟩
        case measure => simp [intOf]; omega
      · have HN := Lib.hid (show memB c l = true from any_at hlt hc)
        go_wp2
        go_ret
        exact ⟨k, rfl, by rw [HN.out]; simp, rfl⟩
    · obtain rfl : k = l.length := by omega
      clear hlt
      have HN := Lib.hid (show memB c l = false by have := HK.out; rw [List.take_length] at this; exact this)
      go_wp2
      go_ret
      exact ⟨-1, rfl, by rw [HN.out]; rfl, rfl⟩
set_option maxHeartbeats 1000000 in
theorem tcontains_any (c : ByteArray) (l : List ByteArray) (a : Option Addr) (cap : Nat) (w : World) (hn : l.length ≤ 1000) (hA : TArg w a l) :
    Calls Try.prog 11 #[.slice a l.length cap, .string c] w fun e w' => e = .returned (.bool (memB c l)) ∧ w = w' := by
  have HA := Lib.hid hA
  clear hA
  go_enter Try.func11, Try.ntmps11
  go_wp2_with fail
  refine (tindex_any c l _ _ _ hn HA.out).mono ?_
  rintro e w1 ⟨n, rfl, hb, rfl⟩
  have HB := Lib.hid hb
  clear hb
  go_wp2
  go_ret
  exact ⟨ret_bool HB.out, rfl⟩
/-- A row of texts in a box. -/
structure VBx (w : World) (p : Nat) (v : Value) : Prop where
  lt : p < w.heap.size
  c0 : w.cell? ⟨p, 0, none⟩ = some v
theorem VBx.later {w w' : World} {p : Nat} {v : Value} (h : VBx w p v) (k : Kept w w') : VBx w' p v :=
  ⟨Nat.lt_of_lt_of_le h.lt k.le, (k.rd.1 _ _ h.lt).trans h.c0⟩
set_option maxHeartbeats 1000000 in
theorem treeclo_any (bx : Nat) (c : ByteArray) (l : List ByteArray) (a : Option Addr) (cap : Nat) (w : World) (hn : l.length ≤ 1000) (hA : TArg w a l) (hB : VBx w bx (.slice a l.length cap)) :
    Calls Try.prog 10 #[.string c, .pointer (some ⟨bx, 0, none⟩)] w fun e w' => e = .returned (.bool (!memB c l)) ∧ w = w' := by
  have HA := Lib.hid hA
  obtain ⟨b0, b1⟩ := hB
  clear hA
  go_enter Try.func10, Try.ntmps10
  go_wp2_with fail
  refine (tcontains_any c l _ _ _ hn HA.out).mono ?_
  rintro e w1 ⟨rfl, rfl⟩
  go_wp2
  go_ret
  exact ⟨rfl, rfl⟩
set_option maxHeartbeats 2000000 in
theorem tindexF_none (bx : Nat) (m l : List ByteArray) (a a' : Option Addr) (cap cap' : Nat) (w : World) (hm : m.length ≤ 1000) (hn : l.length ≤ 1000) (hM : TArg w a' m) (hA : TArg w a l) (hB : VBx w bx (.slice a l.length cap)) (hs : ∀ c ∈ m, memB c l = true) :
    Calls Try.prog 23 #[.slice a' m.length cap', .func (.func 10) #[] #[.pointer (some ⟨bx, 0, none⟩)]] w fun e w' => e = .returned (.int .i64 (-1)) ∧ w = w' := by
  have HA := Lib.hid hA
  have HM := Lib.hid hM
  have HB := Lib.hid hB
  have HS := Lib.hid hs
  clear hA hM hB hs
  go_enter Try.func23, Try.ntmps23
  go_wp2
  go_loop [8] (fun i => ∃ k : Nat, k ≤ m.length ∧ i = .int .i64 k) (fun i => (m.length - intOf i).toNat)
  case atStart => exact ⟨0, by omega, rfl⟩
  case round =>
    obtain ⟨k, hk, rfl⟩ := hrel
    by_cases hlt : k < m.length
    · obtain ⟨p, off, rfl, hp⟩ := HM.out.at hlt
      have c0 := hp.c k hlt
      have HT := Lib.hid (HS.out m[k] (List.getElem_mem _))
      clear hp
      generalize m[k] = x at *
      go_wp2_with fail
      refine (treeclo_any bx x l a cap _ hn HA.out HB.out).mono ?_
      rintro e w1 ⟨rfl, rfl⟩
      rw [HT.out]
      go_wp2
      go_round
      case rel => exact ⟨k + 1, by omega, by go_num⟩
      case measure => simp [intOf]; omega
    · obtain rfl : k = m.length := by omega
      clear hlt
      go_wp2
      go_ret
      exact ⟨rfl, rfl⟩
set_option maxHeartbeats 1000000 in
theorem tcontF_none (bx : Nat) (m l : List ByteArray) (a a' : Option Addr) (cap cap' : Nat) (w : World) (hm : m.length ≤ 1000) (hn : l.length ≤ 1000) (hM : TArg w a' m) (hA : TArg w a l) (hB : VBx w bx (.slice a l.length cap)) (hs : ∀ c ∈ m, memB c l = true) :
    Calls Try.prog 9 #[.slice a' m.length cap', .func (.func 10) #[] #[.pointer (some ⟨bx, 0, none⟩)]] w fun e w' => e = .returned (.bool false) ∧ w = w' := by
  have HX := Lib.hid (tindexF_none bx m l a a' cap cap' w hm hn hM hA hB hs)
  clear hA hM hB hs
  go_enter Try.func9, Try.ntmps9
  go_wp2_with fail
  refine HX.out.mono ?_
  rintro e w1 ⟨rfl, rfl⟩
  go_wp2
  go_ret
  exact ⟨rfl, rfl⟩
set_option maxHeartbeats 1000000 in
theorem less_any (a b : ByteArray) (w : World) :
    Calls Try.prog 25 #[.string a, .string b] w fun e w' => e = .returned (.bool (ltB a b)) ∧ w = w' := by
  go_enter Try.func25, Try.ntmps25
  go_wp2
  go_ret
  exact ⟨ret_bool (by unfold ltB; simp), rfl⟩
set_option maxHeartbeats 2000000 in
theorem tsorted_yes (l : List ByteArray) (a : Option Addr) (cap : Nat) (w : World) (hn : l.length ≤ 1000) (hA : TArg w a l) (hI : Inc l) :
    Calls Try.prog 12 #[.slice a l.length cap] w fun e w' => e = .returned (.bool true) ∧ Drew w w' := by
  have HA := Lib.hid hA
  have HI := Lib.hid hI
  clear hA hI
  go_enter Try.func12, Try.ntmps12
  go_wp2
  go_loopw [3] (fun i wr => ∃ (k : Int), -1 ≤ k ∧ k < l.length ∧ i = .int .i64 k ∧ Drew w wr) (fun i _ => (intOf i).toNat)
  case atStart => exact ⟨_, by omega, by omega, rfl, Drew.refl _⟩
  case round =>
    obtain ⟨k, hk, hk2, rfl, hD⟩ := hrel
    by_cases hlt : 0 < k
    · obtain ⟨j, rfl⟩ : ∃ j : Nat, k = (j + 1 : Nat) := ⟨(k - 1).toNat, by omega⟩
      have j1 : j + 1 < l.length := by omega
      obtain ⟨p, off, rfl, hp⟩ := (HA.out.later hD.kept).at j1
      have c0 := hp.c (j + 1) j1
      have c1 := hp.c j (by omega)
      have HL := Lib.hid (bl_asymm (HI.out.at j (j + 1) (by omega) j1 (by omega)))
      clear hp
      generalize l[j + 1] = x at *
      generalize l[j] = y at *
      have e1 : ((j + 1 : Nat) : Int) = (j : Int) + 1 := by omega
      rw [e1]
      clear e1
      have w1 : IntKind.i64.wrap (j : Int) = (j : Int) := IntWalk.i64_in _ (by omega)
      have g0 : (0 : Int) ≤ (j : Int) + 1 := by omega
      have g1 : (j : Int) + 1 < (l.length : Int) := by omega
      have g2 : (0 : Int) ≤ (j : Int) := by omega
      have g3 : (j : Int) < (l.length : Int) := by omega
      have g4 : ((j : Int) + 1).toNat = j + 1 := by omega
      go_wp2_with fail
      go_quiet ((go_at_call 25; exact quiet_same (less_any _ _ _)))
      rw [show ltB x y = false from HL.out]
      clear w1 g4
      go_wp2
      go_roundw
      case rel => exact ⟨j, by omega, by omega, by go_num, hD.drewN _⟩
      case measure => simp [intOf]
    · go_wp2
      go_ret
      exact ⟨rfl, hD⟩
end Go.Proofs.Ytfckdiaobogdlaa
