/-
  The reference of keys and lists of accounts: talref's Key, within, Day, Money, Accts. No condition but those that each theorem names.
-/
import Derived.Test.YtdabangdjgkphaaGreatDoorCWalkA
namespace Go.Proofs.YtdabangdjgkphaaGreatDoor
open Go.RowKit
set_option linter.unusedVariables false

/-- The bytes of keys. -/
def alphaL : List UInt8 := [97, 98, 99, 100, 101, 102, 103, 104, 105, 106, 107, 108, 109, 110, 111, 112, 113, 114, 115, 116, 117, 118, 119, 120, 121, 122, 48, 49, 50, 51, 52, 53, 54, 55, 56, 57, 45]
theorem alpha_ky (c : UInt8) : alphaL.contains c = kyB c := by
  have : ∀ n : Fin 256, alphaL.contains (UInt8.ofNat n.val) = kyB (UInt8.ofNat n.val) := by decide +kernel
  have h := this ⟨c.toNat, c.toNat_lt⟩
  simpa using h
/-- Where a byte stands among those of keys. -/
def ixK (c : UInt8) : Int := Lib.indexByte alphaL c
theorem ixK_iff (c : UInt8) : (kyB c = true ∧ 0 ≤ ixK c ∧ ixK c ≤ 40) ∨ (kyB c = false ∧ ixK c < 0 ∧ -40 ≤ ixK c) := by
  have : ∀ n : Fin 256, (kyB (UInt8.ofNat n.val) = true ∧ 0 ≤ ixK (UInt8.ofNat n.val) ∧ ixK (UInt8.ofNat n.val) ≤ 40) ∨ (kyB (UInt8.ofNat n.val) = false ∧ ixK (UInt8.ofNat n.val) < 0 ∧ -40 ≤ ixK (UInt8.ofNat n.val)) := by decide +kernel
  have h := this ⟨c.toNat, c.toNat_lt⟩
  simpa using h
theorem ixb_any (c : UInt8) (w : World) :
    Calls Tryz.prog 72 #[.string ⟨#[97, 98, 99, 100, 101, 102, 103, 104, 105, 106, 107, 108, 109, 110, 111, 112, 113, 114, 115, 116, 117, 118, 119, 120, 121, 122, 48, 49, 50, 51, 52, 53, 54, 55, 56, 57, 45]⟩, .int .u8 (c.toNat : Int)] w fun e w' => e = .returned (.int .i64 (ixK c)) ∧ w = w' := by
  have hcon := Any.strings_IndexByte Tryz.lays137 ⟨#[97, 98, 99, 100, 101, 102, 103, 104, 105, 106, 107, 108, 109, 110, 111, 112, 113, 114, 115, 116, 117, 118, 119, 120, 121, 122, 48, 49, 50, 51, 52, 53, 54, 55, 56, 57, 45]⟩ (c.toNat : Int) w
  have e : ((c.toNat : Int)).toNat.toUInt8 = c := by
    rw [Int.toNat_natCast]
    apply UInt8.toNat_inj.1
    show c.toNat % 256 = c.toNat
    exact Nat.mod_eq_of_lt c.toNat_lt
  refine hcon.mono fun e' w' ⟨h1, h2⟩ => ⟨?_, h2.symm⟩
  rw [h1, e]; rfl
set_option maxRecDepth 100000 in
set_option maxHeartbeats 2000000 in
theorem rkey_any (s : ByteArray) (w : World) (hs : s.size ≤ maxLen) :
    Calls Tryz.prog 53 #[.string s] w fun e w' => e = .returned (.bool (keyB s)) ∧ w = w' := by
  have hs' : s.size ≤ 9223372036854775807 := hs
  clear hs
  go_enter Tryz.func53, Tryz.ntmps53
  go_wp2
  go_loop [6] (fun i => ∃ k : Nat, k ≤ s.size ∧ i = .int .i64 k ∧ Hid ((s.data.toList.take k).all kyB = true)) (fun i => s.size - (intOf i).toNat)
  case atStart => exact ⟨0, Nat.zero_le _, rfl, Lib.hid rfl⟩
  case round =>
    obtain ⟨k, hk, rfl, HA⟩ := hrel
    by_cases hlt : k < s.size
    · have HT := Lib.hid (take_snoc s k hlt)
      rcases ixK_iff s[k] with ⟨c1, c2, c3⟩ | ⟨c1, c2, c3⟩
      · have HC := Lib.hid c1
        have c4 : decide (ixK s[k] < 0) = false := by simp; omega
        clear c1
        go_wp2_with fail
        refine (ixb_any s[k] _).mono ?_
        rintro e w1 ⟨rfl, rfl⟩
        generalize ixK s[k] = z at *
        go_wp2
        go_round
        case rel => exact ⟨k + 1, by omega, by go_num, Lib.hid (by rw [HT.out, List.all_append, HA.out]; simp [HC.out])⟩
        case measure => simp [intOf]; omega
      · have HN := Lib.hid (show keyB s = false by unfold keyB; rw [show kysB s = false from all_no (p := kyB) hlt c1]; simp)
        clear c1
        go_wp2_with fail
        refine (ixb_any s[k] _).mono ?_
        rintro e w1 ⟨rfl, rfl⟩
        generalize ixK s[k] = z at *
        go_wp2
        go_ret
        exact ⟨ret_bool HN.out.symm, rfl⟩
    · obtain rfl : k = s.size := by omega
      have HY := Lib.hid (show kysB s = true by have := HA.out; rw [take_all] at this; exact this)
      clear hlt hk
      by_cases h0 : 0 < s.size
      · have g1 : (0 : Int) < (s.size : Int) := by omega
        by_cases h13 : s.size < 13
        · have g2 : (s.size : Int) < 13 := by omega
          have HN := Lib.hid (show keyB s = true by unfold keyB; rw [HY.out]; simp; omega)
          go_wp2
          go_ret
          exact ⟨ret_bool HN.out.symm, rfl⟩
        · have g2 : ¬ (s.size : Int) < 13 := by omega
          have HN := Lib.hid (show keyB s = false by unfold keyB; rw [HY.out]; simp; omega)
          go_wp2
          go_ret
          exact ⟨ret_bool HN.out.symm, rfl⟩
      · have g1 : ¬ (0 : Int) < (s.size : Int) := by omega
        have HN := Lib.hid (show keyB s = false by unfold keyB; rw [HY.out]; simp; omega)
        go_wp2
        go_ret
        exact ⟨ret_bool HN.out.symm, rfl⟩
/-- Between two numbers. -/
def inB (x a b : Int) : Bool := decide (a ≤ x) && decide (x ≤ b)
theorem inB_iff (x a b : Int) : inB x a b = true ↔ a ≤ x ∧ x ≤ b := by unfold inB; simp
set_option maxHeartbeats 1000000 in
theorem inb_any (x a b : Int) (w : World) :
    Calls Tryz.prog 52 #[.int .i64 x, .int .i64 a, .int .i64 b] w fun e w' => e = .returned (.bool (inB x a b)) ∧ w = w' := by
  by_cases h1 : a ≤ x
  · by_cases h2 : x ≤ b
    · have E := Lib.hid ((inB_iff x a b).2 ⟨h1, h2⟩)
      go_enter Tryz.func52, Tryz.ntmps52
      go_wp2
      go_ret
      exact ⟨ret_bool E.out.symm, rfl⟩
    · have E := Lib.hid (show inB x a b = false by unfold inB; simp [h2])
      go_enter Tryz.func52, Tryz.ntmps52
      go_wp2
      go_ret
      exact ⟨ret_bool E.out.symm, rfl⟩
  · have E := Lib.hid (show inB x a b = false by unfold inB; simp [h1])
    go_enter Tryz.func52, Tryz.ntmps52
    go_wp2
    go_ret
    exact ⟨ret_bool E.out.symm, rfl⟩
set_option maxHeartbeats 1000000 in
theorem rday_any (x : Int) (w : World) :
    Calls Tryz.prog 28 #[.int .i64 x] w fun e w' => e = .returned (.bool (inB x 0 292193)) ∧ w = w' := by
  go_enter Tryz.func28, Tryz.ntmps28
  go_wp2_with fail
  refine (inb_any _ _ _ _).mono ?_
  rintro e w1 ⟨rfl, rfl⟩
  go_wp2
  go_ret
  exact ⟨rfl, rfl⟩
set_option maxHeartbeats 1000000 in
theorem rmoney_any (x : Int) (w : World) :
    Calls Tryz.prog 54 #[.int .i64 x] w fun e w' => e = .returned (.bool (inB x (-1000000000000) 1000000000000)) ∧ w = w' := by
  go_enter Tryz.func54, Tryz.ntmps54
  go_wp2_with fail
  refine (inb_any _ _ _ _).mono ?_
  rintro e w1 ⟨rfl, rfl⟩
  go_wp2
  go_ret
  exact ⟨rfl, rfl⟩
set_option maxHeartbeats 1000000 in
theorem raccts_large (a : Option Addr) (l : List Pr) (cap : Nat) (w : World) (h : 24 < l.length) (hn : l.length ≤ maxLen) :
    Calls Tryz.prog 27 #[.slice a l.length cap] w fun e w' => e = .returned (.int .i64 2) ∧ w = w' := by
  unfold maxLen at hn
  go_enter Tryz.func27, Tryz.ntmps27
  go_wp2
  go_ret
  exact ⟨rfl, rfl⟩
set_option maxHeartbeats 2000000 in
theorem raccts_in (a : Option Addr) (l : List Pr) (cap : Nat) (w : World) (h : l.length ≤ 24) (hA : PArg w a l) (hs : Shortish l) :
    Calls Tryz.prog 27 #[.slice a l.length cap] w fun e w' => e = .returned (.int .i64 (acL ⟨#[]⟩ l)) ∧ Kept w w' := by
  have HA := Lib.hid hA
  have HS := Lib.hid hs
  clear hA hs
  go_enter Tryz.func27, Tryz.ntmps27
  go_wp2
  go_loopw [3, 11] (fun b i wr => ∃ (k : Nat) (c : ByteArray), k ≤ l.length ∧ i = .int .i64 k ∧ b = .string c ∧ Hid (acL ⟨#[]⟩ l = acL c (l.drop k)) ∧ Kept w wr) (fun _ i _ => l.length - (intOf i).toNat)
  case atStart => exact ⟨0, _, Nat.zero_le _, rfl, rfl, Lib.hid rfl, Kept.refl _⟩
  case round =>
    obtain ⟨k, c, hk, rfl, rfl, HE, hK⟩ := hrel
    by_cases hlt : k < l.length
    · obtain ⟨p, off, rfl, hR⟩ := HA.out.at hlt
      have hR := hR.later hK
      have c0 := hR.c0 k hlt
      have c1 := hR.c1 k hlt
      have plt := hR.lt
      have HD := Lib.hid (drop_at l k hlt)
      have hz := HS.out l[k] (List.getElem_mem _)
      clear hR
      generalize l[k] = x at *
      have kA := (Kept.refl wr).alloc (.cells #[.string x.1, .int .i64 x.2] 69)
      have hX := PBx.new wr x 69
      have hK1 := hK.trans kA
      cases hc : codeB x.1
      · have HX := Lib.hid (acL_form (b := c) (r := l.drop (k + 1)) hc)
        have HC := Lib.hid hc
        clear hc
        go_wp2_with fail
        refine (rcode_any _ _ hz).mono ?_
        rintro e w1 ⟨rfl, hK2⟩
        rw [HC.out]
        go_wp2
        go_ret
        exact ⟨ret_int (by rw [HE.out, HD.out, HX.out]), hK1.trans hK2⟩
      · have HC := Lib.hid hc
        by_cases c2 : x.2 < 0 ∨ 4 < x.2
        · have HX := Lib.hid (acL_kind (b := c) (r := l.drop (k + 1)) hc c2)
          have HI := Lib.hid (show inB x.2 0 4 = false by unfold inB; simp; omega)
          clear hc c2
          go_wp2_with fail
          refine (rcode_any _ _ hz).mono ?_
          rintro e w1 ⟨rfl, hK2⟩
          rw [HC.out]
          obtain ⟨x0, x1, x2⟩ := hX.later hK2
          go_wp2_with fail
          refine (inb_any _ _ _ _).mono ?_
          rintro e w2 ⟨rfl, rfl⟩
          rw [HI.out]
          go_wp2
          go_ret
          exact ⟨ret_int (by rw [HE.out, HD.out, HX.out]), hK1.trans hK2⟩
        · have HI := Lib.hid (show inB x.2 0 4 = true by unfold inB; simp; omega)
          cases hl : leB x.1 c
          · have HX := Lib.hid (acL_next (b := c) (r := l.drop (k + 1)) hc c2 hl)
            clear hc c2
            unfold leB at hl
            go_wp2_with fail
            refine (rcode_any _ _ hz).mono ?_
            rintro e w1 ⟨rfl, hK2⟩
            rw [HC.out]
            obtain ⟨x0, x1, x2⟩ := hX.later hK2
            have hK3 := hK1.trans hK2
            clear hX hK1 hK2 hK kA
            go_wp2_with fail
            refine (inb_any _ _ _ _).mono ?_
            rintro e w2 ⟨rfl, rfl⟩
            rw [HI.out]
            go_wp2
            go_roundw
            case rel => exact ⟨k + 1, _, by omega, by go_num, rfl, Lib.hid (by rw [HE.out, HD.out, HX.out]), hK3⟩
            case measure => simp [intOf]; omega
          · have HX := Lib.hid (acL_le (b := c) (r := l.drop (k + 1)) hc c2 hl)
            clear hc c2
            unfold leB at hl
            go_wp2_with fail
            refine (rcode_any _ _ hz).mono ?_
            rintro e w1 ⟨rfl, hK2⟩
            rw [HC.out]
            obtain ⟨x0, x1, x2⟩ := hX.later hK2
            go_wp2_with fail
            refine (inb_any _ _ _ _).mono ?_
            rintro e w2 ⟨rfl, rfl⟩
            rw [HI.out]
            go_wp2
            go_ret
            exact ⟨ret_int (by rw [HE.out, HD.out, HX.out]), hK1.trans hK2⟩
    · obtain rfl : k = l.length := by omega
      clear hlt
      have HD := Lib.hid (show acL c (l.drop l.length) = 0 by rw [List.drop_length]; rfl)
      go_wp2
      go_ret
      exact ⟨ret_int (by rw [HE.out, HD.out]), hK⟩
theorem raccts_any (a : Option Addr) (l : List Pr) (cap : Nat) (w : World) (hA : PArg w a l) (hs : Shortish l) (hn : l.length ≤ maxLen) :
    Calls Tryz.prog 27 #[.slice a l.length cap] w fun e w' => e = .returned (.int .i64 (acE l)) ∧ Kept w w' := by
  by_cases h : 24 < l.length
  · have e : acE l = 2 := by unfold acE; rw [if_pos h]
    rw [e]
    exact (raccts_large a l cap w h hn).mono fun _ _ ⟨h1, h2⟩ => ⟨h1, h2 ▸ Kept.refl _⟩
  · have e : acE l = acL ⟨#[]⟩ l := by unfold acE; rw [if_neg h]
    rw [e]
    exact raccts_in a l cap w (by omega) hA hs
end Go.Proofs.YtdabangdjgkphaaGreatDoor
