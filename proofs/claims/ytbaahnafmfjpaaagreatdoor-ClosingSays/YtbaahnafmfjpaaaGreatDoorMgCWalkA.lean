import Derived.Test.YtbaahnafmfjpaaaGreatDoorCShelf
import Derived.Test.YtbaahnafmfjpaaaGreatDoorBWalkC
import Derived.Test.YtbaahnafmfjpaaaGreatDoorMgAMath
import Derived.Lib.IndexAny
/-
  The reference of codes and keys: talref's Code, Key, Day, Money. No condition but those that each theorem names.
-/
namespace Go.Proofs.YtbaahnafmfjpaaaGreatDoor
open Go.RowKit
set_option linter.unusedVariables false

/-- The ten digits. -/
def tensL : List UInt8 := [48, 49, 50, 51, 52, 53, 54, 55, 56, 57]
theorem tens_dg (c : UInt8) : tensL.contains c = dgB c := by
  have : ∀ n : Fin 256, tensL.contains (UInt8.ofNat n.val) = dgB (UInt8.ofNat n.val) := by decide +kernel
  have h := this ⟨c.toNat, c.toNat_lt⟩
  simpa using h
theorem drop_nil {p : UInt8 → Bool} : ∀ l : List UInt8, l.dropWhile p = [] ↔ l.all p = true
  | [] => by simp
  | x :: r => by
    rw [List.dropWhile_cons]
    by_cases h : p x = true
    · rw [if_pos h, drop_nil r]; simp [h]
    · rw [if_neg h]; simp [h]
theorem trim_nil (l : List UInt8) : Lib.trimS l tensL = [] ↔ l.all dgB = true := by
  have e : (fun c => tensL.contains c) = dgB := funext tens_dg
  unfold Lib.trimS Lib.trimLeftS Lib.trimRightS
  simp only [e]
  constructor
  · intro h
    have h1 := (drop_nil _).1 h
    rw [List.all_reverse] at h1
    have h2 : (l.reverse.dropWhile dgB) = [] := by
      cases q : l.reverse.dropWhile dgB with
      | nil => rfl
      | cons x r =>
        rw [q] at h1
        have hx : dgB x = true := by simp at h1; exact h1.1
        have := List.head?_dropWhile_not dgB l.reverse
        rw [q] at this
        simp [hx] at this
    have := (drop_nil _).1 h2
    rw [List.all_reverse] at this
    exact this
  · intro h
    have : l.reverse.dropWhile dgB = [] := (drop_nil _).2 (by rw [List.all_reverse]; exact h)
    rw [this]; rfl
/-- What strings.Trim leaves of a text at the ten digits. -/
def trimT (s : ByteArray) : ByteArray := ⟨(Lib.trimS s.data.toList tensL).toArray⟩
theorem trim_any (s : ByteArray) (w : World) (hs : s.size ≤ maxLen) :
    Calls Tryz.prog 62 #[.string s, .string ⟨#[48, 49, 50, 51, 52, 53, 54, 55, 56, 57]⟩] w fun e w' => e = .returned (.string (trimT s)) ∧ Kept w w' := by
  have hcon := Any.strings_Trim_laid Tryz.lays160 (by kernel_rfl) s ⟨#[48, 49, 50, 51, 52, 53, 54, 55, 56, 57]⟩ w hs (by decide) (ascii_of_all (by decide))
  exact hcon
theorem trimT_iff (s : ByteArray) : ((trimT s).toList == []) = digB s := by
  rw [Bool.eq_iff_iff, beq_iff_eq, Lib.toList_data]
  unfold trimT digB
  exact trim_nil _
set_option maxHeartbeats 1000000 in
theorem rclo_any (c : UInt8) (w : World) (h : dgB c = true) :
    Calls Tryz.prog 64 #[.int .i32 (c.toNat : Int)] w fun e w' => e = .returned (.bool false) ∧ w = w' := by
  have h1 : 48 ≤ c.toNat ∧ c.toNat ≤ 57 := by unfold dgB at h; simpa using h
  have g1 : ¬ (c.toNat : Int) < 48 := by omega
  have g2 : ¬ 57 < (c.toNat : Int) := by omega
  clear h h1
  generalize c.toNat = n at *
  go_enter Tryz.func64, Tryz.ntmps64
  go_wp2
  go_ret
  exact ⟨rfl, rfl⟩
theorem dig_at {s : ByteArray} (h : digB s = true) {k : Nat} (hk : k < s.size) : dgB s[k] = true := by
  unfold digB at h
  rw [List.all_eq_true] at h
  exact h _ (mem_at s k hk)
set_option maxRecDepth 100000 in
set_option maxHeartbeats 2000000 in
theorem idx_none (s : ByteArray) (w : World) (hd : digB s = true) :
    Calls Tryz.prog 110 #[.string s, .func (.func 64) #[] #[], .bool true] w fun e w' => e = .returned (.int .i64 (-1)) ∧ Kept w w' := by
  have HD := Lib.hid hd
  clear hd
  go_enter Tryz.func110, Tryz.ntmps110
  go_wp2
  go_loopw [] (fun wr => ∃ k : Nat, k ≤ s.size ∧ wr = w.iter s k) (fun wr => s.size - wr.iterPos w.heap.size)
  case atStart => exact ⟨0, Nat.zero_le _, rfl⟩
  case round =>
    obtain ⟨k, hk, rfl⟩ := hrel
    by_cases hlt : k < s.size
    · have hb := dig_at HD.out hlt
      have h1 : 48 ≤ (s[k]).toNat ∧ (s[k]).toNat ≤ 57 := by unfold dgB at hb; simpa using hb
      have hnx := fun ty => run_next_ascii (P := Tryz.prog) w s k ty hlt (by omega)
      have HB := Lib.hid hb
      clear hb h1
      go_wp2_with fail
      refine (rclo_any s[k] _ HB.out).mono ?_
      rintro e w1 ⟨rfl, rfl⟩
      go_wp2
      go_roundw
      case rel => exact ⟨k + 1, by omega, rfl⟩
      case measure => simp [World.iterPos, World.iter_heap]; omega
    · have hnx := fun ty => run_next_end (P := Tryz.prog) w s k ty hlt
      go_wp2
      go_ret
      exact ⟨rfl, (Kept.refl w).alloc _⟩
set_option maxHeartbeats 1000000 in
theorem idxF_none (s : ByteArray) (w : World) (hd : digB s = true) :
    Calls Tryz.prog 83 #[.string s, .func (.func 64) #[] #[]] w fun e w' => e = .returned (.int .i64 (-1)) ∧ Kept w w' := by
  have HX := Lib.hid (idx_none s w hd)
  clear hd
  go_enter Tryz.func83, Tryz.ntmps83
  go_wp2_with fail
  refine HX.out.mono ?_
  rintro e w1 ⟨rfl, hK⟩
  go_wp2
  go_ret
  exact ⟨rfl, hK⟩
set_option maxHeartbeats 1000000 in
theorem conF_none (s : ByteArray) (w : World) (hd : digB s = true) :
    Calls Tryz.prog 63 #[.string s, .func (.func 64) #[] #[]] w fun e w' => e = .returned (.bool false) ∧ Kept w w' := by
  have HX := Lib.hid (idxF_none s w hd)
  clear hd
  go_enter Tryz.func63, Tryz.ntmps63
  go_wp2_with fail
  refine HX.out.mono ?_
  rintro e w1 ⟨rfl, hK⟩
  go_wp2
  go_ret
  exact ⟨rfl, hK⟩
set_option maxRecDepth 100000 in
set_option maxHeartbeats 2000000 in
theorem rcode_any (s : ByteArray) (w : World) (hs : s.size ≤ maxLen) :
    Calls Tryz.prog 40 #[.string s] w fun e w' => e = .returned (.bool (codeB s)) ∧ Kept w w' := by
  have hs' : s.size ≤ 9223372036854775807 := hs
  by_cases h0 : 0 < s.size
  · by_cases h9 : s.size < 9
    · have C := Lib.hid (show codeB s = digB s by unfold codeB; simp [show 1 ≤ s.size from h0, show s.size ≤ 8 by omega])
      have T := Lib.hid (trimT_iff s)
      have g1 : (0 : Int) < (s.size : Int) := by omega
      have g2 : (s.size : Int) < 9 := by omega
      cases hd : digB s
      · have D := Lib.hid hd
        have t1 : ((trimT s).toList.isEmpty) = false := by
          have := T.out; rw [hd] at this
          cases q : (trimT s).toList with
          | nil => rw [q] at this; simp at this
          | cons => rfl
        have t2 : ((trimT s).toList == []) = false := by rw [T.out, hd]
        clear hd
        go_enter Tryz.func40, Tryz.ntmps40
        go_wp2_with fail
        refine (trim_any s _ hs).mono ?_
        rintro e w1 ⟨rfl, hK⟩
        go_wp2
        go_ret
        exact ⟨ret_bool (by rw [C.out, D.out]), hK⟩
      · have D := Lib.hid hd
        have t1 : ((trimT s).toList.isEmpty) = true := by
          have := T.out; rw [hd] at this
          cases q : (trimT s).toList with
          | nil => rfl
          | cons => rw [q] at this; simp at this
        have t2 : ((trimT s).toList == []) = true := by rw [T.out, hd]
        clear hd
        go_enter Tryz.func40, Tryz.ntmps40
        go_wp2_with fail
        refine (trim_any s _ hs).mono ?_
        rintro e w1 ⟨rfl, hK⟩
        go_wp2_with fail
        refine (conF_none s _ D.out).mono ?_
        rintro e w2 ⟨rfl, hK2⟩
        go_wp2
        go_ret
        exact ⟨ret_bool (by rw [C.out, D.out]), hK.trans hK2⟩
    · have C := Lib.hid (show codeB s = false by unfold codeB; simp; omega)
      have g1 : (0 : Int) < (s.size : Int) := by omega
      have g2 : ¬ (s.size : Int) < 9 := by omega
      have g3 : decide ((s.size : Int) < 9) = false := by simpa using g2
      go_enter Tryz.func40, Tryz.ntmps40
      go_wp2
      go_ret
      exact ⟨ret_bool C.out.symm, Kept.refl w⟩
  · have C := Lib.hid (show codeB s = false by unfold codeB; simp; omega)
    have g1 : ¬ (0 : Int) < (s.size : Int) := by omega
    go_enter Tryz.func40, Tryz.ntmps40
    go_wp2
    go_ret
    exact ⟨ret_bool C.out.symm, Kept.refl w⟩
end Go.Proofs.YtbaahnafmfjpaaaGreatDoor

/-
  The reference of keys and lists of accounts: talref's Key, within, Day, Money, Accts. No condition but those that each theorem names.
-/
namespace Go.Proofs.YtbaahnafmfjpaaaGreatDoor
open Go.RowKit
set_option linter.unusedVariables false

/-- The bytes of keys. -/
def alphaL : List UInt8 := [97, 98, 99, 100, 101, 102, 103, 104, 105, 106, 107, 108, 109, 110, 111, 112, 113, 114, 115, 116, 117, 118, 119, 120, 121, 122, 48, 49, 50, 51, 52, 53, 54, 55, 56, 57, 45]
theorem alpha_ky (c : UInt8) : alphaL.contains c = kyB c := by
  have : ∀ n : Fin 256, alphaL.contains (UInt8.ofNat n.val) = kyB (UInt8.ofNat n.val) := by decide +kernel
  have h := this ⟨c.toNat, c.toNat_lt⟩
  simpa using h
/-- Where a byte stands among those of keys. -/
def ixK (c : UInt8) : Int := Lib.indexByte alphaL c
theorem ixK_iff (c : UInt8) : (kyB c = true ∧ 0 ≤ ixK c ∧ ixK c ≤ 40) ∨ (kyB c = false ∧ ixK c < 0 ∧ -40 ≤ ixK c) := by
  have : ∀ n : Fin 256, (kyB (UInt8.ofNat n.val) = true ∧ 0 ≤ ixK (UInt8.ofNat n.val) ∧ ixK (UInt8.ofNat n.val) ≤ 40) ∨ (kyB (UInt8.ofNat n.val) = false ∧ ixK (UInt8.ofNat n.val) < 0 ∧ -40 ≤ ixK (UInt8.ofNat n.val)) := by decide +kernel
  have h := this ⟨c.toNat, c.toNat_lt⟩
  simpa using h
theorem ixb_any (c : UInt8) (w : World) :
    Calls Tryz.prog 65 #[.string ⟨#[97, 98, 99, 100, 101, 102, 103, 104, 105, 106, 107, 108, 109, 110, 111, 112, 113, 114, 115, 116, 117, 118, 119, 120, 121, 122, 48, 49, 50, 51, 52, 53, 54, 55, 56, 57, 45]⟩, .int .u8 (c.toNat : Int)] w fun e w' => e = .returned (.int .i64 (ixK c)) ∧ w = w' := by
  have hcon := Any.strings_IndexByte Tryz.lays137 ⟨#[97, 98, 99, 100, 101, 102, 103, 104, 105, 106, 107, 108, 109, 110, 111, 112, 113, 114, 115, 116, 117, 118, 119, 120, 121, 122, 48, 49, 50, 51, 52, 53, 54, 55, 56, 57, 45]⟩ (c.toNat : Int) w
  have e : ((c.toNat : Int)).toNat.toUInt8 = c := by
    rw [Int.toNat_natCast]
    apply UInt8.toNat_inj.1
    show c.toNat % 256 = c.toNat
    exact Nat.mod_eq_of_lt c.toNat_lt
  refine hcon.mono fun e' w' ⟨h1, h2⟩ => ⟨?_, h2.symm⟩
  rw [h1, e]; rfl
set_option maxRecDepth 100000 in
set_option maxHeartbeats 2000000 in
theorem rkey_any (s : ByteArray) (w : World) (hs : s.size ≤ maxLen) :
    Calls Tryz.prog 42 #[.string s] w fun e w' => e = .returned (.bool (keyB s)) ∧ w = w' := by
  have hs' : s.size ≤ 9223372036854775807 := hs
  clear hs
  go_enter Tryz.func42, Tryz.ntmps42
  go_wp2
  go_loop [6] (fun i => ∃ k : Nat, k ≤ s.size ∧ i = .int .i64 k ∧ Hid ((s.data.toList.take k).all kyB = true)) (fun i => s.size - (intOf i).toNat)
  case atStart => exact ⟨0, Nat.zero_le _, rfl, Lib.hid rfl⟩
  case round =>
    obtain ⟨k, hk, rfl, HA⟩ := hrel
    by_cases hlt : k < s.size
    · have HT := Lib.hid (take_snoc s k hlt)
      rcases ixK_iff s[k] with ⟨c1, c2, c3⟩ | ⟨c1, c2, c3⟩
      · have HC := Lib.hid c1
        have c4 : decide (ixK s[k] < 0) = false := by simp; omega
        clear c1
        go_wp2_with fail
        refine (ixb_any s[k] _).mono ?_
        rintro e w1 ⟨rfl, rfl⟩
        generalize ixK s[k] = z at *
        go_wp2
        go_round
        case rel => exact ⟨k + 1, by omega, by go_num, Lib.hid (by rw [HT.out, List.all_append, HA.out]; simp [HC.out])⟩
        case measure => simp [intOf]; omega
      · have HN := Lib.hid (show keyB s = false by unfold keyB; rw [show kysB s = false from all_no (p := kyB) hlt c1]; simp)
        clear c1
        go_wp2_with fail
        refine (ixb_any s[k] _).mono ?_
        rintro e w1 ⟨rfl, rfl⟩
        generalize ixK s[k] = z at *
        go_wp2
        go_ret
        exact ⟨ret_bool HN.out.symm, rfl⟩
    · obtain rfl : k = s.size := by omega
      have HY := Lib.hid (show kysB s = true by have := HA.out; rw [take_all] at this; exact this)
      clear hlt hk
      by_cases h0 : 0 < s.size
      · have g1 : (0 : Int) < (s.size : Int) := by omega
        by_cases h13 : s.size < 13
        · have g2 : (s.size : Int) < 13 := by omega
          have HN := Lib.hid (show keyB s = true by unfold keyB; rw [HY.out]; simp; omega)
          go_wp2
          go_ret
          exact ⟨ret_bool HN.out.symm, rfl⟩
        · have g2 : ¬ (s.size : Int) < 13 := by omega
          have HN := Lib.hid (show keyB s = false by unfold keyB; rw [HY.out]; simp; omega)
          go_wp2
          go_ret
          exact ⟨ret_bool HN.out.symm, rfl⟩
      · have g1 : ¬ (0 : Int) < (s.size : Int) := by omega
        have HN := Lib.hid (show keyB s = false by unfold keyB; rw [HY.out]; simp; omega)
        go_wp2
        go_ret
        exact ⟨ret_bool HN.out.symm, rfl⟩
/-- Between two numbers. -/
def inB (x a b : Int) : Bool := decide (a ≤ x) && decide (x ≤ b)
theorem inB_iff (x a b : Int) : inB x a b = true ↔ a ≤ x ∧ x ≤ b := by unfold inB; simp
set_option maxHeartbeats 1000000 in
theorem inb_any (x a b : Int) (w : World) :
    Calls Tryz.prog 41 #[.int .i64 x, .int .i64 a, .int .i64 b] w fun e w' => e = .returned (.bool (inB x a b)) ∧ w = w' := by
  by_cases h1 : a ≤ x
  · by_cases h2 : x ≤ b
    · have E := Lib.hid ((inB_iff x a b).2 ⟨h1, h2⟩)
      go_enter Tryz.func41, Tryz.ntmps41
      go_wp2
      go_ret
      exact ⟨ret_bool E.out.symm, rfl⟩
    · have E := Lib.hid (show inB x a b = false by unfold inB; simp [h2])
      go_enter Tryz.func41, Tryz.ntmps41
      go_wp2
      go_ret
      exact ⟨ret_bool E.out.symm, rfl⟩
  · have E := Lib.hid (show inB x a b = false by unfold inB; simp [h1])
    go_enter Tryz.func41, Tryz.ntmps41
    go_wp2
    go_ret
    exact ⟨ret_bool E.out.symm, rfl⟩
set_option maxHeartbeats 1000000 in
theorem rday_any (x : Int) (w : World) :
    Calls Tryz.prog 17 #[.int .i64 x] w fun e w' => e = .returned (.bool (inB x 0 292193)) ∧ w = w' := by
  go_enter Tryz.func17, Tryz.ntmps17
  go_wp2_with fail
  refine (inb_any _ _ _ _).mono ?_
  rintro e w1 ⟨rfl, rfl⟩
  go_wp2
  go_ret
  exact ⟨rfl, rfl⟩
set_option maxHeartbeats 1000000 in
theorem rmoney_any (x : Int) (w : World) :
    Calls Tryz.prog 43 #[.int .i64 x] w fun e w' => e = .returned (.bool (inB x (-1000000000000) 1000000000000)) ∧ w = w' := by
  go_enter Tryz.func43, Tryz.ntmps43
  go_wp2_with fail
  refine (inb_any _ _ _ _).mono ?_
  rintro e w1 ⟨rfl, rfl⟩
  go_wp2
  go_ret
  exact ⟨rfl, rfl⟩
set_option maxHeartbeats 1000000 in
theorem raccts_large (a : Option Addr) (l : List Pr) (cap : Nat) (w : World) (h : 24 < l.length) (hn : l.length ≤ maxLen) :
    Calls Tryz.prog 16 #[.slice a l.length cap] w fun e w' => e = .returned (.int .i64 2) ∧ w = w' := by
  unfold maxLen at hn
  go_enter Tryz.func16, Tryz.ntmps16
  go_wp2
  go_ret
  exact ⟨rfl, rfl⟩
set_option maxHeartbeats 2000000 in
theorem raccts_in (a : Option Addr) (l : List Pr) (cap : Nat) (w : World) (h : l.length ≤ 24) (hA : PArg w a l) (hs : Shortish l) :
    Calls Tryz.prog 16 #[.slice a l.length cap] w fun e w' => e = .returned (.int .i64 (acL ⟨#[]⟩ l)) ∧ Kept w w' := by
  have HA := Lib.hid hA
  have HS := Lib.hid hs
  clear hA hs
  go_enter Tryz.func16, Tryz.ntmps16
  go_wp2
  go_loopw [3, 11] (fun b i wr => ∃ (k : Nat) (c : ByteArray), k ≤ l.length ∧ i = .int .i64 k ∧ b = .string c ∧ Hid (acL ⟨#[]⟩ l = acL c (l.drop k)) ∧ Kept w wr) (fun _ i _ => l.length - (intOf i).toNat)
  case atStart => exact ⟨0, _, Nat.zero_le _, rfl, rfl, Lib.hid rfl, Kept.refl _⟩
  case round =>
    obtain ⟨k, c, hk, rfl, rfl, HE, hK⟩ := hrel
    by_cases hlt : k < l.length
    · obtain ⟨p, off, rfl, hR⟩ := HA.out.at hlt
      have hR := hR.later hK
      have c0 := hR.c0 k hlt
      have c1 := hR.c1 k hlt
      have plt := hR.lt
      have HD := Lib.hid (drop_at l k hlt)
      have hz := HS.out l[k] (List.getElem_mem _)
      clear hR
      generalize l[k] = x at *
      have kA := (Kept.refl wr).alloc (.cells #[.string x.1, .int .i64 x.2] 54)
      have hX := PBx.new wr x 54
      have hK1 := hK.trans kA
      cases hc : codeB x.1
      · have HX := Lib.hid (acL_form (b := c) (r := l.drop (k + 1)) hc)
        have HC := Lib.hid hc
        clear hc
        go_wp2_with fail
        refine (rcode_any _ _ hz).mono ?_
        rintro e w1 ⟨rfl, hK2⟩
        rw [HC.out]
        go_wp2
        go_ret
        exact ⟨ret_int (by rw [HE.out, HD.out, HX.out]), hK1.trans hK2⟩
      · have HC := Lib.hid hc
        by_cases c2 : x.2 < 0 ∨ 4 < x.2
        · have HX := Lib.hid (acL_kind (b := c) (r := l.drop (k + 1)) hc c2)
          have HI := Lib.hid (show inB x.2 0 4 = false by unfold inB; simp; omega)
          clear hc c2
          go_wp2_with fail
          refine (rcode_any _ _ hz).mono ?_
          rintro e w1 ⟨rfl, hK2⟩
          rw [HC.out]
          obtain ⟨x0, x1, x2⟩ := hX.later hK2
          go_wp2_with fail
          refine (inb_any _ _ _ _).mono ?_
          rintro e w2 ⟨rfl, rfl⟩
          rw [HI.out]
          go_wp2
          go_ret
          exact ⟨ret_int (by rw [HE.out, HD.out, HX.out]), hK1.trans hK2⟩
        · have HI := Lib.hid (show inB x.2 0 4 = true by unfold inB; simp; omega)
          cases hl : leB x.1 c
          · have HX := Lib.hid (acL_next (b := c) (r := l.drop (k + 1)) hc c2 hl)
            clear hc c2
            unfold leB at hl
            go_wp2_with fail
            refine (rcode_any _ _ hz).mono ?_
            rintro e w1 ⟨rfl, hK2⟩
            rw [HC.out]
            obtain ⟨x0, x1, x2⟩ := hX.later hK2
            have hK3 := hK1.trans hK2
            clear hX hK1 hK2 hK kA
            go_wp2_with fail
            refine (inb_any _ _ _ _).mono ?_
            rintro e w2 ⟨rfl, rfl⟩
            rw [HI.out]
            go_wp2
            go_roundw
            case rel => exact ⟨k + 1, _, by omega, by go_num, rfl, Lib.hid (by rw [HE.out, HD.out, HX.out]), hK3⟩
            case measure => simp [intOf]; omega
          · have HX := Lib.hid (acL_le (b := c) (r := l.drop (k + 1)) hc c2 hl)
            clear hc c2
            unfold leB at hl
            go_wp2_with fail
            refine (rcode_any _ _ hz).mono ?_
            rintro e w1 ⟨rfl, hK2⟩
            rw [HC.out]
            obtain ⟨x0, x1, x2⟩ := hX.later hK2
            go_wp2_with fail
            refine (inb_any _ _ _ _).mono ?_
            rintro e w2 ⟨rfl, rfl⟩
            rw [HI.out]
            go_wp2
            go_ret
            exact ⟨ret_int (by rw [HE.out, HD.out, HX.out]), hK1.trans hK2⟩
    · obtain rfl : k = l.length := by omega
      clear hlt
      have HD := Lib.hid (show acL c (l.drop l.length) = 0 by rw [List.drop_length]; rfl)
      go_wp2
      go_ret
      exact ⟨ret_int (by rw [HE.out, HD.out]), hK⟩
theorem raccts_any (a : Option Addr) (l : List Pr) (cap : Nat) (w : World) (hA : PArg w a l) (hs : Shortish l) (hn : l.length ≤ maxLen) :
    Calls Tryz.prog 16 #[.slice a l.length cap] w fun e w' => e = .returned (.int .i64 (acE l)) ∧ Kept w w' := by
  by_cases h : 24 < l.length
  · have e : acE l = 2 := by unfold acE; rw [if_pos h]
    rw [e]
    exact (raccts_large a l cap w h hn).mono fun _ _ ⟨h1, h2⟩ => ⟨h1, h2 ▸ Kept.refl _⟩
  · have e : acE l = acL ⟨#[]⟩ l := by unfold acE; rw [if_neg h]
    rw [e]
    exact raccts_in a l cap w (by omega) hA hs
end Go.Proofs.YtbaahnafmfjpaaaGreatDoor
