/-
  What package entry's Key and Check return. No condition but those that each theorem names.
-/
import Derived.Test.YtdgiljndoeldcaaHKind
namespace Go.Proofs.Ytdgiljndoeldcaa
open Go.RowKit
set_option linter.unusedVariables false

/-- A byte of a key. -/
def kyB (c : UInt8) : Bool := (decide (97 ≤ c.toNat) && decide (c.toNat ≤ 122)) || (decide (48 ≤ c.toNat) && decide (c.toNat ≤ 57)) || decide (c.toNat = 45)
/-- Nothing but such bytes. -/
def kysB (s : ByteArray) : Bool := s.data.toList.all kyB
/-- P31: a key. -/
def keyB (s : ByteArray) : Bool := decide (1 ≤ s.size) && decide (s.size ≤ 12) && kysB s
set_option maxHeartbeats 1000000 in
theorem kyB_any (c : UInt8) (w : World) :
    Calls Try.prog 103 #[.int .u8 (c.toNat : Int)] w fun e w' => e = .returned (.bool (kyB c)) ∧ w = w' := by
  have h : (97 ≤ c.toNat ∧ c.toNat ≤ 122 ∧ kyB c = true) ∨ (122 < c.toNat ∧ kyB c = false) ∨ (48 ≤ c.toNat ∧ c.toNat ≤ 57 ∧ kyB c = true) ∨ (57 < c.toNat ∧ c.toNat < 97 ∧ kyB c = false) ∨ (c.toNat = 45 ∧ kyB c = true) ∨ (c.toNat < 48 ∧ c.toNat ≠ 45 ∧ kyB c = false) := by
    rcases (show (97 ≤ c.toNat ∧ c.toNat ≤ 122) ∨ (122 < c.toNat) ∨ (48 ≤ c.toNat ∧ c.toNat ≤ 57) ∨ (57 < c.toNat ∧ c.toNat < 97) ∨ (c.toNat = 45) ∨ (c.toNat < 48 ∧ c.toNat ≠ 45) by omega) with h | h | h | h | h | h
    · exact .inl ⟨h.1, h.2, by unfold kyB; simp [h.1, h.2]⟩
    · exact .inr (.inl ⟨h, by unfold kyB; simp; omega⟩)
    · exact .inr (.inr (.inl ⟨h.1, h.2, by unfold kyB; simp [h.1, h.2]⟩))
    · exact .inr (.inr (.inr (.inl ⟨h.1, h.2, by unfold kyB; simp; omega⟩)))
    · exact .inr (.inr (.inr (.inr (.inl ⟨h, by unfold kyB; simp [h]⟩))))
    · exact .inr (.inr (.inr (.inr (.inr ⟨h.1, h.2, by unfold kyB; simp; omega⟩))))
  have hz : (c.toNat : Int) ≤ 255 := by have := c.toNat_lt; omega
  generalize c.toNat = n at *
  rcases h with ⟨h1, h2, h3⟩ | ⟨h1, h3⟩ | ⟨h1, h2, h3⟩ | ⟨h1, h2, h3⟩ | ⟨h1, h3⟩ | ⟨h1, h2, h3⟩
  · have g1 : (97 : Int) ≤ n := by omega
    have g2 : (n : Int) ≤ 122 := by omega
    have H := Lib.hid h3
    clear h1 h2 h3
    go_enter Try.func103, Try.ntmps103
    go_wp2
    go_ret
    exact ⟨ret_bool H.out.symm, rfl⟩
  · have g1 : (97 : Int) ≤ n := by omega
    have g2 : ¬ (n : Int) ≤ 122 := by omega
    have g3 : (48 : Int) ≤ n := by omega
    have g4 : ¬ (n : Int) ≤ 57 := by omega
    have g5 : ((n : Int) == 45) = false := by rw [beq_eq_false_iff_ne]; omega
    have H := Lib.hid h3
    clear h1 h3
    go_enter Try.func103, Try.ntmps103
    go_wp2
    go_ret
    exact ⟨ret_bool H.out.symm, rfl⟩
  · have g1 : ¬ (97 : Int) ≤ n := by omega
    have g3 : (48 : Int) ≤ n := by omega
    have g4 : (n : Int) ≤ 57 := by omega
    have H := Lib.hid h3
    clear h1 h2 h3
    go_enter Try.func103, Try.ntmps103
    go_wp2
    go_ret
    exact ⟨ret_bool H.out.symm, rfl⟩
  · have g1 : ¬ (97 : Int) ≤ n := by omega
    have g3 : (48 : Int) ≤ n := by omega
    have g4 : ¬ (n : Int) ≤ 57 := by omega
    have g5 : ((n : Int) == 45) = false := by rw [beq_eq_false_iff_ne]; omega
    have H := Lib.hid h3
    clear h1 h2 h3
    go_enter Try.func103, Try.ntmps103
    go_wp2
    go_ret
    exact ⟨ret_bool H.out.symm, rfl⟩
  · subst h1
    have H := Lib.hid h3
    clear h3
    go_enter Try.func103, Try.ntmps103
    go_wp2
    go_ret
    exact ⟨ret_bool H.out.symm, rfl⟩
  · have g1 : ¬ (97 : Int) ≤ n := by omega
    have g3 : ¬ (48 : Int) ≤ n := by omega
    have g5 : ((n : Int) == 45) = false := by rw [beq_eq_false_iff_ne]; omega
    have H := Lib.hid h3
    clear h1 h2 h3
    go_enter Try.func103, Try.ntmps103
    go_wp2
    go_ret
    exact ⟨ret_bool H.out.symm, rfl⟩
set_option maxHeartbeats 1000000 in
theorem key_long (s : ByteArray) (w : World) (h : s.size < 1 ∨ 12 < s.size) (hs : s.size ≤ maxLen) :
    Calls Try.prog 95 #[.string s] w fun e w' => e = .returned (.bool false) ∧ w = w' := by
  unfold maxLen at hs
  rcases h with h | h
  · have h1 : (s.size : Int) < 1 := by omega
    go_enter Try.func95, Try.ntmps95
    go_wp2
    go_ret
    exact ⟨rfl, rfl⟩
  · have h1 : ¬ (s.size : Int) < 1 := by omega
    have h2 : 12 < (s.size : Int) := by omega
    go_enter Try.func95, Try.ntmps95
    go_wp2
    go_ret
    exact ⟨rfl, rfl⟩
set_option maxHeartbeats 1000000 in
theorem key_in (s : ByteArray) (w : World) (h1 : 1 ≤ s.size) (h8 : s.size ≤ 12) :
    Calls Try.prog 95 #[.string s] w fun e w' => e = .returned (.bool (kysB s)) ∧ w = w' := by
  go_enter Try.func95, Try.ntmps95
  go_wp2
  go_loop [14] (fun i => ∃ k : Nat, k ≤ s.size ∧ i = .int .i64 k ∧ (s.data.toList.take k).all kyB = true) (fun i => s.size - (intOf i).toNat)
  case atStart => exact ⟨0, Nat.zero_le _, rfl, rfl⟩
  case round =>
    obtain ⟨k, hk, rfl, ha⟩ := hrel
    by_cases hlt : k < s.size
    · have HT := Lib.hid (take_snoc s k hlt)
      have HA := Lib.hid ha
      clear ha
      cases hc : kyB s[k]
      · have HN := Lib.hid (show kysB s = false from all_no (p := kyB) hlt hc)
        have HC := Lib.hid hc
        clear hc
        go_wp2_with fail
        refine (kyB_any s[k] _).mono ?_
        rintro e w1 ⟨rfl, rfl⟩
        rw [HC.out]
        go_wp2
        go_ret
        exact ⟨ret_bool HN.out.symm, rfl⟩
      · have HC := Lib.hid hc
        clear hc
        go_wp2_with fail
        refine (kyB_any s[k] _).mono ?_
        rintro e w1 ⟨rfl, rfl⟩
        rw [HC.out]
        go_wp2
        go_round
        case rel => exact ⟨k + 1, by omega, by go_num, by rw [HT.out, List.all_append, HA.out]; simp [HC.out]⟩
        case measure => simp [intOf]; omega
    · obtain rfl : k = s.size := by omega
      have HA := Lib.hid ha
      clear ha
      go_wp2
      go_ret
      exact ⟨ret_bool (by rw [← HA.out, take_all]; rfl), rfl⟩
theorem key_any (s : ByteArray) (w : World) (hs : s.size ≤ maxLen) :
    Calls Try.prog 95 #[.string s] w fun e w' => e = .returned (.bool (keyB s)) ∧ w = w' := by
  by_cases h : 1 ≤ s.size ∧ s.size ≤ 12
  · have e : keyB s = kysB s := by unfold keyB; simp [h]
    rw [e]; exact key_in s w h.1 h.2
  · have e : keyB s = false := by unfold keyB; simp; omega
    rw [e]; exact key_long s w (by omega) hs
/-- The error of a key and a day. -/
def hdE (k : ByteArray) (d : Int) : Int := if keyB k = true then (if d < 0 ∨ 292193 < d then 1 else 0) else 3
set_option maxHeartbeats 1000000 in
theorem head_any (k : ByteArray) (d : Int) (w : World) (hs : k.size ≤ maxLen) :
    Calls Try.prog 79 #[.string k, .int .i64 d] w fun e w' => e = .returned (.int .i64 (hdE k d)) ∧ w = w' := by
  cases hk : keyB k
  · have E := Lib.hid (show hdE k d = 3 by unfold hdE; rw [if_neg (by simp [hk])])
    have K := Lib.hid hk
    clear hk
    go_enter Try.func79, Try.ntmps79
    go_wp2_with fail
    refine (key_any _ _ hs).mono ?_
    rintro e w1 ⟨rfl, rfl⟩
    rw [K.out]
    go_wp2
    go_ret
    exact ⟨ret_int E.out.symm, rfl⟩
  · by_cases h : d < 0 ∨ 292193 < d
    · have E := Lib.hid (show hdE k d = 1 by unfold hdE; rw [if_pos hk, if_pos h])
      have K := Lib.hid hk
      clear hk
      have h' : d < 0 ∨ (¬ d < 0 ∧ 292193 < d) := by omega
      clear h
      rcases h' with h | ⟨h, h2⟩
      all_goals
        go_enter Try.func79, Try.ntmps79
        go_wp2_with fail
        refine (key_any _ _ hs).mono ?_
        rintro e w1 ⟨rfl, rfl⟩
        rw [K.out]
        go_wp2
        go_ret
        exact ⟨ret_int E.out.symm, rfl⟩
    · have E := Lib.hid (show hdE k d = 0 by unfold hdE; rw [if_pos hk, if_neg h])
      have K := Lib.hid hk
      clear hk
      have h1 : ¬ d < 0 := by omega
      have h2 : ¬ 292193 < d := by omega
      clear h
      go_enter Try.func79, Try.ntmps79
      go_wp2_with fail
      refine (key_any _ _ hs).mono ?_
      rintro e w1 ⟨rfl, rfl⟩
      rw [K.out]
      go_wp2
      go_ret
      exact ⟨ret_int E.out.symm, rfl⟩
/-- Has one of these lines the code? -/
def hasB (s : ByteArray) (l : List Pr) : Bool := l.any fun y => y.1.toList == s.toList
/-- A slice of lines, and the line that was boxed. -/
abbrev fnLine (bx : Nat) : Value := .func (.func 97) #[] #[.pointer (some ⟨bx, 0, none⟩)]
set_option maxHeartbeats 1000000 in
theorem lclo_any (bx : Nat) (x y : Pr) (w : World) (hB : PBx w bx x) :
    Calls Try.prog 97 #[.agg #[.string y.1, .int .i64 y.2], .pointer (some ⟨bx, 0, none⟩)] w fun e w' => e = .returned (.bool (y.1.toList == x.1.toList)) ∧ Kept w w' := by
  have hK := (Kept.refl w).alloc (.cells #[.string y.1, .int .i64 y.2] 97)
  obtain ⟨b0, b1, b2⟩ := hB.later hK
  obtain ⟨b3, _, _⟩ := hB
  go_enter Try.func97, Try.ntmps97
  go_wp2
  go_ret
  exact ⟨rfl, hK⟩
theorem pany_snoc {P : Pr → Bool} {l : List Pr} {k : Nat} (h : k < l.length) (a : (l.take k).any P = false) (b : P l[k] = false) : (l.take (k + 1)).any P = false := by
  rw [List.take_succ_eq_append_getElem h, List.any_append, a]; simp [b]
theorem pany_at {P : Pr → Bool} {l : List Pr} {k : Nat} (h : k < l.length) (b : P l[k] = true) : l.any P = true := by
  rw [List.any_eq_true]; exact ⟨_, List.getElem_mem _, b⟩
/-- A place, if there is one; else -1. -/
def PlaceK (b : Bool) (w : World) (e : Ending) (w' : World) : Prop := ∃ n : Int, e = .returned (.int .i64 n) ∧ decide (0 ≤ n) = b ∧ Kept w w'
set_option maxHeartbeats 2000000 in
theorem lindex_any (bx : Nat) (x : Pr) (l : List Pr) (a : Option Addr) (cap : Nat) (w : World) (hn : l.length ≤ 1000) (hA : PArg w a l) (hB : PBx w bx x) :
    Calls Try.prog 104 #[.slice a l.length cap, fnLine bx] w (PlaceK (hasB x.1 l) w) := by
  have HA := Lib.hid hA
  have HB := Lib.hid hB
  clear hA hB
  go_enter Try.func104, Try.ntmps104
  go_wp2
  go_loopw [8] (fun i wr => ∃ k : Nat, k ≤ l.length ∧ i = .int .i64 k ∧ Hid ((l.take k).any (fun y => y.1.toList == x.1.toList) = false) ∧ Kept w wr) (fun i _ => (l.length - intOf i).toNat)
  case atStart => exact ⟨0, by omega, rfl, Lib.hid rfl, Kept.refl _⟩
  case round =>
    obtain ⟨k, hk, rfl, HK, hK⟩ := hrel
    by_cases hlt : k < l.length
    · obtain ⟨p, off, rfl, hp⟩ := (HA.out.later hK).at hlt
      have c0 := hp.c0 k hlt
      have c1 := hp.c1 k hlt
      clear hp
      cases hc : ((l[k]).1.toList == x.1.toList)
      · have HN := Lib.hid (pany_snoc hlt HK.out hc)
        have HC := Lib.hid hc
        clear hc
        generalize l[k] = y at *
        go_wp2_with fail
        refine (lclo_any bx x y _ (HB.out.later hK)).mono ?_
        rintro e w1 ⟨rfl, hK1⟩
        rw [HC.out]
        have hK2 := hK.trans hK1
        clear hK hK1 c0 c1
        go_wp2
        go_roundw
        case rel => exact ⟨k + 1, by omega, by go_num, HN, hK2⟩
        case measure => simp [intOf]; omega
      · have HN := Lib.hid (show hasB x.1 l = true from pany_at hlt hc)
        have HC := Lib.hid hc
        clear hc
        generalize l[k] = y at *
        go_wp2_with fail
        refine (lclo_any bx x y _ (HB.out.later hK)).mono ?_
        rintro e w1 ⟨rfl, hK1⟩
        rw [HC.out]
        have hK2 := hK.trans hK1
        clear hK hK1 c0 c1
        go_wp2
        go_ret
        exact ⟨k, rfl, by rw [HN.out]; simp, hK2⟩
    · obtain rfl : k = l.length := by omega
      clear hlt
      have HN := Lib.hid (show hasB x.1 l = false by have := HK.out; rw [List.take_length] at this; exact this)
      go_wp2
      go_ret
      exact ⟨-1, rfl, by rw [HN.out]; rfl, hK⟩
set_option maxHeartbeats 1000000 in
theorem lhas_any (bx : Nat) (x : Pr) (l : List Pr) (a : Option Addr) (cap : Nat) (w : World) (hn : l.length ≤ 1000) (hA : PArg w a l) (hB : PBx w bx x) :
    Calls Try.prog 96 #[.slice a l.length cap, fnLine bx] w fun e w' => e = .returned (.bool (hasB x.1 l)) ∧ Kept w w' := by
  have HX := Lib.hid (lindex_any bx x l a cap w hn hA hB)
  clear hA hB
  go_enter Try.func96, Try.ntmps96
  go_wp2_with fail
  refine HX.out.mono ?_
  rintro e w1 ⟨n, rfl, hb, hK⟩
  have HB := Lib.hid hb
  clear hb
  go_wp2
  go_ret
  exact ⟨ret_bool HB.out, hK⟩
/-- The error of a line behind others. -/
def lnE (x : Pr) (l : List Pr) : Int := if codeB x.1 = true then (if x.2 < -1000000000000 ∨ 1000000000000 < x.2 ∨ x.2 = 0 then 1 else if hasB x.1 l = true then 5 else 0) else 3
set_option maxHeartbeats 2000000 in
theorem line_any (x : Pr) (l : List Pr) (a : Option Addr) (n cap : Nat) (w : World) (hs : x.1.size ≤ maxLen) (hn : l.length ≤ 1000) (hl : l.length = n) (hA : PArg w a l) :
    Calls Try.prog 80 #[.agg #[.string x.1, .int .i64 x.2], .slice a n cap] w fun e w' => e = .returned (.int .i64 (lnE x l)) ∧ Kept w w' := by
  subst hl
  have hK := (Kept.refl w).alloc (.cells #[.string x.1, .int .i64 x.2] 97)
  have HX := Lib.hid (lhas_any w.heap.size x l a cap (w.alloc (.cells #[.string x.1, .int .i64 x.2] 97)) hn (hA.later hK) (PBx.new w x 97))
  clear hA
  cases hc : codeB x.1
  · have E := Lib.hid (show lnE x l = 3 by unfold lnE; rw [if_neg (by simp [hc])])
    have C := Lib.hid hc
    clear hc HX
    go_enter Try.func80, Try.ntmps80
    go_wp2_with fail
    refine (code_any _ _ hs).mono ?_
    rintro e w1 ⟨rfl, rfl⟩
    rw [C.out]
    go_wp2
    go_ret
    exact ⟨ret_int E.out.symm, hK⟩
  · by_cases h : x.2 < -1000000000000 ∨ 1000000000000 < x.2 ∨ x.2 = 0
    · have E := Lib.hid (show lnE x l = 1 by unfold lnE; rw [if_pos hc, if_pos h])
      have C := Lib.hid hc
      clear hc HX
      have h' : x.2 < -1000000000000 ∨ (¬ x.2 < -1000000000000 ∧ 1000000000000 < x.2) ∨ (¬ x.2 < -1000000000000 ∧ ¬ 1000000000000 < x.2 ∧ (x.2 == 0) = true) := by
        rcases h with h | h | h
        · exact .inl h
        · exact .inr (.inl ⟨by omega, h⟩)
        · exact .inr (.inr ⟨by omega, by omega, by simp [h]⟩)
      clear h
      rcases h' with h | ⟨h, h2⟩ | ⟨h, h2, h3⟩
      all_goals
        go_enter Try.func80, Try.ntmps80
        go_wp2_with fail
        refine (code_any _ _ hs).mono ?_
        rintro e w1 ⟨rfl, rfl⟩
        rw [C.out]
        go_wp2
        go_ret
        exact ⟨ret_int E.out.symm, hK⟩
    · cases hh : hasB x.1 l
      · have E := Lib.hid (show lnE x l = 0 by unfold lnE; rw [if_pos hc, if_neg h, if_neg (by simp [hh])])
        have C := Lib.hid hc
        have Hh := Lib.hid hh
        have h1 : ¬ x.2 < -1000000000000 := by omega
        have h2 : ¬ 1000000000000 < x.2 := by omega
        have h3 : (x.2 == 0) = false := by rw [beq_eq_false_iff_ne]; omega
        clear hc h hh
        go_enter Try.func80, Try.ntmps80
        go_wp2_with fail
        refine (code_any _ _ hs).mono ?_
        rintro e w1 ⟨rfl, rfl⟩
        rw [C.out]
        go_wp2_with fail
        refine HX.out.mono ?_
        rintro e w2 ⟨rfl, hK2⟩
        rw [Hh.out]
        go_wp2
        go_ret
        exact ⟨ret_int E.out.symm, hK.trans hK2⟩
      · have E := Lib.hid (show lnE x l = 5 by unfold lnE; rw [if_pos hc, if_neg h, if_pos hh])
        have C := Lib.hid hc
        have Hh := Lib.hid hh
        have h1 : ¬ x.2 < -1000000000000 := by omega
        have h2 : ¬ 1000000000000 < x.2 := by omega
        have h3 : (x.2 == 0) = false := by rw [beq_eq_false_iff_ne]; omega
        clear hc h hh
        go_enter Try.func80, Try.ntmps80
        go_wp2_with fail
        refine (code_any _ _ hs).mono ?_
        rintro e w1 ⟨rfl, rfl⟩
        rw [C.out]
        go_wp2_with fail
        refine HX.out.mono ?_
        rintro e w2 ⟨rfl, hK2⟩
        rw [Hh.out]
        go_wp2
        go_ret
        exact ⟨ret_int E.out.symm, hK.trans hK2⟩
end Go.Proofs.Ytdgiljndoeldcaa
