/-
  What package acct's Code and Check return. No condition but those that each theorem names.
-/
import Derived.Test.YtdgiljndoeldcaaMgSWalkA
namespace Go.Proofs.Ytdgiljndoeldcaa
open Go.RowKit

set_option maxHeartbeats 1000000 in
theorem code_long (s : ByteArray) (w : World) (h : s.size < 1 ∨ 8 < s.size) (hs : s.size ≤ maxLen) :
    Calls Try.prog 94 #[.string s] w fun e w' => e = .returned (.bool false) ∧ w = w' := by
  unfold maxLen at hs
  rcases h with h | h
  · have h1 : (s.size : Int) < 1 := by omega
    go_enter Try.func94, Try.ntmps94
    go_wp2
    go_ret
    exact ⟨rfl, rfl⟩
  · have h1 : ¬ (s.size : Int) < 1 := by omega
    have h2 : 8 < (s.size : Int) := by omega
    go_enter Try.func94, Try.ntmps94
    go_wp2
    go_ret
    exact ⟨rfl, rfl⟩
set_option maxHeartbeats 1000000 in
theorem code_in (s : ByteArray) (w : World) (h1 : 1 ≤ s.size) (h8 : s.size ≤ 8) :
    Calls Try.prog 94 #[.string s] w fun e w' => e = .returned (.bool (digB s)) ∧ w = w' := by
  go_enter Try.func94, Try.ntmps94
  go_wp2
  go_loop [14] (fun i => ∃ k : Nat, k ≤ s.size ∧ i = .int .i64 k ∧ (s.data.toList.take k).all dgB = true) (fun i => s.size - (intOf i).toNat)
  case atStart => exact ⟨0, Nat.zero_le _, rfl, rfl⟩
  case round =>
    obtain ⟨k, hk, rfl, ha⟩ := hrel
    by_cases hlt : k < s.size
    · have HT := Lib.hid (take_snoc s k hlt)
      have HA := Lib.hid ha
      clear ha
      by_cases c1 : (s[k].toNat : Int) < 48
      · have HN := Lib.hid (show digB s = false from all_no (p := dgB) hlt (by unfold dgB; simp; omega))
        go_wp2
        go_ret
        exact ⟨ret_bool HN.out.symm, rfl⟩
      · by_cases c2 : 57 < (s[k].toNat : Int)
        · have HN := Lib.hid (show digB s = false from all_no (p := dgB) hlt (by unfold dgB; simp; omega))
          go_wp2
          go_ret
          exact ⟨ret_bool HN.out.symm, rfl⟩
        · have HD := Lib.hid (show dgB s[k] = true by unfold dgB; simp; omega)
          go_wp2
          go_round
          case rel => exact ⟨k + 1, by omega, by go_num, by rw [HT.out, List.all_append, HA.out]; simp [HD.out]⟩
          case measure => simp [intOf]; omega
    · obtain rfl : k = s.size := by omega
      have HA := Lib.hid ha
      clear ha
      go_wp2
      go_ret
      exact ⟨ret_bool (by rw [← HA.out, take_all]; rfl), rfl⟩
theorem code_any (s : ByteArray) (w : World) (hs : s.size ≤ maxLen) :
    Calls Try.prog 94 #[.string s] w fun e w' => e = .returned (.bool (codeB s)) ∧ w = w' := by
  by_cases h : 1 ≤ s.size ∧ s.size ≤ 8
  · have e : codeB s = digB s := by unfold codeB; simp [h]
    rw [e]; exact code_in s w h.1 h.2
  · have e : codeB s = false := by unfold codeB; simp; omega
    rw [e]; exact code_long s w (by omega) hs

theorem acL_form {b : ByteArray} {x : Pr} {r : List Pr} (h : codeB x.1 = false) : acL b (x :: r) = 3 := by unfold acL; rw [if_neg (by simp [h])]
theorem acL_kind {b : ByteArray} {x : Pr} {r : List Pr} (h : codeB x.1 = true) (k : x.2 < 0 ∨ 4 < x.2) : acL b (x :: r) = 1 := by rw [acL, if_pos h, if_pos k]
theorem acL_le {b : ByteArray} {x : Pr} {r : List Pr} (h : codeB x.1 = true) (k : ¬ (x.2 < 0 ∨ 4 < x.2)) (l : leB x.1 b = true) : acL b (x :: r) = 3 := by rw [acL, if_pos h, if_neg k, if_pos l]
theorem acL_next {b : ByteArray} {x : Pr} {r : List Pr} (h : codeB x.1 = true) (k : ¬ (x.2 < 0 ∨ 4 < x.2)) (l : leB x.1 b = false) : acL b (x :: r) = acL x.1 r := by rw [acL, if_pos h, if_neg k, if_neg (by simp [l])]
/-- The texts of a row are no longer than a text may be. -/
def Shortish (l : List Pr) : Prop := ∀ x ∈ l, x.1.size ≤ maxLen
set_option maxHeartbeats 1000000 in
theorem acheck_largeA (a : Option Addr) (l : List Pr) (cap : Nat) (w : World) (h : 24 < l.length) (hn : l.length ≤ maxLen) :
    Calls Try.prog 77 #[.slice a l.length cap] w fun e w' => e = .returned (.int .i64 2) ∧ w = w' := by
  unfold maxLen at hn
  go_enter Try.func77, Try.ntmps77
  go_wp2
  go_ret
  exact ⟨rfl, rfl⟩
set_option maxHeartbeats 2000000 in
theorem acheck_inA (a : Option Addr) (l : List Pr) (cap : Nat) (w : World) (h : l.length ≤ 24) (hA : PArg w a l) (hs : Shortish l) :
    Calls Try.prog 77 #[.slice a l.length cap] w fun e w' => e = .returned (.int .i64 (acL ⟨#[]⟩ l)) ∧ Kept w w' := by
  have HA := Lib.hid hA
  have HS := Lib.hid hs
  clear hA hs
  go_enter Try.func77, Try.ntmps77
  go_wp2
  go_loopw [3, 11] (fun b i wr => ∃ (k : Nat) (c : ByteArray), k ≤ l.length ∧ i = .int .i64 k ∧ b = .string c ∧ Hid (acL ⟨#[]⟩ l = acL c (l.drop k)) ∧ Kept w wr) (fun _ i _ => l.length - (intOf i).toNat)
  case atStart => exact ⟨0, _, Nat.zero_le _, rfl, rfl, Lib.hid rfl, Kept.refl _⟩
  case round =>
    obtain ⟨k, c, hk, rfl, rfl, HE, hK⟩ := hrel
    by_cases hlt : k < l.length
    · obtain ⟨p, off, rfl, hR⟩ := HA.out.at hlt
      have hR := hR.later hK
      have c0 := hR.c0 k hlt
      have c1 := hR.c1 k hlt
      have plt := hR.lt
      have HD := Lib.hid (drop_at l k hlt)
      have hz := HS.out l[k] (List.getElem_mem _)
      clear hR
      generalize l[k] = x at *
      cases hc : codeB x.1
      · have HX := Lib.hid (acL_form (b := c) (r := l.drop (k + 1)) hc)
        have HC := Lib.hid hc
        clear hc
        go_wp2_with fail
        refine (code_any _ _ hz).mono ?_
        rintro e w1 ⟨rfl, rfl⟩
        rw [HC.out]
        go_wp2
        go_ret
        exact ⟨ret_int (by rw [HE.out, HD.out, HX.out]), hK.alloc _⟩
      · by_cases c2 : x.2 < 0 ∨ 4 < x.2
        · have HX := Lib.hid (acL_kind (b := c) (r := l.drop (k + 1)) hc c2)
          have HC := Lib.hid hc
          clear hc
          have c3 : x.2 < 0 ∨ (¬ x.2 < 0 ∧ 4 < x.2) := by omega
          clear c2
          rcases c3 with c3 | ⟨c3, c4⟩
          all_goals
            go_wp2_with fail
            refine (code_any _ _ hz).mono ?_
            rintro e w1 ⟨rfl, rfl⟩
            rw [HC.out]
            go_wp2
            go_ret
            exact ⟨ret_int (by rw [HE.out, HD.out, HX.out]), hK.alloc _⟩
        · cases hl : leB x.1 c
          · have HX := Lib.hid (acL_next (b := c) (r := l.drop (k + 1)) hc c2 hl)
            have HC := Lib.hid hc
            clear hc
            have c3 : ¬ x.2 < 0 := by omega
            have c4 : ¬ 4 < x.2 := by omega
            clear c2
            unfold leB at hl
            go_wp2_with fail
            refine (code_any _ _ hz).mono ?_
            rintro e w1 ⟨rfl, rfl⟩
            rw [HC.out]
            go_wp2
            go_roundw
            case rel => exact ⟨k + 1, _, by omega, by go_num, rfl, Lib.hid (by rw [HE.out, HD.out, HX.out]), hK.alloc _⟩
            case measure => simp [intOf]; omega
          · have HX := Lib.hid (acL_le (b := c) (r := l.drop (k + 1)) hc c2 hl)
            have HC := Lib.hid hc
            clear hc
            have c3 : ¬ x.2 < 0 := by omega
            have c4 : ¬ 4 < x.2 := by omega
            clear c2
            unfold leB at hl
            go_wp2_with fail
            refine (code_any _ _ hz).mono ?_
            rintro e w1 ⟨rfl, rfl⟩
            rw [HC.out]
            go_wp2
            go_ret
            exact ⟨ret_int (by rw [HE.out, HD.out, HX.out]), hK.alloc _⟩
    · obtain rfl : k = l.length := by omega
      clear hlt
      have HD := Lib.hid (show acL c (l.drop l.length) = 0 by rw [List.drop_length]; rfl)
      go_wp2
      go_ret
      exact ⟨ret_int (by rw [HE.out, HD.out]), hK⟩
/-- What package acct's Check returns. -/
theorem acheck_anyA (a : Option Addr) (l : List Pr) (cap : Nat) (w : World) (hA : PArg w a l) (hs : Shortish l) (hn : l.length ≤ maxLen) :
    Calls Try.prog 77 #[.slice a l.length cap] w fun e w' => e = .returned (.int .i64 (acE l)) ∧ Kept w w' := by
  by_cases h : 24 < l.length
  · have e : acE l = 2 := by unfold acE; rw [if_pos h]
    rw [e]
    exact (acheck_largeA a l cap w h hn).mono fun _ _ ⟨h1, h2⟩ => ⟨h1, h2 ▸ Kept.refl _⟩
  · have e : acE l = acL ⟨#[]⟩ l := by unfold acE; rw [if_neg h]
    rw [e]
    exact acheck_inA a l cap w (by omega) hA hs
end Go.Proofs.Ytdgiljndoeldcaa
