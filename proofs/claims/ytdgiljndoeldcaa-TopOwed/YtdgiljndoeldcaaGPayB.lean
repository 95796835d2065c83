/-
  What the library's Clone, IndexFunc and DeleteFunc return of items. No condition but those that each theorem names.
-/
import Derived.Test.YtdgiljndoeldcaaGPayA
import Derived.Lib.SliceRun
namespace Go.Proofs.Ytdgiljndoeldcaa
open Go.RowKit Go.Sort Go.WideShapes
set_option linter.unusedVariables false

theorem il_own {w : World} {g : Nat} {m : List Mv} (lt : g < w.heap.size) (h : ∀ j u, (eP.cat m)[j]? = some u → w.cell? ⟨g, j, none⟩ = some u) (f : ∀ j, j < (eP.cat m).length → w.frozen? ⟨g, j, none⟩ = false) : IL w g m := by
  have hk : eP.k = 2 := rfl
  refine ⟨⟨lt, fun j hj => ?_, fun j hj => ?_⟩⟩
  · rw [tab_len] at hj
    rw [tab_get]
    have hq : j / 2 < m.length := by omega
    have e : itC m (idn (j / 2)) = m[j / 2] := by unfold idn; rw [itC_nat, itN_get m _ hq]
    unfold fl
    rcases (show j = j / 2 * 2 ∨ j = j / 2 * 2 + 1 by omega) with c | c
    · rw [if_pos (by omega), e]
      refine h j _ ?_
      have := eP.cat_get m (j / 2) 0 hq (by decide)
      rw [hk, Nat.add_zero, ← c] at this
      rw [this]; rfl
    · rw [if_neg (by omega), e]
      refine h j _ ?_
      have := eP.cat_get m (j / 2) 1 hq (by decide)
      rw [hk, ← c] at this
      rw [this]; rfl
  · rw [tab_len] at hj
    exact f j (by rw [eP.cat_len, hk]; exact hj)
theorem il_made {w : World} {B : Nat} {v : Value} {m : List Mv} (hm : m ≠ []) (h : w.ownsRow B 31 2 v m.length (eP.cat m)) : ∃ g c, v = .slice (some ⟨g, 0, none⟩) m.length c ∧ B ≤ g ∧ m.length ≤ c ∧ c ≤ maxLen ∧ IL w g m := by
  have hk : eP.k = 2 := rfl
  rcases h.2 with ⟨rfl, h0⟩ | ⟨g, cap, cur, rfl, hb, hg, hn, hm2, hs, ht⟩
  · exact absurd (List.eq_nil_of_length_eq_zero h0) hm
  · refine ⟨g, cap, rfl, hb, hn, hm2, il_own (Array.getElem?_eq_some_iff.1 hg).1 (fun j u hj => ?_) (fun j hj => ?_)⟩
    · have hlt := (List.getElem?_eq_some_iff.1 hj).1
      rw [eP.cat_len] at hlt
      rw [h.cellAt j hlt, hj]
    · rw [frozen_of_row w g j cur _ hg]
/-- A copy that is the call's own. -/
def ClonePost (w : World) (m : List Mv) (e : Ending) (w' : World) : Prop := ∃ g c, e = .returned (.slice (some ⟨g, 0, none⟩) m.length c) ∧ w.heap.size ≤ g ∧ m.length ≤ c ∧ c ≤ maxLen ∧ IL w' g m ∧ Kept w w'
set_option maxHeartbeats 2000000 in
theorem clone_items (p off cap : Nat) (l : List Mv) (w : World) (hn : l.length ≤ 1000) (h0 : l ≠ []) (hR : JRow eP w p off l) :
    Calls Try.prog 30 #[.slice (some ⟨p, off, none⟩) l.length cap] w (ClonePost w l) := by
  have ne : ∀ w : World, (binOp .eql 22 (.slice (some ⟨p, off, none⟩) l.length cap) (.slice none 0 0)).run Try.prog w = .ok (.bool false) w := fun w => by
    rw [Lib.run_eql_slice_nil w 22 31 _ l.length cap 0 0 Try.underlying22]; rfl
  have hK := (Kept.refl w).alloc (.cells #[] 31)
  have hR1 := hR.later hK
  have hl : 0 < l.length := List.length_pos_iff.2 h0
  have hnews : ∀ (j : Nat) (u : Value), (eP.cat l)[j]? = some u → (w.alloc (.cells #[] 31)).cell? ((⟨p, off, none⟩ : Addr).add j) = some u := by
    intro j u hj
    rw [add_plain]; exact hR1.c j u hj
  have hlen : (eP.cat l).length = l.length * 2 := eP.cat_len l
  have H0 := Lib.hid h0
  obtain ⟨i0, hi, hz0, hz1, hz2⟩ := info_parts isItem
  have hz1' : i0.size = 2 := hz1
  clear hR hR1
  go_enter Try.func30, Try.ntmps30
  go_wp2_with (at_builtin; refine wpList_append_grows _ rfl _ _ 22 rfl 31 i0 _ 2 16 Try.underlying22 hi hz0 hz1' hz2 rfl (by decide) (some ⟨w.heap.size, 0, none⟩) 0 0 [] rfl (fun e => by cases e) (by simp) (fun b hb j u hj => by simp at hj) ⟨p, off, none⟩ l.length cap (eP.cat l) rfl hlen hnews (eP.cat_all l) (by omega) (by unfold maxLen; omega) (by omega) ?_)
  intro v' w1 hown hgrow
  obtain ⟨g, c, rfl, hb, hc1, hc2, hI⟩ := il_made H0.out hown
  have hK1 : Kept w w1 := hK.grew hgrow (fun j e => by cases e)
  have hb' : w.heap.size ≤ g := by omega
  go_wp2
  go_ret
  exact ⟨g, c, rfl, hb', hc1, hc2, hI, hK1⟩
/-- .. of nothing. -/
def CloneNil (w : World) (e : Ending) (w' : World) : Prop := ∃ a c, e = .returned (.slice a 0 c) ∧ c ≤ maxLen ∧ (a = none → c = 0) ∧ Kept w w'
set_option maxHeartbeats 2000000 in
theorem clone_none (w : World) :
    Calls Try.prog 30 #[.slice none 0 0] w (CloneNil w) := by
  have ne : ∀ w : World, (binOp .eql 22 (.slice none 0 0) (.slice none 0 0)).run Try.prog w = .ok (.bool true) w := fun w => by
    rw [Lib.run_eql_slice_nil w 22 31 _ 0 0 0 0 Try.underlying22]; rfl
  go_enter Try.func30, Try.ntmps30
  go_wp2
  go_ret
  exact ⟨_, _, rfl, by decide, fun _ => rfl, Kept.refl _⟩
set_option maxHeartbeats 2000000 in
theorem clone_empty (ad : Addr) (cap : Nat) (w : World) :
    Calls Try.prog 30 #[.slice (some ad) 0 cap] w (CloneNil w) := by
  have ne : ∀ w : World, (binOp .eql 22 (.slice (some ad) 0 cap) (.slice none 0 0)).run Try.prog w = .ok (.bool false) w := fun w => by
    rw [Lib.run_eql_slice_nil w 22 31 _ 0 cap 0 0 Try.underlying22]; rfl
  have hK := (Kept.refl w).alloc (.cells #[] 31)
  obtain ⟨i0, hi, hz0, hz1, hz2⟩ := info_parts isItem
  have hsrc : Src Try.prog i0.size 22 (.slice (some ad) 0 cap) 0 [] (w.alloc (.cells #[] 31)) :=
    Src.ofSlice _ Try.underlying22 ad 0 cap [] (by simp) (fun j u hj => by simp at hj) (fun u hu => by cases hu)
  have hr : ∀ ty, _ := fun ty => run_append_nothing (P := Try.prog) (w.alloc (.cells #[] 31)) 22 22 ty 31 i0 Try.underlying22 hi (some ⟨w.heap.size, 0, none⟩) 0 0 (Nat.le_refl _) (.slice (some ad) 0 cap) hsrc
  go_enter Try.func30, Try.ntmps30
  go_wp2_with (at_builtin; refine Lib.wpList_append_run _ rfl _ _ _ _ rfl _ _ rfl rfl _ _ (hr _) ?_)
  go_ret
  exact ⟨_, _, rfl, by decide, fun e => (by cases e), hK⟩
theorem clone_nil (a : Option Addr) (cap : Nat) (h0 : a = none → cap = 0) (w : World) :
    Calls Try.prog 30 #[.slice a 0 cap] w (CloneNil w) := by
  cases a with
  | none => rw [h0 rfl]; exact clone_none w
  | some ad => exact clone_empty ad cap w

/-! IndexFunc. -/
abbrev paidF : Value := .func (.func 41) #[] #[]
/-- The place of the first that is paid, or -1. -/
def fiP (m : List Mv) : Int := if m.findIdx (fun x => x.2 == 0) < m.length then (m.findIdx (fun x => x.2 == 0) : Int) else -1
set_option maxHeartbeats 4000000 in
theorem idx_any (a : Option Addr) (m : List Mv) (cap : Nat) (w : World) (hn : m.length ≤ 1000) (hA : JArg eP w a m) :
    Calls Try.prog 71 #[.slice a m.length cap, paidF] w fun e w' => e = .returned (.int .i64 (fiP m)) ∧ Kept w w' := by
  have HA := Lib.hid hA
  clear hA
  go_enter Try.func71, Try.ntmps71
  go_wp2
  go_loopw [8] (fun i wr => ∃ (k : Nat), k ≤ m.length ∧ i = .int .i64 k ∧ Hid (∀ j (h : j < m.length), j < k → ((m[j]).2 == 0) = false) ∧ Kept w wr) (fun i _ => m.length - (intOf i).toNat)
  case atStart => exact ⟨0, Nat.zero_le _, rfl, Lib.hid (fun j _ h => absurd h (Nat.not_lt_zero _)), Kept.refl _⟩
  case round =>
    obtain ⟨k, hk, rfl, HE, hK⟩ := hrel
    by_cases hlt : k < m.length
    · obtain ⟨p, off, rfl, hR⟩ := HA.out.at hlt
      have hR := hR.later hK
      have c0 := hR.c0 k hlt
      have c1 := hR.c1 k hlt
      have HI := Lib.hid (fun (b : ((m[k]).2 == 0) = true) => show fiP m = k from by
        have e : m.findIdx (fun x => x.2 == 0) = k := (List.findIdx_eq hlt).2 ⟨b, fun j hj => HE.out j (by omega) hj⟩
        unfold fiP
        rw [e, if_pos hlt])
      have NO := Lib.hid (fun (b : ((m[k]).2 == 0) = false) => show ∀ j (h : j < m.length), j < k + 1 → ((m[j]).2 == 0) = false from fun j hj h => by
        by_cases c : j = k
        · subst c; exact b
        · exact HE.out j hj (by omega))
      clear hR
      generalize m[k] = x at *
      by_cases b : (x.2 == 0) = true
      · have H := Lib.hid (HI.out b)
        go_wp2_with fail
        refine (pay2_any x _).mono ?_
        rintro e w1 ⟨rfl, hK1⟩
        rw [b]
        go_wp2
        go_ret
        exact ⟨ret_int H.out.symm, hK.trans hK1⟩
      · have b' : (x.2 == 0) = false := by simpa using b
        have H := Lib.hid (NO.out b')
        clear b
        go_wp2_with fail
        refine (pay2_any x _).mono ?_
        rintro e w1 ⟨rfl, hK1⟩
        rw [b']
        go_wp2
        go_roundw
        case rel => exact ⟨k + 1, by omega, by go_num, H, hK.trans hK1⟩
        case measure => simp [intOf]; omega
    · obtain rfl : k = m.length := by omega
      have Z := Lib.hid (show fiP m = -1 by
        unfold fiP
        rw [if_neg]
        intro c
        have := List.findIdx_getElem (w := c)
        rw [HE.out _ c c] at this
        cases this)
      clear hlt HE
      go_wp2
      go_ret
      exact ⟨ret_int Z.out.symm, hK⟩
end Go.Proofs.Ytdgiljndoeldcaa
