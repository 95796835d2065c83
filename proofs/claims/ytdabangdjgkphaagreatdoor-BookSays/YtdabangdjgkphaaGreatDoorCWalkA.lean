/-
  The reference of codes and keys: talref's Code, Key, Day, Money. No condition but those that each theorem names.
-/
import Derived.Test.YtdabangdjgkphaaGreatDoorCShelf
import Derived.Test.YtdabangdjgkphaaGreatDoorBWalkC
import Derived.Test.YtdabangdjgkphaaGreatDoorAMath
import Derived.Lib.IndexAny
namespace Go.Proofs.YtdabangdjgkphaaGreatDoor
open Go.RowKit
set_option linter.unusedVariables false

/-- The ten digits. -/
def tensL : List UInt8 := [48, 49, 50, 51, 52, 53, 54, 55, 56, 57]
theorem tens_dg (c : UInt8) : tensL.contains c = dgB c := by
  have : ∀ n : Fin 256, tensL.contains (UInt8.ofNat n.val) = dgB (UInt8.ofNat n.val) := by decide +kernel
  have h := this ⟨c.toNat, c.toNat_lt⟩
  simpa using h
theorem drop_nil {p : UInt8 → Bool} : ∀ l : List UInt8, l.dropWhile p = [] ↔ l.all p = true
  | [] => by simp
  | x :: r => by
    rw [List.dropWhile_cons]
    by_cases h : p x = true
    · rw [if_pos h, drop_nil r]; simp [h]
    · rw [if_neg h]; simp [h]
theorem trim_nil (l : List UInt8) : Lib.trimS l tensL = [] ↔ l.all dgB = true := by
  have e : (fun c => tensL.contains c) = dgB := funext tens_dg
  unfold Lib.trimS Lib.trimLeftS Lib.trimRightS
  simp only [e]
  constructor
  · intro h
    have h1 := (drop_nil _).1 h
    rw [List.all_reverse] at h1
    have h2 : (l.reverse.dropWhile dgB) = [] := by
      cases q : l.reverse.dropWhile dgB with
      | nil => rfl
      | cons x r =>
        rw [q] at h1
        have hx : dgB x = true := by simp at h1; exact h1.1
        have := List.head?_dropWhile_not dgB l.reverse
        rw [q] at this
        simp [hx] at this
    have := (drop_nil _).1 h2
    rw [List.all_reverse] at this
    exact this
  · intro h
    have : l.reverse.dropWhile dgB = [] := (drop_nil _).2 (by rw [List.all_reverse]; exact h)
    rw [this]; rfl
/-- What strings.Trim leaves of a text at the ten digits. -/
def trimT (s : ByteArray) : ByteArray := ⟨(Lib.trimS s.data.toList tensL).toArray⟩
theorem trim_any (s : ByteArray) (w : World) (hs : s.size ≤ maxLen) :
    Calls Tryz.prog 69 #[.string s, .string ⟨#[48, 49, 50, 51, 52, 53, 54, 55, 56, 57]⟩] w fun e w' => e = .returned (.string (trimT s)) ∧ Kept w w' := by
  have hcon := Any.strings_Trim_laid Tryz.lays160 (by kernel_rfl) s ⟨#[48, 49, 50, 51, 52, 53, 54, 55, 56, 57]⟩ w hs (by decide) (ascii_of_all (by decide))
  exact hcon
theorem trimT_iff (s : ByteArray) : ((trimT s).toList == []) = digB s := by
  rw [Bool.eq_iff_iff, beq_iff_eq, Lib.toList_data]
  unfold trimT digB
  exact trim_nil _
set_option maxHeartbeats 1000000 in
theorem rclo_any (c : UInt8) (w : World) (h : dgB c = true) :
    Calls Tryz.prog 71 #[.int .i32 (c.toNat : Int)] w fun e w' => e = .returned (.bool false) ∧ w = w' := by
  have h1 : 48 ≤ c.toNat ∧ c.toNat ≤ 57 := by unfold dgB at h; simpa using h
  have g1 : ¬ (c.toNat : Int) < 48 := by omega
  have g2 : ¬ 57 < (c.toNat : Int) := by omega
  clear h h1
  generalize c.toNat = n at *
  go_enter Tryz.func71, Tryz.ntmps71
  go_wp2
  go_ret
  exact ⟨rfl, rfl⟩
theorem dig_at {s : ByteArray} (h : digB s = true) {k : Nat} (hk : k < s.size) : dgB s[k] = true := by
  unfold digB at h
  rw [List.all_eq_true] at h
  exact h _ (mem_at s k hk)
set_option maxRecDepth 100000 in
set_option maxHeartbeats 2000000 in
theorem idx_none (s : ByteArray) (w : World) (hd : digB s = true) :
    Calls Tryz.prog 116 #[.string s, .func (.func 71) #[] #[], .bool true] w fun e w' => e = .returned (.int .i64 (-1)) ∧ Kept w w' := by
  have HD := Lib.hid hd
  clear hd
  go_enter Tryz.func116, Tryz.ntmps116
  go_wp2
  go_loopw [] (fun wr => ∃ k : Nat, k ≤ s.size ∧ wr = w.iter s k) (fun wr => s.size - wr.iterPos w.heap.size)
  case atStart => exact ⟨0, Nat.zero_le _, rfl⟩
  case round =>
    obtain ⟨k, hk, rfl⟩ := hrel
    by_cases hlt : k < s.size
    · have hb := dig_at HD.out hlt
      have h1 : 48 ≤ (s[k]).toNat ∧ (s[k]).toNat ≤ 57 := by unfold dgB at hb; simpa using hb
      have hnx := fun ty => run_next_ascii (P := Tryz.prog) w s k ty hlt (by omega)
      have HB := Lib.hid hb
      clear hb h1
      go_wp2_with fail
      refine (rclo_any s[k] _ HB.out).mono ?_
      rintro e w1 ⟨rfl, rfl⟩
      go_wp2
      go_roundw
      case rel => exact ⟨k + 1, by omega, rfl⟩
      case measure => simp [World.iterPos, World.iter_heap]; omega
    · have hnx := fun ty => run_next_end (P := Tryz.prog) w s k ty hlt
      go_wp2
      go_ret
      exact ⟨rfl, (Kept.refl w).alloc _⟩
set_option maxHeartbeats 1000000 in
theorem idxF_none (s : ByteArray) (w : World) (hd : digB s = true) :
    Calls Tryz.prog 105 #[.string s, .func (.func 71) #[] #[]] w fun e w' => e = .returned (.int .i64 (-1)) ∧ Kept w w' := by
  have HX := Lib.hid (idx_none s w hd)
  clear hd
  go_enter Tryz.func105, Tryz.ntmps105
  go_wp2_with fail
  refine HX.out.mono ?_
  rintro e w1 ⟨rfl, hK⟩
  go_wp2
  go_ret
  exact ⟨rfl, hK⟩
set_option maxHeartbeats 1000000 in
theorem conF_none (s : ByteArray) (w : World) (hd : digB s = true) :
    Calls Tryz.prog 70 #[.string s, .func (.func 71) #[] #[]] w fun e w' => e = .returned (.bool false) ∧ Kept w w' := by
  have HX := Lib.hid (idxF_none s w hd)
  clear hd
  go_enter Tryz.func70, Tryz.ntmps70
  go_wp2_with fail
  refine HX.out.mono ?_
  rintro e w1 ⟨rfl, hK⟩
  go_wp2
  go_ret
  exact ⟨rfl, hK⟩
set_option maxRecDepth 100000 in
set_option maxHeartbeats 2000000 in
theorem rcode_any (s : ByteArray) (w : World) (hs : s.size ≤ maxLen) :
    Calls Tryz.prog 51 #[.string s] w fun e w' => e = .returned (.bool (codeB s)) ∧ Kept w w' := by
  have hs' : s.size ≤ 9223372036854775807 := hs
  by_cases h0 : 0 < s.size
  · by_cases h9 : s.size < 9
    · have C := Lib.hid (show codeB s = digB s by unfold codeB; simp [show 1 ≤ s.size from h0, show s.size ≤ 8 by omega])
      have T := Lib.hid (trimT_iff s)
      have g1 : (0 : Int) < (s.size : Int) := by omega
      have g2 : (s.size : Int) < 9 := by omega
      cases hd : digB s
      · have D := Lib.hid hd
        have t1 : ((trimT s).toList.isEmpty) = false := by
          have := T.out; rw [hd] at this
          cases q : (trimT s).toList with
          | nil => rw [q] at this; simp at this
          | cons => rfl
        have t2 : ((trimT s).toList == []) = false := by rw [T.out, hd]
        clear hd
        go_enter Tryz.func51, Tryz.ntmps51
        go_wp2_with fail
        refine (trim_any s _ hs).mono ?_
        rintro e w1 ⟨rfl, hK⟩
        go_wp2
        go_ret
        exact ⟨ret_bool (by rw [C.out, D.out]), hK⟩
      · have D := Lib.hid hd
        have t1 : ((trimT s).toList.isEmpty) = true := by
          have := T.out; rw [hd] at this
          cases q : (trimT s).toList with
          | nil => rfl
          | cons => rw [q] at this; simp at this
        have t2 : ((trimT s).toList == []) = true := by rw [T.out, hd]
        clear hd
        go_enter Tryz.func51, Tryz.ntmps51
        go_wp2_with fail
        refine (trim_any s _ hs).mono ?_
        rintro e w1 ⟨rfl, hK⟩
        go_wp2_with fail
        refine (conF_none s _ D.out).mono ?_
        rintro e w2 ⟨rfl, hK2⟩
        go_wp2
        go_ret
        exact ⟨ret_bool (by rw [C.out, D.out]), hK.trans hK2⟩
    · have C := Lib.hid (show codeB s = false by unfold codeB; simp; omega)
      have g1 : (0 : Int) < (s.size : Int) := by omega
      have g2 : ¬ (s.size : Int) < 9 := by omega
      have g3 : decide ((s.size : Int) < 9) = false := by simpa using g2
      go_enter Tryz.func51, Tryz.ntmps51
      go_wp2
      go_ret
      exact ⟨ret_bool C.out.symm, Kept.refl w⟩
  · have C := Lib.hid (show codeB s = false by unfold codeB; simp; omega)
    have g1 : ¬ (0 : Int) < (s.size : Int) := by omega
    go_enter Tryz.func51, Tryz.ntmps51
    go_wp2
    go_ret
    exact ⟨ret_bool C.out.symm, Kept.refl w⟩
end Go.Proofs.YtdabangdjgkphaaGreatDoor
