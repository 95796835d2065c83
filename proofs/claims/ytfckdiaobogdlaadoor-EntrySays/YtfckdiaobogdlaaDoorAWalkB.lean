/-
  What package acct's find, Under and Kind return. No condition but those that each theorem names.
-/
import Derived.Test.YtfckdiaobogdlaaDoorAWalkA
import Derived.Test.YtfckdiaobogdlaaDoorAGrow
namespace Go.Proofs.YtfckdiaobogdlaaDoor
open Go.RowKit
set_option linter.unusedVariables false

/-- A struct of a text and a number, in a box of its own. -/
structure PBx (w : World) (p : Nat) (x : Pr) : Prop where
  lt : p < w.heap.size
  c0 : w.cell? ⟨p, 0, none⟩ = some (.string x.1)
  c1 : w.cell? ⟨p, 1, none⟩ = some (.int .i64 x.2)
theorem PBx.later {w w' : World} {p : Nat} {x : Pr} (h : PBx w p x) (k : Kept w w') : PBx w' p x :=
  ⟨Nat.lt_of_lt_of_le h.lt k.le, (k.rd.1 _ _ h.lt).trans h.c0, (k.rd.1 _ _ h.lt).trans h.c1⟩
theorem PBx.new (w : World) (x : Pr) (t : TypeId) : PBx (w.alloc (.cells #[.string x.1, .int .i64 x.2] t)) w.heap.size x := ⟨by simp, by simp, by simp⟩
/-- A text in a box of its own. -/
structure SBx (w : World) (p : Nat) (s : ByteArray) : Prop where
  lt : p < w.heap.size
  c0 : w.cell? ⟨p, 0, none⟩ = some (.string s)
theorem SBx.later {w w' : World} {p : Nat} {s : ByteArray} (h : SBx w p s) (k : Kept w w') : SBx w' p s :=
  ⟨Nat.lt_of_lt_of_le h.lt k.le, (k.rd.1 _ _ h.lt).trans h.c0⟩
theorem SBx.new (w : World) (s : ByteArray) (t : TypeId) : SBx (w.alloc (.cells #[.string s] t)) w.heap.size s := ⟨by simp, by simp⟩
/-- A row of pairs, and no error. -/
def FindYes (w : World) (l : List Pr) (e : Ending) (w' : World) : Prop := ∃ a c, e = .returned (.tuple #[.slice a l.length c, .int .i64 0]) ∧ PGr 32 w.heap.size w' (.slice a l.length c) l ∧ Kept w w'
/-- None, and an error. -/
def RowNo (w : World) (er : Int) (e : Ending) (w' : World) : Prop := e = .returned (.tuple #[.slice none 0 0, .int .i64 er]) ∧ Kept w w'
theorem filt_take {P : Pr → Bool} {l : List Pr} {k : Nat} (h : k < l.length) : (l.take (k + 1)).filter P = (l.take k).filter P ++ (if P l[k] = true then [l[k]] else []) := by
  rw [List.take_succ_eq_append_getElem h, List.filter_append]
  by_cases c : P l[k] = true <;> simp [c]
theorem acE_24 {l : List Pr} (ok : acE l = 0) : l.length ≤ 24 := by
  unfold acE at ok
  split at ok
  · cases ok
  · omega

/-- What is asked of what is handed to find. -/
def CloUnder (w : World) (bx : Nat) (l : List Pr) (P : Pr → Bool) : Prop :=
  ∀ (w1 : World) (x : Pr), Kept w w1 → x ∈ l → Calls Tryd.prog 21 #[.agg #[.string x.1, .int .i64 x.2], .pointer (some ⟨bx, 0, none⟩)] w1 fun e w2 => e = .returned (.bool (P x)) ∧ Kept w1 w2
abbrev fnUnder (bx : Nat) : Value := .func (.func 21) #[] #[.pointer (some ⟨bx, 0, none⟩)]
set_option maxHeartbeats 2000000 in
theorem find_yesUnder (a : Option Addr) (l : List Pr) (cap : Nat) (bx : Nat) (P : Pr → Bool) (w : World) (hA : PArg w a l) (hs : Shortish l) (hn : l.length ≤ maxLen) (ok : acE l = 0) (hC : CloUnder w bx l P) :
    Calls Tryd.prog 19 #[.slice a l.length cap, fnUnder bx] w (FindYes w (l.filter P)) := by
  have l24 := acE_24 ok
  have HA := Lib.hid hA
  have HC := Lib.hid hC
  have O := Lib.hid ok
  clear hA hC ok
  go_enter Tryd.func19, Tryd.ntmps19
  go_wp2_with fail
  refine (acheck_any _ _ _ _ HA.out hs hn).mono ?_
  rintro e w1 ⟨rfl, hK1⟩
  rw [O.out]
  clear hn
  go_wp2
  go_loopw [7, 17] (fun v i wr => ∃ k : Nat, k ≤ l.length ∧ i = .int .i64 k ∧ PGr 32 w.heap.size wr v ((l.take k).filter P) ∧ Kept w wr) (fun _ i _ => l.length - (intOf i).toNat)
  case atStart => exact ⟨0, Nat.zero_le _, rfl, PGr.nil _ _ _, hK1⟩
  case round =>
    clear hK1
    obtain ⟨k, hk, rfl, hG, hK⟩ := hrel
    obtain ⟨ad, cp, rfl, _, _⟩ := hG.form
    by_cases hlt : k < l.length
    · obtain ⟨p, off, rfl, hR⟩ := HA.out.at hlt
      have hR := hR.later hK
      have c0 := hR.c0 k hlt
      have c1 := hR.c1 k hlt
      have plt := hR.lt
      have HF := Lib.hid (filt_take (P := P) hlt)
      have HM := Lib.hid (show l[k] ∈ l from List.getElem_mem _)
      have hlen : ((l.take k).filter P).length ≤ 24 := by
        have := List.length_filter_le P (l.take k)
        rw [List.length_take] at this; omega
      clear hR
      generalize l[k] = x at *
      generalize (l.take k).filter P = m at *
      go_wp2_with fail
      refine (HC.out _ x (hK.alloc _) HM.out).mono ?_
      rintro e w2 ⟨rfl, hK2⟩
      have hX := (PBx.new wr x 32).later hK2
      have hK3 := (hK.alloc (.cells #[.string x.1, .int .i64 x.2] 32)).trans hK2
      have hG3 := (hG.later ((Kept.refl wr).alloc (.cells #[.string x.1, .int .i64 x.2] 32))).later hK2
      clear hK hG hK2 c0 c1 plt
      generalize wr.heap.size = b at *
      cases hp : P x
      · have HP := Lib.hid hp
        clear hp
        go_wp2
        go_roundw
        case rel => exact ⟨k + 1, by omega, by go_num, by rw [HF.out, HP.out]; simpa using hG3, hK3⟩
        case measure => simp [intOf]; omega
      · have HP := Lib.hid hp
        clear hp
        obtain ⟨x0, x1, x2⟩ := id hX
        have hG4 := hG3.later ((Kept.refl w2).alloc (.cells #[.string x.1, .int .i64 x.2] 32))
        have hK4 := hK3.alloc (.cells #[.string x.1, .int .i64 x.2] 32)
        have n0 : (w2.alloc (.cells #[.string x.1, .int .i64 x.2] 32)).cell? ⟨w2.heap.size, 0, none⟩ = some (.string x.1) := by simp
        have n1 : (w2.alloc (.cells #[.string x.1, .int .i64 x.2] 32)).cell? ⟨w2.heap.size, 1, none⟩ = some (.int .i64 x.2) := by simp
        have N0 := Lib.hid n0
        have N1 := Lib.hid n1
        clear n0 n1
        go_wp2_with (at_builtin; refine app_pr 32 22 pairAcct Tryd.underlying22 rfl _ _ rfl rfl rfl hG4 N0.out N1.out (by omega) (by have := hK4.size; omega) ?_)
        intro v' w5 hG5 hgr
        have hK5 := hG4.below (Nat.le_refl _) hK4 hgr
        obtain ⟨a5, c5, rfl, _, _⟩ := hG5.form
        clear hG4 hK4 hG3 hK3 hgr x0 x1 x2 hX
        go_wp2
        go_roundw
        case rel => exact ⟨k + 1, by omega, by go_num, by rw [HF.out, HP.out]; simpa using hG5, hK5⟩
        case measure => simp [intOf]; omega
    · obtain rfl : k = l.length := by omega
      clear hlt
      rw [List.take_length] at hG ⊢
      go_wp2
      go_ret2
      exact ⟨ad, cp, rfl, hG, hK⟩
set_option maxHeartbeats 1000000 in
theorem find_noUnder (a : Option Addr) (l : List Pr) (cap : Nat) (bx : Nat) (w : World) (hA : PArg w a l) (hs : Shortish l) (hn : l.length ≤ maxLen) (ok : acE l ≠ 0) :
    Calls Tryd.prog 19 #[.slice a l.length cap, fnUnder bx] w (RowNo w (acE l)) := by
  have HA := Lib.hid hA
  have O : (acE l == 0) = false := by simpa using ok
  have O2 : (acE l != 0) = true := by simpa using ok
  clear hA ok
  go_enter Tryd.func19, Tryd.ntmps19
  go_wp2_with fail
  refine (acheck_any _ _ _ _ HA.out hs hn).mono ?_
  rintro e w1 ⟨rfl, hK1⟩
  go_wp2
  go_ret2
  exact ⟨rfl, hK1⟩

/-- What is asked of what is handed to find. -/
def CloKind (w : World) (bx : Nat) (l : List Pr) (P : Pr → Bool) : Prop :=
  ∀ (w1 : World) (x : Pr), Kept w w1 → x ∈ l → Calls Tryd.prog 20 #[.agg #[.string x.1, .int .i64 x.2], .pointer (some ⟨bx, 0, none⟩)] w1 fun e w2 => e = .returned (.bool (P x)) ∧ Kept w1 w2
abbrev fnKind (bx : Nat) : Value := .func (.func 20) #[] #[.pointer (some ⟨bx, 0, none⟩)]
set_option maxHeartbeats 2000000 in
theorem find_yesKind (a : Option Addr) (l : List Pr) (cap : Nat) (bx : Nat) (P : Pr → Bool) (w : World) (hA : PArg w a l) (hs : Shortish l) (hn : l.length ≤ maxLen) (ok : acE l = 0) (hC : CloKind w bx l P) :
    Calls Tryd.prog 19 #[.slice a l.length cap, fnKind bx] w (FindYes w (l.filter P)) := by
  have l24 := acE_24 ok
  have HA := Lib.hid hA
  have HC := Lib.hid hC
  have O := Lib.hid ok
  clear hA hC ok
  go_enter Tryd.func19, Tryd.ntmps19
  go_wp2_with fail
  refine (acheck_any _ _ _ _ HA.out hs hn).mono ?_
  rintro e w1 ⟨rfl, hK1⟩
  rw [O.out]
  clear hn
  go_wp2
  go_loopw [7, 17] (fun v i wr => ∃ k : Nat, k ≤ l.length ∧ i = .int .i64 k ∧ PGr 32 w.heap.size wr v ((l.take k).filter P) ∧ Kept w wr) (fun _ i _ => l.length - (intOf i).toNat)
  case atStart => exact ⟨0, Nat.zero_le _, rfl, PGr.nil _ _ _, hK1⟩
  case round =>
    clear hK1
    obtain ⟨k, hk, rfl, hG, hK⟩ := hrel
    obtain ⟨ad, cp, rfl, _, _⟩ := hG.form
    by_cases hlt : k < l.length
    · obtain ⟨p, off, rfl, hR⟩ := HA.out.at hlt
      have hR := hR.later hK
      have c0 := hR.c0 k hlt
      have c1 := hR.c1 k hlt
      have plt := hR.lt
      have HF := Lib.hid (filt_take (P := P) hlt)
      have HM := Lib.hid (show l[k] ∈ l from List.getElem_mem _)
      have hlen : ((l.take k).filter P).length ≤ 24 := by
        have := List.length_filter_le P (l.take k)
        rw [List.length_take] at this; omega
      clear hR
      generalize l[k] = x at *
      generalize (l.take k).filter P = m at *
      go_wp2_with fail
      refine (HC.out _ x (hK.alloc _) HM.out).mono ?_
      rintro e w2 ⟨rfl, hK2⟩
      have hX := (PBx.new wr x 32).later hK2
      have hK3 := (hK.alloc (.cells #[.string x.1, .int .i64 x.2] 32)).trans hK2
      have hG3 := (hG.later ((Kept.refl wr).alloc (.cells #[.string x.1, .int .i64 x.2] 32))).later hK2
      clear hK hG hK2 c0 c1 plt
      generalize wr.heap.size = b at *
      cases hp : P x
      · have HP := Lib.hid hp
        clear hp
        go_wp2
        go_roundw
        case rel => exact ⟨k + 1, by omega, by go_num, by rw [HF.out, HP.out]; simpa using hG3, hK3⟩
        case measure => simp [intOf]; omega
      · have HP := Lib.hid hp
        clear hp
        obtain ⟨x0, x1, x2⟩ := id hX
        have hG4 := hG3.later ((Kept.refl w2).alloc (.cells #[.string x.1, .int .i64 x.2] 32))
        have hK4 := hK3.alloc (.cells #[.string x.1, .int .i64 x.2] 32)
        have n0 : (w2.alloc (.cells #[.string x.1, .int .i64 x.2] 32)).cell? ⟨w2.heap.size, 0, none⟩ = some (.string x.1) := by simp
        have n1 : (w2.alloc (.cells #[.string x.1, .int .i64 x.2] 32)).cell? ⟨w2.heap.size, 1, none⟩ = some (.int .i64 x.2) := by simp
        have N0 := Lib.hid n0
        have N1 := Lib.hid n1
        clear n0 n1
        go_wp2_with (at_builtin; refine app_pr 32 22 pairAcct Tryd.underlying22 rfl _ _ rfl rfl rfl hG4 N0.out N1.out (by omega) (by have := hK4.size; omega) ?_)
        intro v' w5 hG5 hgr
        have hK5 := hG4.below (Nat.le_refl _) hK4 hgr
        obtain ⟨a5, c5, rfl, _, _⟩ := hG5.form
        clear hG4 hK4 hG3 hK3 hgr x0 x1 x2 hX
        go_wp2
        go_roundw
        case rel => exact ⟨k + 1, by omega, by go_num, by rw [HF.out, HP.out]; simpa using hG5, hK5⟩
        case measure => simp [intOf]; omega
    · obtain rfl : k = l.length := by omega
      clear hlt
      rw [List.take_length] at hG ⊢
      go_wp2
      go_ret2
      exact ⟨ad, cp, rfl, hG, hK⟩
set_option maxHeartbeats 1000000 in
theorem find_noKind (a : Option Addr) (l : List Pr) (cap : Nat) (bx : Nat) (w : World) (hA : PArg w a l) (hs : Shortish l) (hn : l.length ≤ maxLen) (ok : acE l ≠ 0) :
    Calls Tryd.prog 19 #[.slice a l.length cap, fnKind bx] w (RowNo w (acE l)) := by
  have HA := Lib.hid hA
  have O : (acE l == 0) = false := by simpa using ok
  have O2 : (acE l != 0) = true := by simpa using ok
  clear hA ok
  go_enter Tryd.func19, Tryd.ntmps19
  go_wp2_with fail
  refine (acheck_any _ _ _ _ HA.out hs hn).mono ?_
  rintro e w1 ⟨rfl, hK1⟩
  go_wp2
  go_ret2
  exact ⟨rfl, hK1⟩

/-- Has a text a prefix? -/
def preB (c s : ByteArray) : Bool := decide (c.size ≤ s.size) && (s.extract 0 c.size).toList == c.toList
set_option maxHeartbeats 1000000 in
theorem pre_any (s c : ByteArray) (w : World) (hs : s.size ≤ maxLen) (hc : c.size ≤ maxLen) :
    Calls Tryd.prog 22 #[.string s, .string c] w fun e w' => e = .returned (.bool (preB c s)) ∧ w = w' := by
  unfold maxLen at hs hc
  by_cases h : c.size ≤ s.size
  · have E := Lib.hid (show preB c s = ((s.extract 0 c.size).toList == c.toList) by unfold preB; simp [h])
    go_enter Tryd.func22, Tryd.ntmps22
    go_wp2
    go_ret
    exact ⟨ret_bool E.out.symm, rfl⟩
  · have E := Lib.hid (show preB c s = false by unfold preB; simp [h])
    go_enter Tryd.func22, Tryd.ntmps22
    go_wp2
    go_ret
    exact ⟨ret_bool E.out.symm, rfl⟩
set_option maxHeartbeats 1000000 in
theorem uclo_any (bx : Nat) (c : ByteArray) (x : Pr) (w : World) (hx : x.1.size ≤ maxLen) (hc : c.size ≤ maxLen) (hB : SBx w bx c) :
    Calls Tryd.prog 21 #[.agg #[.string x.1, .int .i64 x.2], .pointer (some ⟨bx, 0, none⟩)] w fun e w' => e = .returned (.bool (preB c x.1)) ∧ Kept w w' := by
  have hK := (Kept.refl w).alloc (.cells #[.string x.1, .int .i64 x.2] 32)
  obtain ⟨b0, b1⟩ := hB.later hK
  obtain ⟨b2, _⟩ := hB
  go_enter Tryd.func21, Tryd.ntmps21
  go_wp2_with fail
  refine (pre_any _ _ _ hx hc).mono ?_
  rintro e w1 ⟨rfl, rfl⟩
  go_wp2
  go_ret
  exact ⟨rfl, hK⟩
/-- A row of texts, and no error. -/
def TextsYes (w : World) (l : List ByteArray) (e : Ending) (w' : World) : Prop := ∃ p, w.heap.size ≤ p ∧ e = .returned (.tuple #[.slice (some ⟨p, 0, none⟩) l.length l.length, .int .i64 0]) ∧ TOwn w' p l ∧ Kept w w'
/-- P30: the codes under a code. -/
def undL (c : ByteArray) (l : List Pr) : List ByteArray := (l.filter fun x => preB c x.1).map Prod.fst
/-- The first k of one list, the rest of another. -/
def mixL (l : List ByteArray) (n k : Nat) : List ByteArray := l.take k ++ List.replicate (n - k) ⟨#[]⟩
theorem mixL_len {l : List ByteArray} {k : Nat} (h : k ≤ l.length) : (mixL l l.length k).length = l.length := by unfold mixL; simp; omega
theorem mixL_set {l : List ByteArray} {k : Nat} (h : k < l.length) : (mixL l l.length k).set k l[k] = mixL l l.length (k + 1) := by
  apply List.ext_getElem?
  intro i
  unfold mixL
  rw [List.getElem?_set]
  simp only [List.getElem?_append, List.length_take, List.getElem?_take, List.getElem?_replicate, List.length_append, List.length_replicate, Nat.min_eq_left (Nat.le_of_lt h), Nat.min_eq_left (show k + 1 ≤ l.length from h)]
  by_cases e : k = i
  · subst e
    simp [h]; omega
  · by_cases c : i < k
    · simp [e, c, show i < k + 1 by omega]
    · simp [e, c, show ¬ i < k + 1 by omega]
      by_cases d : i < l.length
      · simp [show i - k < l.length - k by omega, show i - (k + 1) < l.length - (k + 1) by omega]
      · simp [show ¬ i - k < l.length - k by omega, show ¬ i - (k + 1) < l.length - (k + 1) by omega]
set_option maxHeartbeats 2000000 in
theorem under_yes (a : Option Addr) (l : List Pr) (cap : Nat) (c : ByteArray) (w : World) (hA : PArg w a l) (hs : Shortish l) (hn : l.length ≤ maxLen) (hc : c.size ≤ maxLen) (ok : acE l = 0) :
    Calls Tryd.prog 6 #[.slice a l.length cap, .string c] w (TextsYes w (undL c l)) := by
  have l24 := acE_24 ok
  have k0 := (Kept.refl w).alloc (.cells #[.string c] 9)
  have hF := find_yesUnder a l cap w.heap.size (fun x => preB c x.1) (w.alloc (.cells #[.string c] 9)) (hA.later k0) hs hn ok (fun w1 x k hx => uclo_any _ c x w1 (hs x hx) hc ((SBx.new w c 9).later k))
  have HF := Lib.hid hF
  have hlen : (l.filter fun x => preB c x.1).length ≤ 24 := by
    have := List.length_filter_le (fun x : Pr => preB c x.1) l
    omega
  have HU := Lib.hid (show undL c l = (l.filter fun x => preB c x.1).map Prod.fst from rfl)
  clear hF hA hs hn ok
  generalize (l.filter fun x => preB c x.1) = m at *
  generalize undL c l = t at *
  have mk := make_strs m.length (by omega)
  go_enter Tryd.func6, Tryd.ntmps6
  go_wp2_with fail
  refine (HF.out).mono ?_
  rintro e w1 ⟨ad, cp, rfl, hG, hK⟩
  go_wp2
  have HP := Lib.hid hG.arg
  have kA := (Kept.refl w1).alloc (.cells (ts m.length) 9)
  have kW := k0.trans hK
  have hO := TOwn.made (w := w1) (n := m.length) (t := 9) rfl
  have hle : w.heap.size ≤ w1.heap.size := kW.le
  have hp : w1.heap.size ≤ w1.heap.size := Nat.le_refl _
  have ml : t.length = m.length := by rw [HU.out, List.length_map]
  have ML := Lib.hid ml
  clear ml
  clear mk hG hK k0
  generalize w1.alloc (.cells (ts m.length) 9) = w2 at *
  generalize h9 : w1.heap.size = p at hO hp ⊢
  rw [h9] at hle
  have hp2 : w1.heap.size ≤ p := by omega
  clear h9 hp
  go_loopw [25] (fun i wr => ∃ k : Nat, k ≤ m.length ∧ i = .int .i64 k ∧ TOwn wr p (mixL t t.length k) ∧ Kept w1 wr) (fun i _ => m.length - (intOf i).toNat)
  case atStart => exact ⟨0, Nat.zero_le _, rfl, by unfold mixL; rw [ML.out]; exact hO, kA⟩
  case round =>
    clear hO kA
    obtain ⟨k, hk, rfl, hO, hK⟩ := hrel
    by_cases hlt : k < m.length
    · obtain ⟨q, off, rfl, hR⟩ := (HP.out.later hK).at hlt
      have c0 := hR.c0 k hlt
      have c1 := hR.c1 k hlt
      have plt := hR.lt
      have kt : k < t.length := by rw [ML.out]; exact hlt
      have TK := Lib.hid (show t[k] = (m[k]).1 by simp [HU.out])
      have oc := hO.cell k (by rw [mixL_len (by omega)]; exact kt)
      have of := hO.free k (by rw [mixL_len (by omega)]; exact kt)
      have olt := hO.lt
      have MS := Lib.hid (mixL_set kt)
      clear hR
      go_wp2
      go_roundw
      case rel =>
        have hO3 := hO.set k (m[k]).1 (by rw [mixL_len (by omega)]; exact kt)
        rw [← TK.out, MS.out] at hO3
        rw [TK.out] at hO3
        exact ⟨k + 1, by omega, by go_num, hO3.later ((Kept.refl _).alloc _), (hK.setAt hp2 _).alloc _⟩
      case measure => simp [intOf]; omega
    · obtain rfl : k = m.length := by omega
      clear hlt
      have hO4 : TOwn wr p t := by
        have e : mixL t t.length m.length = t := by unfold mixL; rw [ML.out, ← ML.out]; simp
        rw [← e]; exact hO
      go_wp2
      go_ret2
      exact ⟨p, hle, by rw [ML.out]; rfl, hO4, kW.trans hK⟩
set_option maxHeartbeats 1000000 in
theorem under_no (a : Option Addr) (l : List Pr) (cap : Nat) (c : ByteArray) (w : World) (hA : PArg w a l) (hs : Shortish l) (hn : l.length ≤ maxLen) (ok : acE l ≠ 0) :
    Calls Tryd.prog 6 #[.slice a l.length cap, .string c] w (RowNo w (acE l)) := by
  have k0 := (Kept.refl w).alloc (.cells #[.string c] 9)
  have HF := Lib.hid (find_noUnder a l cap w.heap.size (w.alloc (.cells #[.string c] 9)) (hA.later k0) hs hn ok)
  have O2 : (acE l != 0) = true := by simpa using ok
  clear hA hs hn ok
  generalize acE l = er at *
  go_enter Tryd.func6, Tryd.ntmps6
  go_wp2_with fail
  refine (HF.out).mono ?_
  rintro e w1 ⟨rfl, hK⟩
  go_wp2
  go_ret2
  exact ⟨rfl, k0.trans hK⟩
end Go.Proofs.YtfckdiaobogdlaaDoor
