/-
  What tie.Tie returns. No condition but those that each theorem names.
-/
import Derived.Test.YtdgiljndoeldcaaGTieS
import Derived.Test.YtdgiljndoeldcaaGErase
namespace Go.Proofs.Ytdgiljndoeldcaa
open Go.RowKit Go.Sort
set_option linter.unusedVariables false

/-- The boxes that the predicate has captured. -/
structure TieBx (w : World) (ba bi bb bw : Nat) (a b : Option Addr) (n m ca cb : Nat) (i h : Int) : Prop where
  la : ba < w.heap.size
  li : bi < w.heap.size
  lb : bb < w.heap.size
  lw : bw < w.heap.size
  xa : w.cell? ⟨ba, 0, none⟩ = some (.slice a n ca)
  xi : w.cell? ⟨bi, 0, none⟩ = some (.int .i64 i)
  xb : w.cell? ⟨bb, 0, none⟩ = some (.slice b m cb)
  xw : w.cell? ⟨bw, 0, none⟩ = some (.int .i64 h)
theorem TieBx.later {w w' : World} {ba bi bb bw : Nat} {a b : Option Addr} {n m ca cb : Nat} {i h : Int} (x : TieBx w ba bi bb bw a b n m ca cb i h) (k : Kept w w') : TieBx w' ba bi bb bw a b n m ca cb i h :=
  ⟨Nat.lt_of_lt_of_le x.la k.le, Nat.lt_of_lt_of_le x.li k.le, Nat.lt_of_lt_of_le x.lb k.le, Nat.lt_of_lt_of_le x.lw k.le,
    (k.rd.1 _ _ x.la).trans x.xa, (k.rd.1 _ _ x.li).trans x.xi, (k.rd.1 _ _ x.lb).trans x.xb, (k.rd.1 _ _ x.lw).trans x.xw⟩
abbrev tieFv (ba bi bb bw : Nat) : Value := .func (.func 49) #[] #[.pointer (some ⟨ba, 0, none⟩), .pointer (some ⟨bi, 0, none⟩), .pointer (some ⟨bb, 0, none⟩), .pointer (some ⟨bw, 0, none⟩)]
set_option maxRecDepth 100000 in
set_option maxHeartbeats 4000000 in
theorem tie1_any {w : World} {ba bi bb bw : Nat} {a b : Option Addr} {l m : List Mv} {ca cb : Nat} {h : Int} (i j : Nat) (X : TieBx w ba bi bb bw a b l.length m.length ca cb i h) (hA : JArg eP w a l) (hB : JArg eP w b m) (hi : i < l.length) (hj : j < m.length) (dl : ∀ x ∈ l, Dy x) (dm : ∀ x ∈ m, Dy x) :
    Calls Try.prog 49 #[.int .i64 (j : Int), .pointer (some ⟨ba, 0, none⟩), .pointer (some ⟨bi, 0, none⟩), .pointer (some ⟨bb, 0, none⟩), .pointer (some ⟨bw, 0, none⟩)] w fun e w' => e = .returned (.bool (tieF l m h i j)) ∧ Kept w w' := by
  obtain ⟨p, off, rfl, hR⟩ := hA.at hi
  obtain ⟨q, off2, rfl, hQ⟩ := hB.at hj
  have E := Lib.hid (show tieF l m h i j = fitB h l[i] m[j] by unfold tieF; rw [itN_get l i hi, itN_get m j hj])
  have d1 := dl _ (List.getElem_mem hi)
  have d2 := dm _ (List.getElem_mem hj)
  have r0 := fun (n : Nat) (os : Array Obj) => (hR.later (kept_grown (Kept.refl w) n os)).c0 i hi
  have r1 := fun (n : Nat) (os : Array Obj) => (hR.later (kept_grown (Kept.refl w) n os)).c1 i hi
  have q0 := fun (n : Nat) (os : Array Obj) => (hQ.later (kept_grown (Kept.refl w) n os)).c0 j hj
  have q1 := fun (n : Nat) (os : Array Obj) => (hQ.later (kept_grown (Kept.refl w) n os)).c1 j hj
  have xa := fun (n : Nat) (os : Array Obj) => (X.later (kept_grown (Kept.refl w) n os)).xa
  have xi := fun (n : Nat) (os : Array Obj) => (X.later (kept_grown (Kept.refl w) n os)).xi
  have xb := fun (n : Nat) (os : Array Obj) => (X.later (kept_grown (Kept.refl w) n os)).xb
  have xw := fun (n : Nat) (os : Array Obj) => (X.later (kept_grown (Kept.refl w) n os)).xw
  generalize tieF l m h i j = r at *
  generalize l[i] = x at *
  generalize m[j] = y at *
  have MC := Lib.hid (fun (n : Nat) (os : Array Obj) => match_any x y h (grow (w.drewN n) os) d1 d2)
  have i1 : (i : Int) < (l.length : Int) := by omega
  have j1 : (j : Int) < (m.length : Int) := by omega
  have mixed := mixedP
  clear hR hQ hA hB X dl dm
  go_enter Try.func49, Try.ntmps49
  go_wp2_with fail
  go_quiet_grown (first | (go_at_call 50; refine Calls.grown_of (MC.out _ _)))
  go_wp2
  go_ret
  exact ⟨ret_bool E.out.symm, kept_grown (Kept.refl w) _ _⟩
/-- The place of the first that fits, or -1. -/
def fiT (p : Nat → Bool) (O : List Nat) : Int := if O.findIdx p < O.length then (O.findIdx p : Int) else -1
set_option maxHeartbeats 4000000 in
theorem ifT_any (a : Option Addr) (O : List Nat) (cap : Nat) (p : Nat → Bool) (ba bi bb bw : Nat) (w : World) (hn : O.length ≤ 1000) (hA : JArg eI w a (nI O))
    (hp : ∀ (W : World) (j : Nat), Kept w W → j ∈ O → Calls Try.prog 49 #[.int .i64 (j : Int), .pointer (some ⟨ba, 0, none⟩), .pointer (some ⟨bi, 0, none⟩), .pointer (some ⟨bb, 0, none⟩), .pointer (some ⟨bw, 0, none⟩)] W fun e w' => e = .returned (.bool (p j)) ∧ Kept W w') :
    Calls Try.prog 48 #[.slice a O.length cap, tieFv ba bi bb bw] w fun e w' => e = .returned (.int .i64 (fiT p O)) ∧ Kept w w' := by
  have HA := Lib.hid hA
  have HP := Lib.hid hp
  clear hA hp
  go_enter Try.func48, Try.ntmps48
  go_wp2
  go_loopw [8] (fun i wr => ∃ (k : Nat), k ≤ O.length ∧ i = .int .i64 k ∧ Hid (∀ j (h : j < O.length), j < k → p O[j] = false) ∧ Kept w wr) (fun i _ => O.length - (intOf i).toNat)
  case atStart => exact ⟨0, Nat.zero_le _, rfl, Lib.hid (fun j _ h => absurd h (Nat.not_lt_zero _)), Kept.refl _⟩
  case round =>
    obtain ⟨k, hk, rfl, HE, hK⟩ := hrel
    by_cases hlt : k < O.length
    · obtain ⟨p2, off, rfl, hR⟩ := HA.out.at (j := k) (by rw [nI_len]; exact hlt)
      have hR := hR.later hK
      have c0 := hR.i k (by rw [nI_len]; exact hlt)
      have e0 : (nI O)[k]'(by rw [nI_len]; exact hlt) = (O[k] : Int) := by simp [nI]
      rw [e0] at c0
      have HI := Lib.hid (fun (b : p O[k] = true) => show fiT p O = k from by
        have e : O.findIdx p = k := (List.findIdx_eq hlt).2 ⟨b, fun j hj => HE.out j (by omega) hj⟩
        unfold fiT
        rw [e, if_pos hlt])
      have NO := Lib.hid (fun (b : p O[k] = false) => show ∀ j (h : j < O.length), j < k + 1 → p O[j] = false from fun j hj h => by
        by_cases c : j = k
        · subst c; exact b
        · exact HE.out j hj (by omega))
      have HC := Lib.hid (HP.out _ O[k] hK (List.getElem_mem hlt))
      have i1 : (k : Int) < (O.length : Int) := by omega
      clear hR e0
      generalize O[k] = x at *
      by_cases b : p x = true
      · have H := Lib.hid (HI.out b)
        rw [b] at HC
        go_wp2_with fail
        refine HC.out.mono ?_
        rintro e w1 ⟨rfl, hK1⟩
        go_wp2
        go_ret
        exact ⟨ret_int H.out.symm, hK.trans hK1⟩
      · have b' : p x = false := by simpa using b
        have H := Lib.hid (NO.out b')
        rw [b'] at HC
        clear b
        go_wp2_with fail
        refine HC.out.mono ?_
        rintro e w1 ⟨rfl, hK1⟩
        go_wp2
        go_roundw
        case rel => exact ⟨k + 1, by omega, by go_num, H, hK.trans hK1⟩
        case measure => simp [intOf]; omega
    · obtain rfl : k = O.length := by omega
      have Z := Lib.hid (show fiT p O = -1 by
        unfold fiT
        rw [if_neg]
        intro c
        have := List.findIdx_getElem (w := c)
        rw [HE.out _ c c] at this
        cases this)
      clear hlt HE
      go_wp2
      go_ret
      exact ⟨ret_int Z.out.symm, hK⟩
end Go.Proofs.Ytdgiljndoeldcaa
