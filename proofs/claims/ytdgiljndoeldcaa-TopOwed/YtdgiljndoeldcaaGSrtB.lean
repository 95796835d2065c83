/-
  What the library's insertionSortCmpFunc does to a row of the call's own, by an order that the caller hands in. No condition but those that each theorem names.
-/
import Derived.Test.YtdgiljndoeldcaaGSrtA
import Derived.Test.YtdgiljndoeldcaaGPayC
namespace Go.Proofs.Ytdgiljndoeldcaa
open Go.RowKit Go.Sort
set_option linter.unusedVariables false
variable {C : Int → Mv} {cap : Nat}

/-- The order that is handed in. -/
abbrev iordF : Value := .func (.func 38) #[] #[]
/-- What the order says of two items: the greater key first. -/
def ICmpOk (C : Int → Mv) (B : World) (N : Nat) (k : Int → Int) : Prop :=
  ∀ (x y : Int) (W : World),
    Calls Try.prog 38 #[.agg #[.int .i64 (C x).1, .int .i64 (C x).2], .agg #[.int .i64 (C y).1, .int .i64 (C y).2]] W fun e w' => e = .returned (.int .i64 (cmpV (k y) (k x))) ∧ ∃ q os, w' = grow (W.drewN q) os
/-- A row in order from a to b, of what was there. -/
def ISortedPost (C : Int → Mv) (B : World) (p N : Nat) (k : Int → Int) (d : Nat → Int) (a b : Nat) (e : Ending) (w' : World) : Prop :=
  ∃ d', e = .returned (.tuple #[]) ∧ IOw C w' p N d' ∧ Kept B w' ∧ SegPerm a b d d' ∧ Sorted k d' a b

set_option maxRecDepth 100000 in
set_option maxHeartbeats 4000000 in
theorem iinsertion_any (p N a b : Nat) (k : Int → Int) (d : Nat → Int) (B w : World) (hN : N ≤ 1000) (h1 : a ≤ b) (h2 : b ≤ N) (hI : InR N d) (hU : Outer k d a b (a + 1)) (hC : ICmpOk C B N k) (hO : IOw C w p N d) (hp : B.heap.size ≤ p) (hK : Kept B w) :
    Calls Try.prog 89 #[.slice (some ⟨p, 0, none⟩) N cap, .int .i64 (a : Int), .int .i64 (b : Int), iordF] w (ISortedPost C B p N k d a b) := by
  go_enter Try.func89, Try.ntmps89
  go_wp2
  go_loopw [8] (fun s wr => ∃ (i : Nat) (d1 : Nat → Int), a + 1 ≤ i ∧ i ≤ b + 1 ∧ s = .int .i64 i ∧ Outer k d1 a b i ∧ SegPerm a b d d1 ∧ IOw C wr p N d1 ∧ Kept B wr) (fun s _ => (b + 1 - intOf s).toNat)
  case atStart => exact ⟨a + 1, d, by omega, by omega, by go_num, hU, SegPerm.refl a b d, hO, hK⟩
  case round =>
    obtain ⟨i, d1, i0, i1, rfl, hU1, hP1, hO1, hK1⟩ := hrel
    by_cases hlt : i < b
    · have hI1 := hP1.inR h2 hI
      go_wp2
      go_loopw [9] (fun s wr => ∃ (j : Nat) (d2 : Nat → Int), a ≤ j ∧ j ≤ i ∧ s = .int .i64 j ∧ Ins k d2 a i j ∧ SegPerm a (i + 1) d1 d2 ∧ IOw C wr p N d2 ∧ Kept B wr) (fun s _ => (intOf s).toNat)
      case atStart => exact ⟨i, d1, by omega, by omega, rfl, Ins.start hU1.1 hU1.cross hlt, SegPerm.refl _ _ _, hO1, hK1⟩
      case round =>
        clear hO1 hK1
        obtain ⟨j, d2, j0, j1, rfl, hI2, hP2, hO2, hK2⟩ := hrel
        by_cases hj : a < j
        · have hc := fun (n : Nat) (os : Array Obj) => (hO2.later (kept_grown (Kept.refl wr) n os)).c0 j (by omega)
          have hc' := fun (n : Nat) (os : Array Obj) => (hO2.later (kept_grown (Kept.refl wr) n os)).c1 j (by omega)
          have hd := fun (n : Nat) (os : Array Obj) => (hO2.later (kept_grown (Kept.refl wr) n os)).c0 (j - 1) (by omega)
          have hd' := fun (n : Nat) (os : Array Obj) => (hO2.later (kept_grown (Kept.refl wr) n os)).c1 (j - 1) (by omega)
          have HO := Lib.hid hO2
          have HK := Lib.hid hK2
          have ST := Lib.hid (hI2.step hj j1)
          have DN := Lib.hid (fun h => hI2.done j0 j1 (.inr h))
          have CV := Lib.hid (cmpV_neg (k (d2 (j - 1))) (k (d2 j)))
          have CO := Lib.hid (fun (n : Nat) (os : Array Obj) => hC (d2 j) (d2 (j - 1)) (grow (wr.drewN n) os))
          have DE := Lib.hid (fun (h : C (d2 j) = C (d2 j)) => h)
          generalize hx : C (d2 j) = x at hc hc' CO
          generalize hy : C (d2 (j - 1)) = y at hd hd' CO
          have HX := Lib.hid hx
          have HY := Lib.hid hy
          clear hI2 hO2 hK2 hx hy DE
          have e1 : (a : Int) < (j : Int) := by omega
          have e2 : (j : Int) < (N : Int) := by omega
          have e3 : (0 : Int) ≤ (j : Int) - 1 := by omega
          have e4 : (j : Int) - 1 < (N : Int) := by omega
          have e5 : ((j : Int) - 1).toNat = j - 1 := by omega
          have e6 : IntKind.i64.wrap ((j : Int) - 1) = (j : Int) - 1 := IntWalk.i64_in _ (by omega)
          have e7 : (1 : Int) ≤ (j : Int) := by omega
          go_wp2_with fail
          have mixed := mixedP
          go_quiet_grown (first | (go_at_call 38; refine Calls.grown_of (CO.out _ _)))
          have KQ := Lib.hid (kept_grown HK.out nq osq)
          have hOq := HO.out.later (kept_grown (Kept.refl wr) nq osq)
          clear hc hc' hd hd' CO HO HK
          generalize grow (wr.drewN nq) osq = wq at *
          by_cases hl : k (d2 (j - 1)) < k (d2 j)
          · have cb : decide (cmpV (k (d2 (j - 1))) (k (d2 j)) < 0) = true := by rw [decide_eq_true_iff, CV.out]; exact hl
            rw [cb]
            clear cb e6
            have ne : j ≠ j - 1 := by omega
            have hOs := hOq.drew.swap (i := j) (j := j - 1) (by omega) (by omega) ne
            have hc := hOq.c0 j (by omega)
            have hc' := hOq.c1 j (by omega)
            have hd := hOq.c0 (j - 1) (by omega)
            have hd' := hOq.c1 (j - 1) (by omega)
            have hf := hOq.f0 j (by omega)
            have hf' := hOq.f1 j (by omega)
            have hg := hOq.f0 (j - 1) (by omega)
            have hg' := hOq.f1 (j - 1) (by omega)
            rw [HX.out] at hOs hc hc'
            rw [HY.out] at hOs hd hd'
            have HS := Lib.hid hOs
            have HL := Lib.hid hl
            clear hOs hOq hl HX HY CV
            go_wp2
            go_region
            all_goals go_wp2
            all_goals
              go_roundw
              case rel => exact ⟨j - 1, sw d2 j (j - 1), by omega, by omega, by congr 1; omega, ST.out HL.out, hP2.trans (SegPerm.swap d2 (by omega) (by omega)), HS.out, (((KQ.out.drew.setAt hp _).setAt hp _).setAt hp _).setAt hp _⟩
              case measure => simp [intOf]; omega
          · have cb : decide (cmpV (k (d2 (j - 1))) (k (d2 j)) < 0) = false := by rw [decide_eq_false_iff_not, CV.out]; exact hl
            rw [cb]
            clear cb e6
            go_wp2
            go_roundw
            case rel => exact ⟨i + 1, d2, by omega, by omega, by go_num, hU1.step hP2 (DN.out (Int.not_lt.1 hl)), hP1.trans (hP2.mono (Nat.le_refl _) (by omega)), hOq, KQ.out⟩
            case measure => simp [intOf]; omega
        · obtain rfl : j = a := by omega
          have DN := Lib.hid (hI2.done (Nat.le_refl _) j1 (.inl rfl))
          have gb : decide ((j : Int) < (j : Int)) = false := by simp
          have gc : decide (j < j) = false := by simp
          clear hj hI2
          go_wp2_with fail
          go_quiet (fail)
          go_wp2
          go_roundw
          case rel => exact ⟨i + 1, d2, by omega, by omega, by go_num, hU1.step hP2 DN.out, hP1.trans (hP2.mono (Nat.le_refl _) (by omega)), hO2.drewN _, hK2.drewN _⟩
          case measure => simp [intOf]; omega
    · have hn : decide (i < b) = false := by simpa using hlt
      go_wp2
      go_end0
      exact ⟨d1, rfl, hO1, hK1, hP1, fun p q a1 a2 a3 => hU1.1 p q a1 a2 (by omega)⟩

end Go.Proofs.Ytdgiljndoeldcaa
