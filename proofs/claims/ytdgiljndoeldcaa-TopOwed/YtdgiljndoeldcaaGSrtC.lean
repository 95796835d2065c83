/-
  What the library's symMergeCmpFunc does where one of the two parts is a single number. No condition but those that each theorem names.
-/
import Derived.Test.YtdgiljndoeldcaaGSrtB
import Derived.Test.YtdgiljndoeldcaaMgTMathB
namespace Go.Proofs.Ytdgiljndoeldcaa
open Go.RowKit Go.Sort
set_option linter.unusedVariables false
variable {C : Int → Mv} {cap : Nat}

/-- What symMerge asks of the row. -/
structure IMergePre (C : Int → Mv) (B w : World) (p N a m b : Nat) (k : Int → Int) (d : Nat → Int) : Prop where
  hN : N ≤ 1000
  h1 : a < m
  h2 : m < b
  h3 : b ≤ N
  hI : InR N d
  hs : Sorted k d a m
  ht : Sorted k d m b
  hc : Cross k d a m b
  hC : ICmpOk C B N k
  hO : IOw C w p N d
  hp : B.heap.size ≤ p
  hK : Kept B w

/-- The middle of two places. -/
theorem mid_nat (i j : Nat) : ∃ h : Nat, ((i : Int) + (j : Int)) / 2 = (h : Int) ∧ h = (i + j) / 2 := ⟨(i + j) / 2, by omega, rfl⟩

set_option maxRecDepth 100000 in
set_option maxHeartbeats 4000000 in
theorem imerge_left (p N a b : Nat) (k : Int → Int) (d : Nat → Int) (B w : World) (hM : IMergePre C B w p N a (a + 1) b k d) :
    Calls Try.prog 90 #[.slice (some ⟨p, 0, none⟩) N cap, .int .i64 (a : Int), .int .i64 ((a : Int) + 1), .int .i64 (b : Int), iordF] w (ISortedPost C B p N k d a b) := by
  obtain ⟨hN, h1, h2, h3, hI, hs, ht, hc, hC, hO, hp, hK⟩ := hM
  have m1 : ((a : Int) + 1 - (a : Int) == 1) = true := by rw [beq_iff_eq]; omega
  have ra := hI a (by omega)
  go_enter Try.func90, Try.ntmps90
  go_wp2
  go_loopw [10, 11] (fun s t wr => ∃ i j : Nat, a + 1 ≤ i ∧ i ≤ j ∧ j ≤ b ∧ s = .int .i64 i ∧ t = .int .i64 j ∧ (i = a + 1 ∨ k (d a) < k (d (i - 1))) ∧ (j = b ∨ k (d j) ≤ k (d a)) ∧ IOw C wr p N d ∧ Kept B wr) (fun s t _ => (intOf t - intOf s).toNat)
  case atStart => exact ⟨a + 1, b, by omega, by omega, by omega, by go_num, rfl, .inl rfl, .inl rfl, hO, hK⟩
  case round =>
    obtain ⟨i, j, i0, ij, jb, rfl, rfl, hl, hr, hOr, hKr⟩ := hrel
    have HL := Lib.hid hl
    have HR := Lib.hid hr
    clear hl hr
    by_cases hlt : i < j
    · obtain ⟨h, hh, he⟩ := mid_nat i j
      have HH := Lib.hid hh
      have x1 : i ≤ h := by omega
      have x2 : h < j := by omega
      clear hh he
      have rh := hI h (by omega)
      have hc1 := fun (n : Nat) (os : Array Obj) => (hOr.later (kept_grown (Kept.refl wr) n os)).c0 h (by omega)
      have hc1' := fun (n : Nat) (os : Array Obj) => (hOr.later (kept_grown (Kept.refl wr) n os)).c1 h (by omega)
      have hc2 := fun (n : Nat) (os : Array Obj) => (hOr.later (kept_grown (Kept.refl wr) n os)).c0 a (by omega)
      have hc2' := fun (n : Nat) (os : Array Obj) => (hOr.later (kept_grown (Kept.refl wr) n os)).c1 a (by omega)
      have CV := Lib.hid (cmpV_neg (k (d a)) (k (d h)))
      have CO := Lib.hid (fun (n : Nat) (os : Array Obj) => hC (d h) (d a) (grow (wr.drewN n) os))
      have e1 : (h : Int) < (N : Int) := by omega
      have e2 : (a : Int) < (N : Int) := by omega
      go_wp2_with fail
      rw [HH.out]
      have mixed := mixedP
      go_quiet_grown (first | (go_at_call 38; refine Calls.grown_of (CO.out _ _)))
      have KQ := kept_grown hKr nq osq
      have hOq := hOr.later (kept_grown (Kept.refl wr) nq osq)
      clear hc1 hc1' hc2 hc2' CO hOr hKr
      generalize grow (wr.drewN nq) osq = wq at *
      by_cases hk : k (d a) < k (d h)
      · have cb : decide (cmpV (k (d a)) (k (d h)) < 0) = true := by rw [decide_eq_true_iff, CV.out]; exact hk
        have HK := Lib.hid hk
        rw [cb]
        clear cb hk
        go_wp2
        go_roundw
        case rel => exact ⟨h + 1, j, by omega, by omega, by omega, by go_num, rfl, .inr HK.out, HR.out, hOq, KQ⟩
        case measure => simp [intOf]; omega
      · have cb : decide (cmpV (k (d a)) (k (d h)) < 0) = false := by rw [decide_eq_false_iff_not, CV.out]; exact hk
        have HK := Lib.hid (Int.not_lt.1 hk)
        rw [cb]
        clear cb hk
        go_wp2
        go_roundw
        case rel => exact ⟨i, h, by omega, by omega, by omega, rfl, rfl, HL.out, .inr HK.out, hOq, KQ⟩
        case measure => simp [intOf]; omega
    · obtain rfl : i = j := by omega
      have SL := Lib.hid (sorted_left (k := k) (d := d) i0 jb ht hc HL.out (HR.out.imp id Int.not_lt.2))
      clear hlt HL HR
      go_wp2
      go_loopw [13] (fun s wr => ∃ q : Nat, a ≤ q ∧ q ≤ i - 1 ∧ s = .int .i64 q ∧ IOw C wr p N (shl d a q) ∧ Kept B wr) (fun s _ => (i - intOf s).toNat)
      case atStart => exact ⟨a, by omega, by omega, rfl, by rw [shl_start]; exact hOr, hKr⟩
      case round =>
        clear hOr hKr
        obtain ⟨q, q0, q1, rfl, hO2, hK2⟩ := hrel
        by_cases hq : q < i - 1
        · have hOs := fun (m : Nat) => (hO2.drewN m).swap (i := q) (j := q + 1) (by omega) (by omega) (by omega)
          rw [shl_step d a q q0] at hOs
          have hc := hO2.c0 q (by omega)
          have hc' := hO2.c1 q (by omega)
          have hd := hO2.c0 (q + 1) (by omega)
          have hd' := hO2.c1 (q + 1) (by omega)
          have hf := hO2.f0 q (by omega)
          have hf' := hO2.f1 q (by omega)
          have hg := hO2.f0 (q + 1) (by omega)
          have hg' := hO2.f1 (q + 1) (by omega)
          generalize hx : C (shl d a q q) = x at *
          generalize hy : C (shl d a q (q + 1)) = y at *
          have HO := Lib.hid hOs
          clear hOs hO2 hx hy
          have e1 : (q : Int) < (i : Int) - 1 := by omega
          have e2 : (q : Int) + 1 < (N : Int) := by omega
          have e3 : (q : Int) < (N : Int) := by omega
          have e4 : ((q : Int) + 1).toNat = q + 1 := by omega
          have e5 : (1 : Int) ≤ (i : Int) := by omega
          have ne : q ≠ q + 1 := by omega
          go_wp2
          go_region
          all_goals go_wp2
          all_goals
            go_roundw
            case rel => exact ⟨q + 1, by omega, by omega, by go_num, HO.out 1, (((((hK2.drewN 1).setAt hp _).setAt hp _).setAt hp _).setAt hp _)⟩
            case measure => simp [intOf]; omega
        · obtain rfl : q = i - 1 := by omega
          rw [shl_end d a i i0] at hO2
          have e1 : decide (((i - 1 : Nat) : Int) < (i : Int) - 1) = false := by simp; omega
          have e2 : ((i - 1 : Nat) : Int) = (i : Int) - 1 := by omega
          have e5 : (1 : Int) ≤ (i : Int) := by omega
          go_wp2
          go_end0
          exact ⟨_, rfl, hO2, hK2, SegPerm.rot d a (a + 1) i (Nat.le_refl _) (by omega) i0 jb, SL.out⟩

end Go.Proofs.Ytdgiljndoeldcaa
