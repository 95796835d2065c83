/-
  What the helpers of the laws of stock return: sums, and whether two rows are equal. No condition but those that each theorem names.
-/
import Derived.Test.YtdgiljndoeldcaaMgPWalkA
import Derived.Deep.Upon
namespace Go.Proofs.Ytdgiljndoeldcaa
open Go.RowKit Go.WideShapes
set_option linter.unusedVariables false

/-- A row laid as a literal. -/
theorem JRow.lit {α : Type} (E : Jec α) {w : World} {p : Nat} (l : List α) (cs : Array Value) (t : TypeId) (hp : w.heap.size = p) (hcs : cs.toList = E.cat l) : JRow E (w.alloc (.cells cs t)) p 0 l := by
  subst hp
  refine ⟨by simp, fun j u hj => ?_⟩
  rw [Nat.zero_add]
  rw [← hcs] at hj
  have : (w.alloc (.cells cs t)).cell? ⟨w.heap.size, j, none⟩ = cs[j]? := World.cell?_alloc_new w cs t j
  rw [this, ← Array.getElem?_toList]; exact hj
theorem JArg.lit {α : Type} (E : Jec α) {w : World} {p : Nat} (l : List α) (cs : Array Value) (t : TypeId) (hp : w.heap.size = p) (hcs : cs.toList = E.cat l) : JArg E (w.alloc (.cells cs t)) (some ⟨p, 0, none⟩) l :=
  .inr ⟨p, 0, rfl, JRow.lit E l cs t hp hcs⟩
set_option maxHeartbeats 4000000 in
theorem iequal_yes (l : List Int) (a b : Option Addr) (n cap cap' : Nat) (w : World) (hn : l.length ≤ 1000) (e : l.length = n) (hR : JArg eI w a l) (hQ : JArg eI w b l) :
    Calls Try.prog 22 #[.slice a n cap, .slice b n cap'] w fun e w' => e = .returned (.bool true) ∧ Kept w w' := by
  have HR := Lib.hid hR
  have HQ := Lib.hid hQ
  have HE := Lib.hid e
  have hn' : n ≤ 1000 := by omega
  clear hR hQ e hn
  go_enter Try.func22, Try.ntmps22
  go_wp2
  go_loopw [13] (fun i wr => ∃ k m : Nat, k ≤ n ∧ i = .int .i64 k ∧ wr = w.drewN m) (fun i _ => (n - intOf i).toNat)
  case atStart => exact ⟨0, 0, by omega, rfl, rfl⟩
  case round =>
    obtain ⟨k, m, hk, rfl, rfl⟩ := hrel
    by_cases hlt : k < n
    · have hl : k < l.length := by rw [HE.out]; exact hlt
      obtain ⟨p, off, rfl, hp⟩ := HR.out.at hl
      obtain ⟨q, off', rfl, hq⟩ := HQ.out.at hl
      have c0 := hp.i k hl
      have d0 := hq.i k hl
      clear hp hq
      generalize l[k] = x at *
      clear hl
      have i0 : (0 : Int) ≤ (k : Int) := by omega
      have i1 : (k : Int) < (n : Int) := by omega
      go_wp2_with fail
      go_quiet (fail)
      go_wp2
      go_roundw
      case rel => exact ⟨k + 1, _, by omega, by go_num, rfl⟩
      case measure => simp [intOf]; omega
    · obtain rfl : k = n := by omega
      clear hlt
      go_wp2
      go_ret
      exact ⟨rfl, (Kept.refl w).drewN m⟩
theorem sumI_take {l : List Int} (h : ∀ x ∈ l, 0 ≤ x) {j : Nat} (hj : j ≤ l.length) : 0 ≤ sumI (l.take j) ∧ sumI (l.take j) ≤ sumI l := by
  have e := sumI_app (l.take j) (l.drop j)
  rw [List.take_append_drop] at e
  have := sumI_pos (l := l.take j) (fun x hx => h x (List.mem_of_mem_take hx))
  have := sumI_pos (l := l.drop j) (fun x hx => h x (List.mem_of_mem_drop hx))
  omega
/-- The sum of numbers that are not below nought. -/
def SumAny (F : FuncId) : Prop := ∀ (a : Option Addr) (l : List Int) (cap : Nat) (w : World), l.length ≤ 1000 → (∀ x ∈ l, 0 ≤ x) → sumI l ≤ 1000000000000000 → JArg eI w a l →
    Calls Try.prog F #[.slice a l.length cap] w fun e w' => e = .returned (.int .i64 (sumI l)) ∧ w = w'
set_option maxHeartbeats 4000000 in
theorem ksum_any : SumAny 28 := by
  intro a l cap w hn hp hs hA
  have HA := Lib.hid hA
  have SB := Lib.hid (fun j (h : j ≤ l.length) => sumI_take hp h)
  have SN := Lib.hid (fun j (h : j < l.length) => show sumI (l.take (j + 1)) = sumI (l.take j) + l[j] from by rw [take_snocP l j h, sumI_app, sumI, sumI]; omega)
  clear hA hp
  go_enter Try.func28, Try.ntmps28
  go_wp2
  go_loopw [3, 8] (fun s i wr => ∃ j : Nat, j ≤ l.length ∧ i = .int .i64 j ∧ s = .int .i64 (sumI (l.take j)) ∧ w = wr) (fun _ i _ => l.length - (intOf i).toNat)
  case atStart => exact ⟨0, Nat.zero_le _, rfl, rfl, rfl⟩
  case round =>
    obtain ⟨j, hj, rfl, rfl, rfl⟩ := hrel
    by_cases hlt : j < l.length
    · obtain ⟨p, off, rfl, hR⟩ := HA.out.at hlt
      have c0 := hR.i j hlt
      have S1 := Lib.hid (SN.out j hlt)
      have b1 := SB.out (j + 1) hlt
      rw [S1.out] at b1
      have wr1 : IntKind.i64.wrap (sumI (l.take j) + l[j]) = sumI (l.take j) + l[j] := IntWalk.i64_in _ (by omega)
      clear hR b1
      generalize l[j] = x at *
      generalize sumI (l.take j) = s at *
      go_wp2
      go_roundw
      case rel => exact ⟨j + 1, by omega, by go_num, by rw [S1.out], trivial⟩
      case measure => simp [intOf]; omega
    · obtain rfl : j = l.length := by omega
      clear hlt
      rw [List.take_length]
      go_wp2
      go_ret
      exact ⟨rfl, rfl⟩
theorem lots_take {l : List Mv} (h : LotsOk l) (j : Nat) : LotsOk (l.take j) := fun x hx => h x (List.mem_of_mem_take hx)
/-- Some number from 0 to n-1. -/
def SkBelow (n : Int) (w : World) (e : Ending) (w' : World) : Prop := ∃ r : Int, 0 ≤ r ∧ r < n ∧ e = .returned (.int .i64 r) ∧ w = w'
theorem skWithin_val (k n : Int) (w : World) (h0 : 1 ≤ n) (h1 : n ≤ 1000000000000000) : SkBelow n w (.returned (.int .i64 (wrap64 ((IntKind.u64.wrap k).tmod n)))) w := by
  have h2 : 0 ≤ IntKind.u64.wrap k := by rw [IntKind.wrap_u64]; omega
  have h3 : (IntKind.u64.wrap k).tmod n = IntKind.u64.wrap k % n := Int.tmod_eq_emod_of_nonneg h2
  have h4 : 0 ≤ IntKind.u64.wrap k % n := Int.emod_nonneg _ (by omega)
  have h5 : IntKind.u64.wrap k % n < n := Int.emod_lt_of_pos _ (by omega)
  rw [h3]
  refine ⟨IntKind.u64.wrap k % n, h4, h5, ?_, rfl⟩
  rw [show wrap64 (IntKind.u64.wrap k % n) = IntKind.u64.wrap k % n from by unfold wrap64; omega]
set_option maxHeartbeats 1000000 in
theorem skWithin_any (k n : Int) (w : World) (h0 : 1 ≤ n) (h1 : n ≤ 1000000000000000) :
    Calls Try.prog 27 #[.int .i64 k, .int .i64 n] w (SkBelow n w) := by
  go_enter Try.func27, Try.ntmps27
  go_wp2
  go_ret
  exact skWithin_val k n w h0 h1
/-- Fifo's answer, as slices. -/
def FiA (w : World) (s : List Int × List Mv) (e : Ending) (w' : World) : Prop :=
  ∃ au cu av cv, e = .returned (.tuple #[.slice au s.1.length cu, .slice av s.2.length cv, .int .i64 0]) ∧ JArg eI w' au s.1 ∧ JArg eP w' av s.2 ∧ s.1.length ≤ cu ∧ cu ≤ maxLen ∧ (au = none → cu = 0) ∧ Kept w w'
def MnA (w : World) (s : List Int × Mv) (e : Ending) (w' : World) : Prop :=
  ∃ au cu, e = .returned (.tuple #[.slice au s.1.length cu, .agg #[.int .i64 s.2.1, .int .i64 s.2.2], .int .i64 0]) ∧ JArg eI w' au s.1 ∧ s.1.length ≤ cu ∧ cu ≤ maxLen ∧ (au = none → cu = 0) ∧ Kept w w'
theorem JArg.at0 {w : World} {a : Option Addr} {x : Int} (h : JArg eI w a [x]) : ∃ p off, a = some ⟨p, off, none⟩ ∧ p < w.heap.size ∧ w.cell? ⟨p, off, none⟩ = some (.int .i64 x) := by
  obtain ⟨p, off, rfl, hR⟩ := h.at (j := 0) (by simp)
  exact ⟨p, off, rfl, hR.lt, by simpa using hR.i 0 (by simp)⟩
end Go.Proofs.Ytdgiljndoeldcaa
