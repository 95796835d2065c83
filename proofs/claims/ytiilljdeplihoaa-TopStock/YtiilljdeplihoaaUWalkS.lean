/-
  What the end-to-end tests' sum returns; a book in a box that is written. No condition but those that each theorem names.
-/
import Derived.Test.YtiilljdeplihoaaLBase
namespace Go.Proofs.Ytiilljdeplihoaa
open Go.RowKit
set_option linter.unusedVariables false

set_option maxRecDepth 100000 in
set_option maxHeartbeats 2000000 in
theorem tsum_any (g : Nat → Int) (n : Nat) (a : Option Addr) (cap : Nat) (w : World) (hn : n ≤ 1000) (hb : ∀ i, i < n → -2000000000000 ≤ g i ∧ g i ≤ 2000000000000) (hA : Arg w a n g) :
    Calls Try.prog 25 #[.slice a n cap] w fun e w' => e = .returned (.int .i64 (sumTo g n)) ∧ w = w' := by
  have HA := Lib.hid hA
  have HB := Lib.hid hb
  clear hA hb
  go_enter Try.func25, Try.ntmps25
  go_wp2
  go_loop [3, 8] (fun s i => ∃ k : Nat, k ≤ n ∧ i = .int .i64 k ∧ s = .int .i64 (sumTo g k)) (fun _ i => n - (intOf i).toNat)
  case atStart => exact ⟨0, Nat.zero_le _, rfl, rfl⟩
  case round =>
    obtain ⟨k, hk, rfl, rfl⟩ := hrel
    by_cases hlt : k < n
    · obtain ⟨p, off, rfl, hR⟩ := HA.out.at (by omega)
      have c0 := hR.cell k (by rw [tab_len]; exact hlt)
      rw [tab_get] at c0
      have plt := hR.lt
      have S := sumTo_bd g 2000000000000 k (fun j hj => HB.out j (by omega))
      have z := HB.out k hlt
      have SS := Lib.hid (show sumTo g (k + 1) = sumTo g k + g k from rfl)
      have i0 : (0 : Int) ≤ (k : Int) := by omega
      have i1 : (k : Int) < (n : Int) := by omega
      generalize sumTo g k = S0 at *
      generalize g k = x at *
      have u1 : IntKind.i64.wrap (S0 + x) = S0 + x := IntWalk.i64_in _ (by omega)
      clear hR
      go_wp2
      go_round
      case rel => exact ⟨k + 1, by omega, by go_num, by rw [SS.out]⟩
      case measure => simp [intOf]; omega
    · obtain rfl : k = n := by omega
      clear hlt
      go_wp2
      go_ret
      exact ⟨rfl, rfl⟩
theorem uv_put {w : World} {p : Nat} {q q' : BkA} {b b' : Bk} (h : VBk w p q b) : VBk (((w.setCell ⟨p, 0, none⟩ (.slice q'.aa b'.acs.length q'.ca)).setCell ⟨p, 1, none⟩ (.slice q'.ae b'.ens.length q'.ce)).setCell ⟨p, 2, none⟩ (.int .i64 b'.shut)) p q' b' := by
  obtain ⟨⟨a, c, d, e⟩, f0, f1, f2⟩ := h
  refine ⟨⟨by simpa using a, ?_, ?_, ?_⟩, ?_, ?_, ?_⟩ <;> go_simp
theorem uv_new {w : World} {p : Nat} (hp : w.heap.size = p) (q : BkA) (b : Bk) : VBk (w.alloc (bkO q b)) p q b := by
  subst hp; exact ⟨BBx.new w q b, by simp, by simp, by simp⟩
/-- Where a loop's book lies: where it lay at W, or in memory of its own from a block on. -/
def BkU (W w : World) (p : Nat) (q : BkA) (b : Bk) : Prop := BkM W q b ∨ ∃ B, p < B ∧ BkF w B q b
theorem BkU.m {W w : World} {p : Nat} {q : BkA} {b : Bk} (h : BkU W w p q b) (k : Kept W w) : BkM w q b := by
  rcases h with h | ⟨B, _, h⟩
  · exact h.later k
  · exact h.m
theorem BkU.later {W w w' : World} {p : Nat} {q : BkA} {b : Bk} (h : BkU W w p q b) (k : Kept w w') : BkU W w' p q b := by
  rcases h with h | ⟨B, hB, h⟩
  · exact .inl h
  · exact .inr ⟨B, hB, h.later k⟩
end Go.Proofs.Ytiilljdeplihoaa
