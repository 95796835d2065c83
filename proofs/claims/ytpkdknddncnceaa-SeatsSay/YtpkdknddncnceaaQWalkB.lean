/-
  What the library's swapRange_func and rotate_func do to the row of claims. No condition but those that each theorem names.
-/
import Derived.Test.YtpkdknddncnceaaQWalkA
namespace Go.Proofs.Ytpkdknddncnceaa
open Go.RowKit

/-- What the sort is handed: the order, and the exchange. -/
abbrev lessV (bx : Nat) : Value := .func (.func 29) #[] #[.pointer (some ⟨bx, 0, none⟩)]
abbrev swapV (sf : Nat) (sb : Array Value) : Value := .func (.func sf) #[] sb
/-- The variable that holds both. -/
structure FB (w : World) (b : Nat) (lv sv : Value) : Prop where
  lt : b < w.heap.size
  c0 : w.cell? ⟨b, 0, none⟩ = some lv
  c1 : w.cell? ⟨b, 1, none⟩ = some sv
theorem FB.turn {p : Nat} {w w' : World} {b : Nat} {lv sv : Value} (h : FB w b lv sv) (k : Turn p w w') (ne : b ≠ p) : FB w' b lv sv :=
  ⟨Nat.lt_of_lt_of_le h.lt k.size, (k.cell _ _ h.lt ne).trans h.c0, (k.cell _ _ h.lt ne).trans h.c1⟩
theorem FB.new {w : World} {lv sv : Value} {t : TypeId} : FB (w.alloc (.cells #[lv, sv] t)) w.heap.size lv sv := ⟨by simp, by simp, by simp⟩
/-- All that is known while the sort goes on. -/
structure Env (B : World) (p N bx cap : Nat) (C : Cl) (k : Int → Int) (sf : Nat) (sb : Array Value) : Prop where
  hN : N ≤ 1000000
  ok : ClOk C N
  key : ∀ x y : Int, 0 ≤ x → x < N → 0 ≤ y → y < N → lsB (C.v x.toNat) (C.d x.toNat) (C.v y.toNat) (C.d y.toNat) = decide (k y < k x)
  swp : SwapOk B p N bx cap C sf sb
theorem Env.less {B w : World} {p N bx cap : Nat} {C : Cl} {k : Int → Int} {sf : Nat} {sb : Array Value} {d : Nat → Int} (E : Env B p N bx cap C k sf sb) (hI : InR N d) (hS : St B w p N bx cap C d) (i j : Nat) (x y : Int) (hx : x = i) (hy : y = j) (hi : i < N) (hj : j < N) :
    Calls Try.prog 29 #[.int .i64 x, .int .i64 y, .pointer (some ⟨bx, 0, none⟩)] w fun e w' => e = .returned (.bool (decide (k (d j) < k (d i)))) ∧ Kept w w' := by
  subst hx hy
  have a := hI i hi
  have b := hI j hj
  rw [← E.key _ _ a.1 a.2 b.1 b.2]
  exact less_any B w p N bx cap C d i j hi hj E.hN E.ok hI hS
theorem Env.swap {B w : World} {p N bx cap : Nat} {C : Cl} {k : Int → Int} {sf : Nat} {sb : Array Value} {d : Nat → Int} (E : Env B p N bx cap C k sf sb) (hS : St B w p N bx cap C d) (i j : Nat) (x y : Int) (hx : x = i) (hy : y = j) (hi : i < N) (hj : j < N) (ij : i ≠ j) :
    ∃ w2, (callFunc sf (#[.int .i64 x, .int .i64 y] ++ sb)).run Try.prog w = .ok (.value (.tuple #[])) w2 ∧ St B w2 p N bx cap C (sw d i j) ∧ Turn p w w2 := by
  subst hx hy
  exact E.swp w d i j hi hj ij hS
/-- What is so behind a call that turns the row alone. -/
def Wrt (B w : World) (p N bx cap : Nat) (C : Cl) (d : Nat → Int) (e : Ending) (w' : World) : Prop := e = .returned (.tuple #[]) ∧ St B w' p N bx cap C d ∧ Turn p w w'

set_option maxRecDepth 100000 in
set_option maxHeartbeats 2000000 in
theorem swapRange_any {B w : World} {p N bx cap : Nat} {C : Cl} {k : Int → Int} {sf : Nat} {sb : Array Value} {d : Nat → Int} (E : Env B p N bx cap C k sf sb) (a b n : Nat) (x y z : Int) (hx : x = a) (hy : y = b) (hz : z = n) (h1 : a + n ≤ b) (h2 : b + n ≤ N) (hS : St B w p N bx cap C d) :
    Calls Try.prog 49 #[.agg #[lessV bx, swapV sf sb], .int .i64 x, .int .i64 y, .int .i64 z] w (Wrt B w p N bx cap C (swR d a b n)) := by
  subst hx hy hz
  have hN := E.hN
  have EE := Lib.hid E
  have hF := FB.new (w := w) (lv := lessV bx) (sv := swapV sf sb) (t := 61)
  have hK := (Kept.refl w).alloc (.cells #[lessV bx, swapV sf sb] 61)
  have hne : w.heap.size ≠ p := by have := hS.row.lt; omega
  have hS1 := hS.later hK
  have hT1 : Turn p w (w.alloc (.cells #[lessV bx, swapV sf sb] 61)) := Turn.kept hK
  clear hS hK E
  go_enter Try.func49, Try.ntmps49
  go_wp2_with fail
  generalize w.alloc (.cells #[lessV bx, swapV sf sb] 61) = w1 at *
  generalize w.heap.size = fb at *
  go_loopw [8] (fun i wr => ∃ q : Nat, q ≤ n ∧ i = .int .i64 q ∧ St B wr p N bx cap C (swR d a b q) ∧ Turn p w1 wr) (fun i _ => (n - intOf i).toNat)
  case atStart => exact ⟨0, by omega, rfl, by rw [swR_zero]; exact hS1, Turn.refl _ _⟩
  case round =>
    obtain ⟨q, hq, rfl, hSr, hTr⟩ := hrel
    by_cases hlt : q < n
    · have c1 := (hF.turn hTr hne).c1
      obtain ⟨w2, hs, hS2, hT2⟩ := EE.out.swap hSr (a + q) (b + q) ((a : Int) + (q : Int)) ((b : Int) + (q : Int)) (by omega) (by omega) (by omega) (by omega) (by omega)
      rw [swR_succ d a b q n h1 hlt] at hS2
      have HS := Lib.hid hs
      have HS2 := Lib.hid hS2
      have HT2 := Lib.hid (hTr.trans hT2)
      clear hs hS2 hT2 hSr hTr
      go_wp2
      rw [HS.out, Oper.upon_value]
      go_wp2
      go_roundw
      case rel => exact ⟨q + 1, by omega, by go_num, HS2.out, HT2.out⟩
      case measure => simp [intOf]; omega
    · obtain rfl : q = n := by omega
      clear hlt
      go_wp2
      go_end0
      exact ⟨rfl, hSr, hT1.trans hTr⟩

end Go.Proofs.Ytpkdknddncnceaa
