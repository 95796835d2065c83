/-
  What the library's choosePivot_func finds in the row of entries. No condition but those that each theorem names.
-/
import Derived.Test.YtbaahnafmfjpaaaGreatDoorYWalkC
namespace Go.Proofs.YtbaahnafmfjpaaaGreatDoor
open Go.RowKit
set_option linter.unusedVariables false

theorem Turn.new {c q : Nat} {w w' : World} (h : Turn c w w') (hc : w.heap.size ≤ c) : Turn q w w' :=
  ⟨h.size, fun b o hb _ => h.cell b o hb (by omega), fun b o hb _ => h.free b o hb (by omega)⟩
theorem Cb.new {w : World} {t : TypeId} {b : Nat} (hb : w.heap.size = b) : Cb (w.alloc (.cells #[.int .i64 0] t)) b 0 := by
  subst hb
  exact ⟨by simp, by simp, by simp⟩
section
variable {B w : World} {p N bx cap : Nat} {C : En} {sf : Nat} {sb : Array Value} {d : Nat → Nat}
/-- What it returns. -/
def ChY (B w : World) (p N bx cap : Nat) (C : En) (d : Nat → Nat) (pv : Nat) (hint : Int) (e : Ending) (w' : World) : Prop := e = .returned (.tuple #[.int .i64 (pv : Int), .int .i64 hint]) ∧ Sy B w' p N bx cap C d ∧ Turn p w w'
theorem nthS_le (d : Nat → Nat) (l i : Nat) : nthS d l i ≤ 3 := by
  unfold nthS
  cases Nat.ble 50 l
  · show 0 ≤ 3; omega
  · exact medS_le d _ _ _
theorem nth3_lt {N : Nat} (d : Nat → Nat) {l i : Nat} (h : i + 1 < N) : nth3 d l i < N := by
  unfold nth3
  cases Nat.ble 50 l
  · show i < N; omega
  · exact medJ_lt d (by omega) (by omega) h
set_option maxRecDepth 100000 in
set_option maxHeartbeats 1000000 in
theorem choose_any (E : EnvY B p N bx cap C sf sb) (a b : Nat) (x y : Int) (hx : x = a) (hy : y = b) (h1 : 13 + a ≤ b) (h2 : b ≤ N) (hI : InY N d) (hS : Sy B w p N bx cap C d) (hs : chS d a b ≠ 12) :
    Calls Tryz.prog 99 #[.agg #[lessW bx, swapW sf sb], .int .i64 x, .int .i64 y] w (ChY B w p N bx cap C d (chP d a b) (bif Nat.beq (chS d a b) 0 then 1 else 0)) := by
  subst hx hy
  have hN := E.hN
  have hF := FY.new (w := w) (lv := lessW bx) (sv := swapW sf sb) (t := 99)
  have hK := (Kept.refl w).alloc (.cells #[lessW bx, swapW sf sb] 99)
  obtain ⟨L, hL⟩ : ∃ L, b - a = L := ⟨_, rfl⟩
  obtain ⟨Q, hQ⟩ : ∃ Q, L / 4 = Q := ⟨_, rfl⟩
  have q1 : 4 * Q ≤ L := by omega
  have q2 : 3 ≤ Q := by omega
  have l1 : IntKind.i64.wrap ((b : Int) - (a : Int)) = (L : Int) := by rw [show (b : Int) - (a : Int) = (L : Int) by omega]; exact IntWalk.i64_in _ (by omega)
  have l2 : Int.tdiv (L : Int) 4 = (Q : Int) := by rw [Int.tdiv_eq_ediv_of_nonneg (by omega)]; omega
  have l3 : IntKind.i64.wrap (Q : Int) = (Q : Int) := IntWalk.i64_in _ (by omega)
  have l4 : IntKind.i64.wrap ((Q : Int) * 2) = (Q : Int) * 2 := IntWalk.i64_in _ (by omega)
  have l5 : IntKind.i64.wrap ((Q : Int) * 3) = (Q : Int) * 3 := IntWalk.i64_in _ (by omega)
  have l6 : IntKind.i64.wrap ((a : Int) + (Q : Int)) = (a : Int) + (Q : Int) := IntWalk.i64_in _ (by omega)
  have l7 : IntKind.i64.wrap ((a : Int) + (Q : Int) * 2) = (a : Int) + (Q : Int) * 2 := IntWalk.i64_in _ (by omega)
  have l8 : IntKind.i64.wrap ((a : Int) + (Q : Int) * 3) = (a : Int) + (Q : Int) * 3 := IntWalk.i64_in _ (by omega)
  have l9 : (8 : Int) ≤ (L : Int) := by omega
  have HS := Lib.hid (hS.later (hK.alloc (.cells #[.int .i64 0] 3)))
  have HC := Lib.hid (Cb.new (w := w.alloc (.cells #[lessW bx, swapW sf sb] 99)) (t := 3) (b := w.heap.size + 1) (by simp))
  have HK := Lib.hid (Turn.kept (p := w.heap.size + 1) (hK.alloc (.cells #[.int .i64 0] 3)))
  have HF := Lib.hid (hF.turn (p := w.heap.size + 1) (Turn.kept ((Kept.refl _).alloc (.cells #[.int .i64 0] 3))) (by omega))
  have hB : B.heap.size ≤ w.heap.size + 1 := by have := hS.kept.size; omega
  have n1 : w.heap.size + 1 ≠ p := by have := hS.row.lt; omega
  have n2 : w.heap.size + 1 ≠ bx := by have := hS.blt; omega
  have fc : w.heap.size ≠ w.heap.size + 1 := by omega
  have cn : w.heap.size ≤ w.heap.size + 1 := by omega
  have SI : chI d a b = nth3 d L (a + Q) := by unfold chI; rw [hL, hQ]
  have SJ : chJ d a b = nth3 d L (a + Q * 2) := by unfold chJ; rw [hL, hQ]
  have SK : chK d a b = nth3 d L (a + Q * 3) := by unfold chK; rw [hL, hQ]
  have SS : chS d a b = nthS d L (a + Q) + (nthS d L (a + Q * 2) + (nthS d L (a + Q * 3) + medS d (chI d a b) (chJ d a b) (chK d a b))) := by unfold chS; rw [hL, hQ]
  have SP : chP d a b = medJ d (chI d a b) (chJ d a b) (chK d a b) := rfl
  rw [SI, SJ, SK] at SS SP
  have i1 := nthS_le d L (a + Q)
  have i2 := nthS_le d L (a + Q * 2)
  have i3 := nthS_le d L (a + Q * 3)
  have j1 : nth3 d L (a + Q) < N := nth3_lt d (by omega)
  have j2 : nth3 d L (a + Q * 2) < N := nth3_lt d (by omega)
  have j3 : nth3 d L (a + Q * 3) < N := nth3_lt d (by omega)
  have M4 := Lib.hid (fun W s (hs : s ≤ 9) (h1 : Sy B W p N bx cap C d) (h2 : Cb W (w.heap.size + 1) s) (x y z : Int) (hx : x = (nth3 d L (a + Q) : Nat)) (hy : y = (nth3 d L (a + Q * 2) : Nat)) (hz : z = (nth3 d L (a + Q * 3) : Nat)) => median_any (w := W) E _ _ _ s x y z hx hy hz j1 j2 j3 hI h1 h2 hB n1 n2 (by omega))
  have MA := Lib.hid (fun W i s (hi : 1 ≤ i) (hi2 : i + 1 < N) (hs : s ≤ 9) (h1 : Sy B W p N bx cap C d) (h2 : Cb W (w.heap.size + 1) s) (x : Int) (hx : x = (i : Nat)) => medAdj_any (w := W) E i s x hx hi hi2 hI h1 h2 hB n1 n2 (by omega))
  have hLN : a + L ≤ N := by omega
  obtain ⟨S, hS'⟩ : ∃ S, chS d a b = S := ⟨_, rfl⟩
  rw [hS'] at hs SS ⊢
  have H12 := Lib.hid hs
  rw [SP]
  clear hS'
  clear SI SJ SK SP hs hS hK hI E hL hQ hF
  by_cases c50 : 50 ≤ L
  · have b50 : Nat.ble 50 L = true := (ble_iff _ _).2 c50
    have c51 : decide ((50 : Int) ≤ (L : Int)) = true := by simp; omega
    have e3 : ∀ i, nth3 d L i = medJ d (i - 1) i (i + 1) := fun i => by unfold nth3; rw [b50]; rfl
    have eS : ∀ i, nthS d L i = medS d (i - 1) i (i + 1) := fun i => by unfold nthS; rw [b50]; rfl
    have E3 := Lib.hid e3
    have ES := Lib.hid eS
    clear e3 eS b50
    generalize hW : w.alloc (.cells #[lessW bx, swapW sf sb] 99) = w1 at *
    have HW := Lib.hid hW
    obtain ⟨f0, f1, f2⟩ := HF.out
    clear hW
    go_enter Tryz.func99, Tryz.ntmps99
    go_wp2_with fail
    rw [HW.out]
    refine (MA.out _ (a + Q) 0 (by omega) (by omega) (by omega) HS.out HC.out _ (by omega)).mono ?_
    rintro e w2 ⟨rfl, hS2, hC2, hT2⟩
    rw [← E3.out (a + Q)]
    rw [← ES.out, Nat.zero_add] at hC2
    have HC2 := Lib.hid hC2
    have HS2 := Lib.hid hS2
    have HT2 := Lib.hid hT2
    clear hC2 hS2 hT2 f0 f1 f2
    obtain ⟨f0, f1, f2⟩ := HF.out.turn HT2.out fc
    go_wp2_with fail
    refine (MA.out w2 (a + Q * 2) _ (by omega) (by omega) (by omega) HS2.out HC2.out _ (by omega)).mono ?_
    rintro e w3 ⟨rfl, hS3, hC3, hT3⟩
    rw [← ES.out] at hC3
    rw [← E3.out (a + Q * 2)]
    have HC3 := Lib.hid hC3
    have HS3 := Lib.hid hS3
    have HT3 := Lib.hid (HT2.out.trans hT3)
    clear hC3 hS3 hT3 f0 f1 f2 HC2 HS2 HT2
    obtain ⟨f0, f1, f2⟩ := HF.out.turn HT3.out fc
    go_wp2_with fail
    refine (MA.out w3 (a + Q * 3) _ (by omega) (by omega) (by omega) HS3.out HC3.out _ (by omega)).mono ?_
    rintro e w4 ⟨rfl, hS4, hC4, hT4⟩
    rw [← ES.out] at hC4
    rw [← E3.out (a + Q * 3)]
    have HC4 := Lib.hid hC4
    have HS4 := Lib.hid hS4
    have HT4 := Lib.hid (HT3.out.trans hT4)
    clear hC4 hS4 hT4 f0 f1 f2 HC3 HS3 HT3
    obtain ⟨f0, f1, f2⟩ := HF.out.turn HT4.out fc
    go_wp2_with fail
    refine (M4.out w4 _ (by omega) HS4.out HC4.out _ _ _ rfl rfl rfl).mono ?_
    rintro e w5 ⟨rfl, hS5, hC5, hT5⟩
    have hT5 := HT4.out.trans hT5
    rw [show nthS d L (a + Q) + nthS d L (a + Q * 2) + nthS d L (a + Q * 3) + medS d (nth3 d L (a + Q)) (nth3 d L (a + Q * 2)) (nth3 d L (a + Q * 3)) = nthS d L (a + Q) + (nthS d L (a + Q * 2) + (nthS d L (a + Q * 3) + medS d (nth3 d L (a + Q)) (nth3 d L (a + Q * 2)) (nth3 d L (a + Q * 3)))) by omega] at hC5
    clear f0 f1 f2
    have T5 := Lib.hid ((HK.out.trans hT5).new (q := p) cn)
    have S5 := Lib.hid hS5
    obtain ⟨s0, s1, s2⟩ := hC5
    rw [← SS] at s1
    clear hS5 hT5 SS
    by_cases z : S = 0
    · have z1 : ((S : Int) == 0) = true := by rw [beq_iff_eq]; omega
      have z2 : (bif Nat.beq S 0 then (1 : Int) else 0) = 1 := by rw [(beq_iff _ _).2 z]; rfl
      clear z
      go_wp2
      exact bodyPost_ret (by simp [results, Tryz.results99, go_sem]; rfl) rfl ⟨by rw [z2], S5.out, T5.out⟩
    · have z1 : ((S : Int) == 0) = false := by rw [beq_eq_false_iff_ne]; omega
      have z3 : ((S : Int) == 12) = false := by rw [beq_eq_false_iff_ne]; have := H12.out; omega
      have z2 : (bif Nat.beq S 0 then (1 : Int) else 0) = 0 := by rw [beq_no z]; rfl
      clear z
      go_wp2
      exact bodyPost_ret (by simp [results, Tryz.results99, go_sem]; rfl) rfl ⟨by rw [z2], S5.out, T5.out⟩
  · have b50 : Nat.ble 50 L = false := ble_no c50
    have c51 : decide ((50 : Int) ≤ (L : Int)) = false := by simp; omega
    have e3 : ∀ i, nth3 d L i = i := fun i => by unfold nth3; rw [b50]; rfl
    have eS : ∀ i, nthS d L i = 0 := fun i => by unfold nthS; rw [b50]; rfl
    simp only [e3, eS, Nat.zero_add] at *
    generalize hW : w.alloc (.cells #[lessW bx, swapW sf sb] 99) = w1 at *
    have HW := Lib.hid hW
    obtain ⟨f0, f1, f2⟩ := HF.out
    clear e3 eS b50 hW
    go_enter Tryz.func99, Tryz.ntmps99
    go_wp2_with fail
    rw [HW.out]
    refine (M4.out _ 0 (by omega) HS.out HC.out _ _ _ (by omega) (by omega) (by omega)).mono ?_
    rintro e w5 ⟨rfl, hS5, hC5, hT5⟩
    rw [Nat.zero_add] at hC5
    clear f0 f1 f2
    have T5 := Lib.hid ((HK.out.trans hT5).new (q := p) cn)
    have S5 := Lib.hid hS5
    obtain ⟨s0, s1, s2⟩ := hC5
    rw [← SS] at s1
    clear hS5 hT5 SS
    by_cases z : S = 0
    · have z1 : ((S : Int) == 0) = true := by rw [beq_iff_eq]; omega
      have z2 : (bif Nat.beq S 0 then (1 : Int) else 0) = 1 := by rw [(beq_iff _ _).2 z]; rfl
      clear z
      go_wp2
      exact bodyPost_ret (by simp [results, Tryz.results99, go_sem]; rfl) rfl ⟨by rw [z2], S5.out, T5.out⟩
    · have z1 : ((S : Int) == 0) = false := by rw [beq_eq_false_iff_ne]; omega
      have z3 : ((S : Int) == 12) = false := by rw [beq_eq_false_iff_ne]; have := H12.out; omega
      have z2 : (bif Nat.beq S 0 then (1 : Int) else 0) = 0 := by rw [beq_no z]; rfl
      clear z
      go_wp2
      exact bodyPost_ret (by simp [results, Tryz.results99, go_sem]; rfl) rfl ⟨by rw [z2], S5.out, T5.out⟩
end
end Go.Proofs.YtbaahnafmfjpaaaGreatDoor
