/-
  What each function that returns a row of numbers returns, in one form: a row in new memory (or none), an error, and all that was there stays. Condition of Months alone: the table of the months' lengths reads as the program lays it (Tab).
-/
import Derived.Test.YtcfcbglnmhoknabDoorKWalkC
namespace Go.Proofs.YtcfcbglnmhoknabDoor
open Go.RowKit

/-- A row in memory of its own, behind block B, with or without room behind it; or none. -/
def Sp (B : Nat) (w : World) (v : Value) (n : Nat) (g : Nat → Int) : Prop :=
  (v = .slice none 0 0 ∧ n = 0) ∨ ∃ p c : Nat, v = .slice (some ⟨p, 0, none⟩) n c ∧ B ≤ p ∧ p < w.heap.size ∧ n ≤ c ∧ (c : Int) ≤ 9223372036854775807 ∧ (∀ j, j < n → w.cell? ⟨p, j, none⟩ = some (.int .i64 (g j))) ∧ (∀ j, j < c → ∃ u, w.cell? ⟨p, j, none⟩ = some u) ∧ (∀ j, j < c → w.frozen? ⟨p, j, none⟩ = false)
theorem Sp.nil (B : Nat) (w : World) (g : Nat → Int) : Sp B w (.slice none 0 0) 0 g := .inl ⟨rfl, rfl⟩
theorem Sp.ofOwn {B p n : Nat} {w : World} {g : Nat → Int} (hp : B ≤ p) (hO : Own w p (tab n g)) (hn : n ≤ 1000) : Sp B w (.slice (some ⟨p, 0, none⟩) n n) n g := by
  refine .inr ⟨p, n, rfl, hp, hO.lt, Nat.le_refl _, by omega, fun j hj => ?_, fun j hj => ⟨_, hO.cell j (by rw [tab_len]; exact hj)⟩, fun j hj => hO.free j (by rw [tab_len]; exact hj)⟩
  have := hO.cell j (by rw [tab_len]; exact hj)
  rw [tab_get] at this
  exact this
theorem Sp.ofGr {B n : Nat} {w : World} {v : Value} {g : Nat → Int} (h : Gr B w v n g) : Sp B w v n g := by
  rcases h.own.2 with ⟨e, h0⟩ | ⟨q, c, cur, e, hb, hh, hn, hm, hs, _⟩
  · exact .inl ⟨e, h0⟩
  · subst e
    have hO := h.toOwn
    refine .inr ⟨q, c, rfl, hb, hO.lt, hn, by unfold maxLen at hm; omega, fun j hj => ?_, fun j hj => ?_, fun j _ => h.own.frozenAt j⟩
    · have := hO.cell j (by rw [tab_len]; exact hj)
      rw [tab_get] at this
      exact this
    · have hj' : j < cur.size := by rw [hs]; omega
      exact ⟨cur[j], by simp [World.cell?, hh, hj']⟩
theorem Sp.block {B n : Nat} {w : World} {v : Value} {g : Nat → Int} (h : Sp B w v n g) {b : Nat} (e : v.ownBlock = some b) : B ≤ b ∧ b < w.heap.size := by
  rcases h with ⟨rfl, _⟩ | ⟨p, c, rfl, h1, h2, _⟩
  · cases e
  · obtain rfl : p = b := by simpa [Value.ownBlock] using e
    exact ⟨h1, h2⟩
/-- All but one block is as it was. -/
theorem Sp.grown {B n : Nat} {w w' : World} {v : Value} {g : Nat → Int} {row : Option Nat} (h : Sp B w v n g) (k : w.grownBy w' row) (hne : v.ownBlock = Option.none ∨ v.ownBlock ≠ row) : Sp B w' v n g := by
  rcases h with h | ⟨p, c, rfl, h1, h2, h3, h4, h5, h6, h7⟩
  · exact .inl h
  · have hb : w'.heap[p]? = w.heap[p]? := k.block p h2 (by rcases hne with e | e; (cases e); exact e)
    have hc : ∀ j, w'.cell? ⟨p, j, none⟩ = w.cell? ⟨p, j, none⟩ := fun j => World.cell?_of_block hb
    have hf : ∀ j, w'.frozen? ⟨p, j, none⟩ = w.frozen? ⟨p, j, none⟩ := fun j => World.frozen?_of_block hb
    exact .inr ⟨p, c, rfl, h1, Nat.lt_of_lt_of_le h2 k.size, h3, h4, fun j hj => (hc j).trans (h5 j hj), fun j hj => by rw [hc]; exact h6 j hj, fun j hj => (hf j).trans (h7 j hj)⟩
theorem Kept.grownBy {w w' : World} (k : Kept w w') : w.grownBy w' Option.none := ⟨k.os, k.tape, k.output, k.size, fun j hj _ => k.block j hj⟩
theorem Sp.later {B n : Nat} {w w' : World} {v : Value} {g : Nat → Int} (h : Sp B w v n g) (k : Kept w w') : Sp B w' v n g := by
  rcases h with h | h
  · exact .inl h
  · exact Sp.grown (.inr h) k.grownBy (by obtain ⟨p, c, rfl, _⟩ := h; exact .inr (by simp [Value.ownBlock]))
/-- What a call leaves. -/
def Fresh (w : World) (e : Ending) (w' : World) : Prop :=
  ∃ (v : Value) (n : Nat) (g : Nat → Int) (er : Int), e = .returned (.tuple #[v, .int .i64 er]) ∧ n ≤ 40 ∧ Sp w.heap.size w' v n g ∧ Kept w w'
theorem fresh_none {w w' : World} {er : Int} (k : Kept w w') : Fresh w (.returned (.tuple #[.slice none 0 0, .int .i64 er])) w' := ⟨_, 0, fun _ => 0, er, rfl, by omega, Sp.nil _ _ _, k⟩
theorem fresh_own {w w' : World} {p n : Nat} {g : Nat → Int} (hp : w.heap.size ≤ p) (hO : Own w' p (tab n g)) (hn : n ≤ 40) (k : Kept w w') : Fresh w (.returned (.tuple #[.slice (some ⟨p, 0, none⟩) n n, .int .i64 0])) w' :=
  ⟨_, n, g, 0, rfl, hn, Sp.ofOwn hp hO (by omega), k⟩
theorem fr_even (amount n : Int) (w : World) : Calls Tryd.prog 24 #[.int .i64 amount, .int .i64 n] w (Fresh w) := by
  by_cases h : amB amount = true ∧ 1 ≤ n ∧ n ≤ 40
  · obtain ⟨m, rfl⟩ := Int.eq_ofNat_of_zero_le (show 0 ≤ n by omega)
    refine (even_yes amount m w h.1 (by omega) (by omega)).mono ?_
    rintro e w' ⟨p, hp, rfl, hO, hK⟩
    exact fresh_own hp hO (by omega) hK
  · refine (even_no amount n w ?_).mono ?_
    · cases ha : amB amount
      · exact .inl rfl
      · by_cases c : 1 ≤ n
        · exact .inr (.inr (by by_cases d : 40 < n; exact d; exact absurd ⟨ha, c, by omega⟩ h))
        · exact .inr (.inl (by omega))
    · rintro e w' ⟨rfl, rfl⟩
      exact fresh_none (Kept.refl _)
theorem fr_by (amount : Int) (a : Option Addr) (n cap : Nat) (wt : Nat → Int) (w : World) (hn : n ≤ 4000000000000000000) (hA : Arg w a n wt) : Calls Tryd.prog 22 #[.int .i64 amount, .slice a n cap] w (Fresh w) := by
  by_cases h : byE amount n wt = 0
  · have n40 : n ≤ 40 := by
      unfold byE at h
      split at h
      · omega
      · omega
    have hw : okWts wt n = true ∧ sumTo wt n ≠ 0 := by
      unfold byE at h
      split at h
      · omega
      · split at h
        · omega
        · rename_i c
          split at h
          · omega
          · rename_i d
            refine ⟨?_, d⟩
            cases q : okWts wt n
            · exact absurd (.inr q) c
            · rfl
    have hW := (okWts_iff wt n).1 hw.1
    have s0 := sum_nonneg wt n (fun i hi => (hW i hi).1)
    obtain ⟨u, hu⟩ := Int.eq_ofNat_of_zero_le (units_bd (W := (amount.natAbs : Int)) (wt := wt) (n := n) (sumTo wt n) rfl (by omega)).1
    refine (by_yes amount a n cap u wt w hA h hu).mono ?_
    rintro e w' ⟨p, d, hp, rfl, _, hO, hK⟩
    exact fresh_own hp hO n40 hK
  · refine (by_no amount a n cap wt w hn hA h).mono ?_
    rintro e w' ⟨rfl, rfl⟩
    exact fresh_none (Kept.refl _)
theorem fr_deal (way N : Int) (a : Option Addr) (n cap : Nat) (v : Nat → Int) (w : World) (hn : n ≤ 4000000000000000000) (hA : Arg w a n v) : Calls Tryd.prog 25 #[.int .i64 way, .int .i64 N, .slice a n cap] w (Fresh w) := by
  by_cases h : dealE way N n v = 0
  · obtain ⟨w0, w2, ok⟩ := dealE_way h
    obtain ⟨s, rfl⟩ := Int.eq_ofNat_of_zero_le ok.N0
    refine (deal_yes way s a n cap v w hA w0 w2 ok).mono ?_
    rintro e w' ⟨p, hp, rfl, hO, hK⟩
    exact fresh_own hp hO ok.n40 hK
  · refine (deal_no way N a n cap v w hn hA h).mono ?_
    rintro e w' ⟨rfl, rfl⟩
    exact fresh_none (Kept.refl _)
theorem fr_quotas (N : Int) (a : Option Addr) (n cap : Nat) (v : Nat → Int) (w : World) (hn : n ≤ 4000000000000000000) (hA : Arg w a n v) : Calls Tryd.prog 26 #[.int .i64 N, .slice a n cap] w (Fresh w) := by
  by_cases h : totE N n v = 0
  · have ok := totE_tot h
    refine (quotas_yes N a n cap v w hA ok).mono ?_
    rintro e w' ⟨p, hp, rfl, hO, hK⟩
    exact fresh_own hp hO ok.n40 hK
  · refine (quotas_no N a n cap v w hn hA h).mono ?_
    rintro e w' ⟨rfl, rfl⟩
    exact fresh_none (Kept.refl _)
theorem okA_nat {c r m : Int} (h : okA c r m = true) : ∃ n : Nat, m = n ∧ n ≤ 40 := by
  obtain ⟨h1, h2, h3, h4, h5, h6⟩ := (okA_iff c r m).1 h
  obtain ⟨n, rfl⟩ := Int.eq_ofNat_of_zero_le (show 0 ≤ m by omega)
  exact ⟨n, rfl, by omega⟩
theorem fr_straight (c r m : Int) (w : World) : Calls Tryd.prog 27 #[.int .i64 c, .int .i64 r, .int .i64 m] w (Fresh w) := by
  cases h : okA c r m
  · refine (straight_no c r m w h).mono ?_
    rintro e w' ⟨rfl, hK⟩
    exact fresh_none hK
  · obtain ⟨n, rfl, n40⟩ := okA_nat h
    refine (straight_yes c r n w h).mono ?_
    rintro e w' ⟨p, hp, rfl, hO, hK⟩
    exact fresh_own hp hO n40 hK
theorem fr_digits (c r m : Int) (w : World) : Calls Tryd.prog 28 #[.int .i64 c, .int .i64 r, .int .i64 m] w (Fresh w) := by
  cases h : okA c r m
  · refine (digits_no c r m w h).mono ?_
    rintro e w' ⟨rfl, hK⟩
    exact fresh_none hK
  · obtain ⟨n, rfl, n40⟩ := okA_nat h
    refine (digits_yes c r n w h).mono ?_
    rintro e w' ⟨p, hp, rfl, hO, hK⟩
    exact fresh_own hp hO n40 hK
theorem fr_falling (c r rate m : Int) (w : World) : Calls Tryd.prog 29 #[.int .i64 c, .int .i64 r, .int .i64 rate, .int .i64 m] w (Fresh w) := by
  cases h : okA c r m
  · refine (falling_no c r rate m w (.inl h)).mono ?_
    rintro e w' ⟨rfl, hK⟩
    exact fresh_none hK
  · cases hr : rtB rate
    · refine (falling_no c r rate m w (.inr hr)).mono ?_
      rintro e w' ⟨rfl, hK⟩
      exact fresh_none hK
    · obtain ⟨n, rfl, n40⟩ := okA_nat h
      refine (falling_yes c r rate n w h hr).mono ?_
      rintro e w' ⟨p, hp, rfl, hO, hK⟩
      exact fresh_own hp hO n40 hK
theorem fr_units (c r total : Int) (a : Option Addr) (n cap : Nat) (g : Nat → Int) (w : World) (hn : n ≤ 4000000000000000000) (hA : Arg w a n g) : Calls Tryd.prog 30 #[.int .i64 c, .int .i64 r, .int .i64 total, .slice a n cap] w (Fresh w) := by
  by_cases h : unE c r total n g = 0
  · have ok := unE_iff h
    refine (units_yes c r total a n cap g w ok hA).mono ?_
    rintro e w' ⟨p, hp, rfl, hO, hK⟩
    exact fresh_own hp hO ok.n40 hK
  · refine (units_no c r total a n cap g w hn h hA).mono ?_
    rintro e w' ⟨rfl, hK⟩
    exact fresh_none hK
theorem fr_months (a f t : Int) (w : World) (hT : Tab w) : Calls Tryd.prog 7 #[.int .i64 a, .int .i64 f, .int .i64 t] w (Fresh w) := by
  refine (months_any a f t w hT).mono ?_
  rintro e w' (⟨e0, v, rfl, hG, hK⟩ | ⟨_, rfl, hK⟩)
  · refine ⟨v, _, _, 0, rfl, ?_, Sp.ofGr hG, hK⟩
    unfold mnE at e0
    split at e0
    · split at e0
      · omega
      · omega
    · omega
  · exact fresh_none hK

end Go.Proofs.YtcfcbglnmhoknabDoor
