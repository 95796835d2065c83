/-
  Items of the call's own, sorted by days, copied and left out. No condition but those that each theorem names.
-/
import Derived.Test.YtdgiljndoeldcaaGSrtF
import Derived.Test.YtdgiljndoeldcaaGOrd
import Derived.Test.YtdgiljndoeldcaaGChk
namespace Go.Proofs.Ytdgiljndoeldcaa
open Go.RowKit Go.Sort
set_option linter.unusedVariables false

theorem isItem : IsE eP 31 (.agg #[.int .i64 0, .int .i64 0]) 16 := by unfold IsE; kernel_rfl
section
variable {C C' : Int → Mv} {w w' : World} {p N : Nat} {d d' : Nat → Int}
theorem IOw.congr (h : IOw C w p N d) (e : ∀ q, q < N → C (d q) = C' (d' q)) : IOw C' w p N d' := by
  have : tab (N * 2) (fl C d) = tab (N * 2) (fl C' d') := tab_congr _ (fun j hj => by
    unfold fl
    rw [e (j / 2) (by omega)])
  exact ⟨this ▸ h.own⟩
theorem IOw.shrink (h : IOw C w p N d) {n : Nat} (hn : n ≤ N) : IOw C w p n d := by
  refine ⟨h.own.lt, fun j hj => ?_, fun j hj => ?_⟩
  · rw [tab_len] at hj
    have := h.own.cell j (by rw [tab_len]; omega)
    rw [tab_get] at this ⊢; exact this
  · rw [tab_len] at hj
    exact h.own.free j (by rw [tab_len]; omega)
/-- An item written. -/
def upC (C : Int → Mv) (i : Nat) (v : Mv) : Int → Mv := fun x => if x = (i : Int) then v else C x
theorem IOw.put (h : IOw C w p N idn) {i : Nat} (hi : i < N) (v : Mv) : IOw (upC C i v) ((w.setCell ⟨p, i * 2, none⟩ (.int .i64 v.1)).setCell ⟨p, i * 2 + 1, none⟩ (.int .i64 v.2)) p N idn := by
  have h1 := h.own.set (i * 2) v.1 (by rw [tab_len]; omega)
  rw [tab_set] at h1
  have h2 := h1.set (i * 2 + 1) v.2 (by rw [tab_len]; omega)
  rw [tab_set] at h2
  refine ⟨?_⟩
  have e : up (up (fl C idn) (i * 2) v.1) (i * 2 + 1) v.2 = fl (upC C i v) idn := by
    funext q
    unfold up fl upC idn
    by_cases a : q / 2 = i
    · have hq : q = i * 2 ∨ q = i * 2 + 1 := by omega
      rw [if_pos (show ((q / 2 : Nat) : Int) = (i : Int) by rw [a])]
      rcases hq with e | e
      · rw [if_neg (by omega), if_pos (by omega), if_pos (by omega)]
      · rw [if_pos (by omega), if_neg (by omega)]
    · rw [if_neg (show ¬ ((q / 2 : Nat) : Int) = (i : Int) by omega), if_neg (by omega), if_neg (by omega)]
  rw [← e]; exact h2
/-- .. its amount alone. -/
theorem IOw.putAmt (h : IOw C w p N idn) {i : Nat} (hi : i < N) (v : Int) : IOw (upC C i ((C i).1, v)) (w.setCell ⟨p, i * 2 + 1, none⟩ (.int .i64 v)) p N idn := by
  have h2 := h.own.set (i * 2 + 1) v (by rw [tab_len]; omega)
  rw [tab_set] at h2
  refine ⟨?_⟩
  have e : up (fl C idn) (i * 2 + 1) v = fl (upC C i ((C i).1, v)) idn := by
    funext q
    unfold up fl upC idn
    by_cases a : q / 2 = i
    · have hq : q = i * 2 ∨ q = i * 2 + 1 := by omega
      rw [if_pos (show ((q / 2 : Nat) : Int) = (i : Int) by rw [a])]
      rcases hq with e | e
      · rw [if_neg (by omega), if_pos (by omega), if_pos (by omega), a]
      · rw [if_pos (by omega), if_neg (by omega)]
    · rw [if_neg (show ¬ ((q / 2 : Nat) : Int) = (i : Int) by omega), if_neg (by omega)]
  rw [← e]; exact h2
end
/-- A row of items as a list. -/
def IL (w : World) (p : Nat) (m : List Mv) : Prop := IOw (itC m) w p m.length idn
theorem IL.later {w w' : World} {p : Nat} {m : List Mv} (h : IL w p m) (k : Kept w w') : IL w' p m := IOw.later h k
theorem IL.jrow {w : World} {p : Nat} {m : List Mv} (h : IL w p m) : JRow eP w p 0 m := by
  refine ⟨h.lt, fun j u hj => ?_⟩
  have hlt := (List.getElem?_eq_some_iff.1 hj).1
  rw [eP.cat_len] at hlt
  have hk : eP.k = 2 := rfl
  rw [hk] at hlt
  have hq : j / 2 < m.length := by omega
  have e : itC m (idn (j / 2)) = m[j / 2] := by unfold idn; rw [itC_nat, itN_get m _ hq]
  rw [Nat.zero_add]
  rcases (show j = j / 2 * 2 ∨ j = j / 2 * 2 + 1 by omega) with c | c
  · have := eP.cat_get m (j / 2) 0 hq (by decide)
    rw [hk, Nat.add_zero, ← c, hj] at this
    have h0 := h.c0 (j / 2) hq
    rw [e, ← c] at h0
    rw [h0, this]; rfl
  · have := eP.cat_get m (j / 2) 1 hq (by decide)
    rw [hk, ← c, hj] at this
    have h0 := h.c1 (j / 2) hq
    rw [e, ← c] at h0
    rw [h0, this]; rfl
theorem IL.arg {w : World} {p : Nat} {m : List Mv} (h : IL w p m) : JArg eP w (some ⟨p, 0, none⟩) m := .inr ⟨p, 0, rfl, h.jrow⟩

/-! The sort. -/
theorem cmpV_swap (a b : Int) : cmpV (-b) (-a) = cmpV a b := by unfold cmpV; repeat' split
                                                                all_goals omega
def dyK (l : List Mv) : Int → Int := fun x => -(itC l x).1
theorem dyK_ok (l : List Mv) (B : World) (N : Nat) : ICmpOk (itC l) B N (dyK l) := fun x y W => by
  have h := pay1_any (itC l x) (itC l y) W
  rw [← cmpV_swap] at h
  exact h
theorem sorted_il {l : List Mv} {w : World} {p : Nat} {d : Nat → Int} (h : IOw (itC l) w p l.length d) (o : Ordered (dyK l) l.length d) : IL w p (srtD l) := by
  have hl : (srtD l).length = l.length := (srtD_perm l).length_eq
  unfold IL
  rw [hl]
  refine h.congr fun q hq => ?_
  have e := ordered_eq l d o.1 o.2
  have e1 : d q = ((srtN l)[q]'(by rw [srtN_len]; exact hq) : Nat) := by
    have := congrArg (fun s => s[q]?) e
    simp only [List.getElem?_map] at this
    rw [List.getElem?_range hq, List.getElem?_eq_getElem (by rw [srtN_len]; exact hq)] at this
    simpa using this
  have e2 : (srtD l)[q]'(by rw [hl]; exact hq) = itN l ((srtN l)[q]'(by rw [srtN_len]; exact hq)) := by
    have := srtN_map l
    simp only [← this, List.getElem_map]
  rw [e1, itC_nat]
  unfold idn
  rw [itC_nat, itN_get (srtD l) q (by rw [hl]; exact hq), e2]
set_option maxHeartbeats 1000000 in
theorem sortD_any (l : List Mv) (p cap : Nat) (B w : World) (hn : l.length ≤ 40) (hO : IL w p l) (hp : B.heap.size ≤ p) (hK : Kept B w) :
    Calls Try.prog 37 #[.slice (some ⟨p, 0, none⟩) l.length cap, iordF] w fun e w' => e = .returned (.tuple #[]) ∧ IL w' p (srtD l) ∧ Kept B w' := by
  refine (isortStable_any (C := itC l) p l.length (dyK l) B w hn (dyK_ok l B _) hO hp hK).mono ?_
  rintro e w1 ⟨d, rfl, hO1, hK1, hR⟩
  exact ⟨rfl, sorted_il hO1 hR, hK1⟩
/-! .. of nothing. -/
set_option maxHeartbeats 1000000 in
theorem ins0_any (a : Option Addr) (c : Nat) (F : Value) (w : World) :
    Calls Try.prog 89 #[.slice a 0 c, .int .i64 0, .int .i64 0, F] w fun e w' => e = .returned (.tuple #[]) ∧ w = w' := by
  go_enter Try.func89, Try.ntmps89
  go_wp2
  go_loopw [8] (fun s wr => s = .int .i64 1 ∧ w = wr) (fun _ _ => 0)
  case atStart => exact ⟨rfl, rfl⟩
  case round =>
    obtain ⟨rfl, rfl⟩ := hrel
    go_wp2
    go_end0
    exact ⟨rfl, rfl⟩
set_option maxHeartbeats 1000000 in
theorem stb0_any (a : Option Addr) (c : Nat) (F : Value) (w : World) :
    Calls Try.prog 69 #[.slice a 0 c, .int .i64 0, F] w fun e w' => e = .returned (.tuple #[]) ∧ w = w' := by
  go_enter Try.func69, Try.ntmps69
  go_wp2
  go_loopw [7, 8] (fun s u wr => s = .int .i64 0 ∧ u = .int .i64 20 ∧ w = wr) (fun _ _ _ => 0)
  case atStart => exact ⟨rfl, rfl, rfl⟩
  case round =>
    obtain ⟨rfl, rfl, rfl⟩ := hrel
    go_wp2_with fail
    refine (ins0_any _ _ _ _).mono ?_
    rintro e w1 ⟨rfl, rfl⟩
    go_wp2
    go_loopw [6] (fun s wr => s = .int .i64 20 ∧ w = wr) (fun _ _ => 0)
    case atStart => exact ⟨rfl, rfl⟩
    case round =>
      obtain ⟨rfl, rfl⟩ := hrel
      go_wp2
      go_end0
      exact ⟨rfl, rfl⟩
set_option maxHeartbeats 1000000 in
theorem srt0_any (a : Option Addr) (c : Nat) (F : Value) (w : World) :
    Calls Try.prog 37 #[.slice a 0 c, F] w fun e w' => e = .returned (.tuple #[]) ∧ w = w' := by
  go_enter Try.func37, Try.ntmps37
  go_wp2_with fail
  refine (stb0_any _ _ _ _).mono ?_
  rintro e w1 ⟨rfl, rfl⟩
  go_wp2
  go_end0
  exact ⟨rfl, rfl⟩
end Go.Proofs.Ytdgiljndoeldcaa
