/-
  What package trial's check and totals return. No condition but those that each theorem names.
-/
import Derived.Test.YtdabangdjgkphaaVMath
import Derived.StillTailTactics
namespace Go.Proofs.Ytdabangdjgkphaa
open Go.RowKit
set_option linter.unusedVariables false

set_option maxHeartbeats 2000000 in
theorem tcheck_any (q : BkA) (b : Bk) (f t : Int) (w : World) (hM : BkM w q b) :
    Calls Try.prog 34 #[bkV q b, .int .i64 f, .int .i64 t] w fun e w' => e = .returned (.int .i64 (tcE b f t)) ∧ Kept w w' := by
  have hK2 := (Kept.refl w).alloc (bkO q b)
  have HB := Lib.hid (BBx.new w q b)
  have CK := Lib.hid (check_any q b _ (hM.later hK2))
  generalize hW : w.alloc (bkO q b) = W at HB CK hK2
  have HW := Lib.hid hW
  have HK := Lib.hid hK2
  clear hM hW hK2
  obtain ⟨b0, b1, b2, b3⟩ := HB.out
  by_cases h1 : bkE b = 0
  · rw [h1] at CK
    have TE := Lib.hid (show ∀ r : Int, (if 0 ≤ f ∧ f ≤ t ∧ t ≤ 292193 then (0 : Int) else 1) = r → tcE b f t = r from fun r h => by unfold tcE; rw [if_pos h1, h])
    clear h1
    by_cases g1 : f < 0
    · have FIN := Lib.hid (TE.out 1 (if_neg (by omega)))
      clear TE
      go_enter Try.func34, Try.ntmps34
      go_wp2_with fail
      rw [HW.out]
      refine CK.out.mono ?_
      rintro e w1 ⟨rfl, hK1⟩
      go_wp2
      go_ret
      exact ⟨ret_int FIN.out.symm, HK.out.trans hK1⟩
    · by_cases g2 : t < f
      · have FIN := Lib.hid (TE.out 1 (if_neg (by omega)))
        clear TE
        go_enter Try.func34, Try.ntmps34
        go_wp2_with fail
        rw [HW.out]
        refine CK.out.mono ?_
        rintro e w1 ⟨rfl, hK1⟩
        go_wp2
        go_ret
        exact ⟨ret_int FIN.out.symm, HK.out.trans hK1⟩
      · by_cases g3 : 292193 < t
        · have FIN := Lib.hid (TE.out 1 (if_neg (by omega)))
          clear TE
          go_enter Try.func34, Try.ntmps34
          go_wp2_with fail
          rw [HW.out]
          refine CK.out.mono ?_
          rintro e w1 ⟨rfl, hK1⟩
          go_wp2
          go_ret
          exact ⟨ret_int FIN.out.symm, HK.out.trans hK1⟩
        · have FIN := Lib.hid (TE.out 0 (if_pos (by omega)))
          clear TE
          go_enter Try.func34, Try.ntmps34
          go_wp2_with fail
          rw [HW.out]
          refine CK.out.mono ?_
          rintro e w1 ⟨rfl, hK1⟩
          go_wp2
          go_ret
          exact ⟨ret_int FIN.out.symm, HK.out.trans hK1⟩
  · have FIN := Lib.hid (show tcE b f t = bkE b by unfold tcE; rw [if_neg h1])
    have h2 : (bkE b != 0) = true := by simpa using h1
    clear h1
    generalize bkE b = ek at *
    go_enter Try.func34, Try.ntmps34
    go_wp2_with fail
    rw [HW.out]
    refine CK.out.mono ?_
    rintro e w1 ⟨rfl, hK1⟩
    go_wp2
    go_ret
    exact ⟨ret_int FIN.out.symm, HK.out.trans hK1⟩
/-- Five numbers. -/
def five (g : Int → Int) : List Int := [g 0, g 1, g 2, g 3, g 4]
theorem five_len (g : Int → Int) : (five g).length = 5 := rfl
theorem five_at (g : Int → Int) {n : Nat} (h : n < 5) (h' : n < (five g).length) : (five g)[n] = g n := by
  match n, h with
  | 0, _ => rfl
  | 1, _ => rfl
  | 2, _ => rfl
  | 3, _ => rfl
  | 4, _ => rfl
theorem five_set (g h : Int → Int) {v : Int} {n : Nat} (hn : n < 5) (h1 : ∀ k : Int, h k = g k + (if (n : Int) = k then v else 0)) : (five g).set n (g n + v) = five h := by
  unfold five
  rw [h1 0, h1 1, h1 2, h1 3, h1 4]
  match n, hn with
  | 0, _ => simp
  | 1, _ => simp
  | 2, _ => simp
  | 3, _ => simp
  | 4, _ => simp
abbrev fiveV (g : Int → Int) : Value := .agg #[.int .i64 (g 0), .int .i64 (g 1), .int .i64 (g 2), .int .i64 (g 3), .int .i64 (g 4)]
abbrev fiveO (g : Int → Int) : Obj := .cells #[.int .i64 (g 0), .int .i64 (g 1), .int .i64 (g 2), .int .i64 (g 3), .int .i64 (g 4)] 67
theorem Own.c5 {w : World} {p : Nat} {g : Int → Int} (h : Own w p (five g)) : w.cell? ⟨p, 0, none⟩ = some (.int .i64 (g 0)) ∧ w.cell? ⟨p, 1, none⟩ = some (.int .i64 (g 1)) ∧ w.cell? ⟨p, 2, none⟩ = some (.int .i64 (g 2)) ∧ w.cell? ⟨p, 3, none⟩ = some (.int .i64 (g 3)) ∧ w.cell? ⟨p, 4, none⟩ = some (.int .i64 (g 4)) :=
  ⟨h.cell 0 (show 0 < 5 by decide), h.cell 1 (show 1 < 5 by decide), h.cell 2 (show 2 < 5 by decide), h.cell 3 (show 3 < 5 by decide), h.cell 4 (show 4 < 5 by decide)⟩
theorem Own.f5 {w : World} {p : Nat} {g : Int → Int} (h : Own w p (five g)) : w.frozen? ⟨p, 0, none⟩ = false ∧ w.frozen? ⟨p, 1, none⟩ = false ∧ w.frozen? ⟨p, 2, none⟩ = false ∧ w.frozen? ⟨p, 3, none⟩ = false ∧ w.frozen? ⟨p, 4, none⟩ = false :=
  ⟨h.free 0 (show 0 < 5 by decide), h.free 1 (show 1 < 5 by decide), h.free 2 (show 2 < 5 by decide), h.free 3 (show 3 < 5 by decide), h.free 4 (show 4 < 5 by decide)⟩
theorem Own.new5 {w : World} {p : Nat} (g : Int → Int) (hp : w.heap.size = p) : Own (w.alloc (fiveO g)) p (five g) := Own.lit (l := five g) hp
end Go.Proofs.Ytdabangdjgkphaa
