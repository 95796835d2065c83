/-
  What the laws' small functions return of ties. No condition but those that each theorem names.
-/
import Derived.Test.YtdgiljndoeldcaaGTieW
import Derived.Test.YtdgiljndoeldcaaGTieK
namespace Go.Proofs.Ytdgiljndoeldcaa
open Go.RowKit Go.Sort
set_option linter.unusedVariables false

set_option maxHeartbeats 4000000 in
theorem tied_any (a : Option Addr) (l : List Int) (cap : Nat) (w : World) (hn : l.length ≤ 1000) (hA : JArg eI w a l) :
    Calls Try.prog 29 #[.slice a l.length cap] w fun e w' => e = .returned (.int .i64 (tdI l)) ∧ w = w' := by
  have HA := Lib.hid hA
  have SB := Lib.hid (fun j => tdI_bd (l.take j))
  have SN := Lib.hid (fun j (h : j < l.length) => show tdI (l.take (j + 1)) = tdI (l.take j) + (if 0 ≤ l[j] then 1 else 0) from by rw [take_snocP l j h, tdI_app, tdI, tdI]; omega)
  clear hA
  go_enter Try.func29, Try.ntmps29
  go_wp2
  go_loopw [3, 8] (fun s i wr => ∃ j : Nat, j ≤ l.length ∧ i = .int .i64 j ∧ s = .int .i64 (tdI (l.take j)) ∧ w = wr) (fun _ i _ => l.length - (intOf i).toNat)
  case atStart => exact ⟨0, Nat.zero_le _, rfl, rfl, rfl⟩
  case round =>
    obtain ⟨j, hj, rfl, rfl, rfl⟩ := hrel
    by_cases hlt : j < l.length
    · obtain ⟨p, off, rfl, hR⟩ := HA.out.at hlt
      have c0 := hR.i j hlt
      have S1 := Lib.hid (SN.out j hlt)
      have b1 := SB.out j
      rw [List.length_take] at b1
      have wr1 : IntKind.i64.wrap (tdI (l.take j) + 1) = tdI (l.take j) + 1 := IntWalk.i64_in _ (by omega)
      have i1 : (j : Int) < (l.length : Int) := by omega
      clear hR b1
      generalize l[j] = x at *
      generalize tdI (l.take j) = s at *
      by_cases c : 0 ≤ x
      · rw [if_pos c] at S1
        go_wp2
        go_roundw
        case rel => exact ⟨j + 1, by omega, by go_num, by rw [S1.out], trivial⟩
        case measure => simp [intOf]; omega
      · rw [if_neg c, Int.add_zero] at S1
        go_wp2
        go_roundw
        case rel => exact ⟨j + 1, by omega, by go_num, by rw [S1.out], trivial⟩
        case measure => simp [intOf]; omega
    · obtain rfl : j = l.length := by omega
      clear hlt
      rw [List.take_length]
      go_wp2
      go_ret
      exact ⟨rfl, rfl⟩
/-- Tie's answer, told. -/
theorem tie_is (a b : Option Addr) (l m : List Mv) (n k ca cb : Nat) (h : Int) (w : World) (s : List Int) (hl : l.length = n) (hm : m.length = k) (hA : JArg eP w a l) (hB : JArg eP w b m) (ok : TiOk l m h) (hs : tieL l m h = s) :
    Calls Try.prog 23 #[.slice a n ca, .slice b k cb, .int .i64 h] w (TiePost w s) := by
  subst hl hm hs
  exact tie_yes a b l m ca cb h w hA hB ok
theorem ti_ok {l m : List Mv} {h : Int} (e : tiE l m h = 0) : TiOk l m h := tiE_iff.1 e
/-- Two literals. -/
theorem lit2 {w : World} (l m : List Mv) (cs ds : Array Value) (h1 : cs.toList = eP.cat l) (h2 : ds.toList = eP.cat m) :
    JArg eP ((w.alloc (.cells cs 31)).alloc (.cells ds 31)) (some ⟨w.heap.size, 0, none⟩) l ∧ JArg eP ((w.alloc (.cells cs 31)).alloc (.cells ds 31)) (some ⟨w.heap.size + 1, 0, none⟩) m :=
  ⟨(JArg.lit eP l cs _ rfl h1).later ((Kept.refl _).alloc _), JArg.lit eP m ds _ (by simp) h2⟩
end Go.Proofs.Ytdgiljndoeldcaa
