/-
  What package stock's check returns. No condition but those that each theorem names.
-/
import Derived.Test.YtiilljdeplihoaaPMath
namespace Go.Proofs.Ytiilljdeplihoaa
open Go.RowKit
set_option linter.unusedVariables false

/-- A struct of two numbers in a box of its own. -/
structure JBx (w : World) (p : Nat) (x : Mv) : Prop where
  lt : p < w.heap.size
  c0 : w.cell? ⟨p, 0, none⟩ = some (.int .i64 x.1)
  c1 : w.cell? ⟨p, 1, none⟩ = some (.int .i64 x.2)
theorem JBx.later {w w' : World} {p : Nat} {x : Mv} (h : JBx w p x) (k : Kept w w') : JBx w' p x :=
  ⟨Nat.lt_of_lt_of_le h.lt k.le, (k.rd.1 _ _ h.lt).trans h.c0, (k.rd.1 _ _ h.lt).trans h.c1⟩
theorem JBx.new {w : World} {p : Nat} (hp : w.heap.size = p) (x : Mv) (t : TypeId) : JBx (w.alloc (.cells #[.int .i64 x.1, .int .i64 x.2] t)) p x := by
  subst hp; exact ⟨by simp, by simp, by simp⟩
set_option maxHeartbeats 2000000 in
theorem checkMove_any (m : Mv) (w : World) :
    Calls Try.prog 46 #[.agg #[.int .i64 m.1, .int .i64 m.2]] w fun e w' => e = .returned (.int .i64 (ckM m)) ∧ Kept w w' := by
  have hk := (Kept.refl w).alloc (.cells #[.int .i64 m.1, .int .i64 m.2] 40)
  by_cases h1 : m.1 = 0 ∨ m.1 < -1000000 ∨ 1000000 < m.1
  · have E := Lib.hid (show ckM m = 1 by unfold ckM; rw [if_pos h1])
    have HK := Lib.hid hk
    clear hk
    have h2 : (m.1 = 0) ∨ (¬ m.1 = 0 ∧ m.1 < -1000000) ∨ (¬ m.1 = 0 ∧ ¬ m.1 < -1000000 ∧ 1000000 < m.1) := by omega
    clear h1
    rcases h2 with h | ⟨h, g⟩ | ⟨h, g, f⟩
    all_goals
      go_enter Try.func46, Try.ntmps46
      go_wp2
      go_ret
      exact ⟨ret_int E.out.symm, (Kept.refl w).alloc _⟩
  · by_cases h3 : m.2 < 0 ∨ 1000000000000 < m.2
    · have E := Lib.hid (show ckM m = 1 by unfold ckM; rw [if_neg h1, if_pos h3])
      have HK := Lib.hid hk
      clear hk
      have a1 : ¬ m.1 = 0 := by omega
      have a2 : ¬ m.1 < -1000000 := by omega
      have a3 : ¬ 1000000 < m.1 := by omega
      have h2 : (m.2 < 0) ∨ (¬ m.2 < 0 ∧ 1000000000000 < m.2) := by omega
      clear h1 h3
      rcases h2 with h | ⟨h, g⟩
      all_goals
        go_enter Try.func46, Try.ntmps46
        go_wp2
        go_ret
        exact ⟨ret_int E.out.symm, (Kept.refl w).alloc _⟩
    · have a1 : ¬ m.1 = 0 := by omega
      have a2 : ¬ m.1 < -1000000 := by omega
      have a3 : ¬ 1000000 < m.1 := by omega
      have b1 : ¬ m.2 < 0 := by omega
      have b2 : ¬ 1000000000000 < m.2 := by omega
      by_cases h5 : m.1 < 0
      · by_cases h6 : m.2 = 0
        · have E := Lib.hid (show ckM m = 0 by unfold ckM; rw [if_neg h1, if_neg h3, if_neg (fun h => h.2 h6)])
          have HK := Lib.hid hk
          clear hk h1 h3
          go_enter Try.func46, Try.ntmps46
          go_wp2
          go_ret
          exact ⟨ret_int E.out.symm, (Kept.refl w).alloc _⟩
        · have E := Lib.hid (show ckM m = 3 by unfold ckM; rw [if_neg h1, if_neg h3, if_pos ⟨h5, h6⟩])
          have HK := Lib.hid hk
          have b6 : (m.2 != 0) = true := by simpa using h6
          clear hk h1 h3
          go_enter Try.func46, Try.ntmps46
          go_wp2
          go_ret
          exact ⟨ret_int E.out.symm, (Kept.refl w).alloc _⟩
      · have E := Lib.hid (show ckM m = 0 by unfold ckM; rw [if_neg h1, if_neg h3, if_neg (fun h => h5 h.1)])
        have HK := Lib.hid hk
        clear hk h1 h3
        go_enter Try.func46, Try.ntmps46
        go_wp2
        go_ret
        exact ⟨ret_int E.out.symm, (Kept.refl w).alloc _⟩
theorem skE_large {l : List Mv} (h : 40 < l.length) : skE l = 2 := by unfold skE; rw [if_pos h]
theorem cnt_small : ∀ {l : List Mv}, ckL l = 0 → ∀ j, j ≤ l.length → -1000000 * (j : Int) ≤ cnt (l.take j) ∧ cnt (l.take j) ≤ 1000000 * (j : Int) := by
  intro l h j hj
  have := MvOk.cnt (l := l.take j) (fun m hm => ckL_ok h m (List.mem_of_mem_take hm))
  rw [List.length_take, Nat.min_eq_left hj] at this
  omega
set_option maxHeartbeats 2000000 in
theorem skc_large (a : Option Addr) (l : List Mv) (cap : Nat) (w : World) (h : 40 < l.length) (hn : l.length ≤ maxLen) :
    Calls Try.prog 26 #[.slice a l.length cap] w fun e w' => e = .returned (.int .i64 (skE l)) ∧ Kept w w' := by
  rw [skE_large h]
  unfold maxLen at hn
  go_enter Try.func26, Try.ntmps26
  go_wp2
  go_ret
  exact ⟨rfl, Kept.refl _⟩
set_option maxHeartbeats 4000000 in
theorem skc_in (a : Option Addr) (l : List Mv) (cap : Nat) (w : World) (h : l.length ≤ 40) (hA : JArg eP w a l) :
    Calls Try.prog 26 #[.slice a l.length cap] w fun e w' => e = .returned (.int .i64 (skE l)) ∧ Kept w w' := by
  have HA := Lib.hid hA
  have SE := Lib.hid (show skE l = if ckL l = 0 then ckS 0 l else ckL l by unfold skE; rw [if_neg (by omega)])
  clear hA
  go_enter Try.func26, Try.ntmps26
  go_wp2
  go_loopw [14] (fun i wr => ∃ (k : Nat), k ≤ l.length ∧ i = .int .i64 k ∧ Hid (ckL l = ckL (l.drop k)) ∧ Kept w wr) (fun i _ => l.length - (intOf i).toNat)
  case atStart => exact ⟨0, Nat.zero_le _, rfl, Lib.hid rfl, Kept.refl _⟩
  case round =>
    obtain ⟨k, hk, rfl, HE, hK⟩ := hrel
    by_cases hlt : k < l.length
    · obtain ⟨p, off, rfl, hR⟩ := HA.out.at hlt
      have hR := hR.later hK
      have c0 := hR.c0 k hlt
      have c1 := hR.c1 k hlt
      have plt := hR.lt
      have HD := Lib.hid (drop_atP l k hlt)
      clear hR
      generalize l[k] = x at *
      have kA := hK.alloc (.cells #[.int .i64 x.1, .int .i64 x.2] 40)
      by_cases e : ckM x = 0
      · have HX := Lib.hid (show ckL (x :: l.drop (k + 1)) = ckL (l.drop (k + 1)) by rw [ckL, if_pos e])
        have E := Lib.hid e
        clear e
        go_wp2_with fail
        refine (checkMove_any x _).mono ?_
        rintro e w1 ⟨rfl, hK1⟩
        rw [E.out]
        have kB := kA.trans hK1
        clear kA hK1 hK c0 c1
        go_wp2
        go_roundw
        case rel => exact ⟨k + 1, by omega, by go_num, Lib.hid (by rw [HE.out, HD.out, HX.out]), kB⟩
        case measure => simp [intOf]; omega
      · have HX := Lib.hid (show skE l = ckM x by
          have h1 : ckL l = ckM x := by rw [HE.out, HD.out, ckL, if_neg e]
          rw [SE.out, if_neg (by rw [h1]; exact e), h1])
        have ne : (ckM x != 0) = true := by simpa using e
        clear e
        go_wp2_with fail
        refine (checkMove_any x _).mono ?_
        rintro e w1 ⟨rfl, hK1⟩
        have kB := kA.trans hK1
        clear kA hK1 hK c0 c1
        generalize ckM x = er at *
        go_wp2
        go_ret
        exact ⟨ret_int HX.out.symm, kB⟩
    · obtain rfl : k = l.length := by omega
      have Z : ckL l = 0 := by rw [HE.out, List.drop_length]; rfl
      have SC := Lib.hid (cnt_small Z)
      have SE2 := Lib.hid (show skE l = ckS 0 l by rw [SE.out, if_pos Z])
      clear hlt HE SE Z
      go_wp2
      go_loopw [6, 26] (fun c i wr => ∃ (k : Nat), k ≤ l.length ∧ i = .int .i64 k ∧ c = .int .i64 (cnt (l.take k)) ∧ Hid (skE l = ckS (cnt (l.take k)) (l.drop k)) ∧ Kept w wr) (fun _ i _ => l.length - (intOf i).toNat)
      case atStart => exact ⟨0, Nat.zero_le _, rfl, rfl, Lib.hid (by rw [SE2.out]; rfl), hK⟩
      case round =>
        clear hK
        obtain ⟨k, hk, rfl, rfl, HE, hK⟩ := hrel
        by_cases hlt : k < l.length
        · obtain ⟨p, off, rfl, hR⟩ := HA.out.at hlt
          have hR := hR.later hK
          have c0 := hR.c0 k hlt
          have c1 := hR.c1 k hlt
          have plt := hR.lt
          have HD := Lib.hid (drop_atP l k hlt)
          have cn : cnt (l.take (k + 1)) = cnt (l.take k) + (l[k]).1 := by rw [take_snocP l k hlt, cnt_app, cnt, cnt]; omega
          have b1 := SC.out k hk
          have b2 := SC.out (k + 1) hlt
          have CN := Lib.hid cn
          clear hR
          generalize l[k] = x at *
          rw [cn] at b2
          clear cn
          generalize cnt (l.take k) = c at *
          have kA := hK.alloc (.cells #[.int .i64 x.1, .int .i64 x.2] 40)
          have wr1 : IntKind.i64.wrap (c + x.1) = c + x.1 := IntWalk.i64_in _ (by omega)
          clear b1 b2
          by_cases ng : c + x.1 < 0
          · have HX := Lib.hid (show skE l = 8 by rw [HE.out, HD.out, ckS, if_pos ng])
            clear hK
            go_wp2
            go_ret
            exact ⟨ret_int HX.out.symm, kA⟩
          · have HX := Lib.hid (show skE l = ckS (cnt (l.take (k + 1))) (l.drop (k + 1)) by rw [HE.out, HD.out, ckS, if_neg ng, CN.out])
            clear hK
            go_wp2
            go_roundw
            case rel => exact ⟨k + 1, by omega, by go_num, by rw [CN.out], HX, kA⟩
            case measure => simp [intOf]; omega
        · obtain rfl : k = l.length := by omega
          have HX := Lib.hid (show skE l = 0 by rw [HE.out, List.drop_length]; rfl)
          clear hlt HE
          go_wp2
          go_ret
          exact ⟨ret_int HX.out.symm, hK⟩
/-- P44: the error of a list of moves. -/
theorem skc_any (a : Option Addr) (l : List Mv) (cap : Nat) (w : World) (hn : l.length ≤ maxLen) (hA : JArg eP w a l) :
    Calls Try.prog 26 #[.slice a l.length cap] w fun e w' => e = .returned (.int .i64 (skE l)) ∧ Kept w w' := by
  by_cases h : 40 < l.length
  · exact skc_large a l cap w h hn
  · exact skc_in a l cap w (by omega) hA
end Go.Proofs.Ytiilljdeplihoaa
