/-
  The reference of falling depreciation and of units: Falling, the law's predicate and its closure, Parted. No condition but those that each theorem names.
-/
import Derived.Test.YtcelkgbpgpgpjaaNWalkB
import Derived.Test.YtcelkgbpgpgpjaaLWalkR
import Derived.Test.YtcelkgbpgpgpjaaDGrow
namespace Go.Proofs.Ytcelkgbpgpgpjaa
open Go.RowKit Go.WideShapes
set_option maxHeartbeats 400000 in
theorem badWeight_any1 (v : Int) (w : World) :
    Calls Try.prog 16 #[.int .i64 v] w fun e w' => e = .returned (.bool (badB v)) ∧ w = w' := by
  have E := Lib.hid (show badB v = decide (v < 0 ∨ 1000000 < v) from rfl)
  generalize badB v = B at *
  by_cases h : v < 0
  · go_enter Try.func16, Try.ntmps16
    go_wp2
    go_ret
    exact ⟨ret_bool (by rw [E.out]; simp [h]), rfl⟩
  · have hb : decide (v < 0) = false := by simpa using h
    have H := Lib.hid h
    clear h
    go_enter Try.func16, Try.ntmps16
    go_wp2
    go_ret
    exact ⟨ret_bool (by rw [E.out]; have := H.out; simp; omega), rfl⟩

set_option maxHeartbeats 1000000 in
theorem index_bad_ok1 (a : Option Addr) (n cap : Nat) (wt : Nat → Int) (w : World) (hn : n ≤ 1000) (hA : Arg w a n wt) (hw : WtOk wt n) :
    Calls Try.prog 34 #[.slice a n cap, .func (.func 16) #[] #[]] w fun e w' => e = .returned (.int .i64 (-1)) ∧ w = w' := by
  have HA := Lib.hid hA
  have HW := Lib.hid hw
  clear hA hw
  go_enter Try.func34, Try.ntmps34
  go_wp2
  go_loop [8] (fun i => ∃ j : Nat, j ≤ n ∧ i = .int .i64 j) (fun i => (n - intOf i).toNat)
  case atStart => exact ⟨0, by omega, rfl⟩
  case round =>
    obtain ⟨j, hj, rfl⟩ := hrel
    by_cases hlt : j < n
    · obtain ⟨p, off, rfl, hR⟩ := HA.out.at (by omega)
      have hc := hR.cell j (by rw [tab_len]; exact hlt)
      rw [tab_get] at hc
      have HB := Lib.hid (badB_ok (HW.out j hlt))
      clear hR
      go_wp2_with fail
      refine (badWeight_any1 _ _).mono ?_
      rintro e w1 ⟨rfl, rfl⟩
      rw [HB.out]
      go_wp2
      go_round
      case rel => exact ⟨j + 1, by omega, by go_num⟩
      case measure => simp [intOf]; omega
    · obtain rfl : j = n := by omega
      clear hlt
      go_wp2
      go_ret
      exact ⟨rfl, rfl⟩
set_option maxHeartbeats 1000000 in
theorem index_bad_bad1 (a : Option Addr) (n cap : Nat) (wt : Nat → Int) (w : World) (hn : n ≤ 1000) (hA : Arg w a n wt) (hw : ¬ WtOk wt n) :
    Calls Try.prog 34 #[.slice a n cap, .func (.func 16) #[] #[]] w (SomeAt w) := by
  have HA := Lib.hid hA
  have HW := Lib.hid hw
  clear hA hw
  go_enter Try.func34, Try.ntmps34
  go_wp2
  go_loop [8] (fun i => ∃ j : Nat, j ≤ n ∧ i = .int .i64 j ∧ WtOk wt j) (fun i => (n - intOf i).toNat)
  case atStart => exact ⟨0, by omega, rfl, fun i hi => by omega⟩
  case round =>
    obtain ⟨j, hj, rfl, hok⟩ := hrel
    have HK := Lib.hid hok
    clear hok
    by_cases hlt : j < n
    · obtain ⟨p, off, rfl, hR⟩ := HA.out.at (by omega)
      have hc := hR.cell j (by rw [tab_len]; exact hlt)
      rw [tab_get] at hc
      clear hR
      cases hb : badB (wt j)
      · have HB := Lib.hid hb
        have HS := Lib.hid (WtOk.succ HK.out hb)
        clear hb
        go_wp2_with fail
        refine (badWeight_any1 _ _).mono ?_
        rintro e w1 ⟨rfl, rfl⟩
        rw [HB.out]
        go_wp2
        go_round
        case rel => exact ⟨j + 1, by omega, by go_num, HS.out⟩
        case measure => simp [intOf]; omega
      · have HB := Lib.hid hb
        clear hb
        go_wp2_with fail
        refine (badWeight_any1 _ _).mono ?_
        rintro e w1 ⟨rfl, rfl⟩
        rw [HB.out]
        go_wp2
        go_ret
        exact ⟨j, rfl, rfl⟩
    · obtain rfl : j = n := by omega
      exact absurd HK.out HW.out
set_option maxHeartbeats 1000000 in
theorem contains_bad1 (a : Option Addr) (n cap : Nat) (wt : Nat → Int) (w : World) (hn : n ≤ 1000) (hA : Arg w a n wt) :
    Calls Try.prog 15 #[.slice a n cap, .func (.func 16) #[] #[]] w fun e w' => e = .returned (.bool (!okWts wt n)) ∧ w = w' := by
  have HA := Lib.hid hA
  clear hA
  cases ho : okWts wt n
  · have HO := Lib.hid ((not_congr (okWts_iff wt n)).1 (by rw [ho]; simp))
    clear ho
    go_enter Try.func15, Try.ntmps15
    go_wp2_with fail
    refine (index_bad_bad1 _ n _ wt _ hn HA.out HO.out).mono ?_
    rintro e w1 ⟨r, rfl, rfl⟩
    go_wp2
    go_ret
    exact ⟨ret_bool (by simp), rfl⟩
  · have HO := Lib.hid ((okWts_iff wt n).1 ho)
    clear ho
    go_enter Try.func15, Try.ntmps15
    go_wp2_with fail
    refine (index_bad_ok1 _ n _ wt _ hn HA.out HO.out).mono ?_
    rintro e w1 ⟨rfl, rfl⟩
    go_wp2
    go_ret
    exact ⟨ret_bool (by simp), rfl⟩

set_option maxHeartbeats 1000000 in
theorem equal_empty (a b : Option Addr) (c d : Nat) (w : World) :
    Calls Try.prog 13 #[.slice a 0 c, .slice b 0 d] w fun e w' => e = .returned (.bool true) ∧ Drew w w' := by
  go_enter Try.func13, Try.ntmps13
  go_wp2
  go_loopw [13] (fun i wr => i = .int .i64 0 ∧ wr = w) (fun _ _ => 0)
  case atStart => exact ⟨rfl, rfl⟩
  case round =>
    obtain ⟨rfl, rfl⟩ := hrel
    go_wp2
    go_ret
    exact ⟨rfl, Drew.refl _⟩
theorem Gr.later {B n : Nat} {w w' : World} {v : Value} {g : Nat → Int} (a : Gr B w v n g) (k : Kept w w') : Gr B w' v n g := by
  refine ⟨a.own.1, ?_⟩
  rcases a.own.2 with h | ⟨b, cap, cur, rfl, hb, hh, hr⟩
  · exact .inl h
  · exact .inr ⟨b, cap, cur, rfl, hb, (k.block b (Array.getElem?_eq_some_iff.1 hh).1).trans hh, hr⟩
theorem Gr.lit (w : World) (z : Int) (g : Nat → Int) (h : g 0 = z) : Gr w.heap.size (w.alloc (.cells #[.int .i64 z] 3)) (.slice (some ⟨w.heap.size, 0, none⟩) 1 1) 1 g :=
  ⟨by have := World.ownsRow_lit (base := w.heap.size) (e := 3) (size := 1) w #[.int .i64 z] 1 (Nat.le_refl _) (by decide) rfl
      simpa [tab, h] using this⟩
/-- One row and another one behind it. -/
def glue (n : Nat) (g h : Nat → Int) : Nat → Int := fun j => if j < n then g j else h (j - n)
theorem tab_glue (n m : Nat) (g h : Nat → Int) : tab (n + m) (glue n g h) = tab n g ++ tab m h := by
  apply List.ext_getElem
  · simp [tab]
  · intro j h1 h2
    rw [tab_get]
    unfold glue
    by_cases c : j < n
    · rw [if_pos c, List.getElem_append_left (by rw [tab_len]; exact c), tab_get]
    · rw [if_neg c, List.getElem_append_right (by rw [tab_len]; omega), tab_get, tab_len]
theorem run_append_rows (w : World) {B n m : Nat} {v u : Value} {g h : Nat → Int} {B' : Nat} (ty : TypeId) (a : Gr B w v n g) (hR : Gr B' w u m h) (hm : n + m ≤ 1000000) (hB : B ≤ w.heap.size) :
    ∃ v' w', (Builtin.append_ #[22, 22] ty #[v, u]).run Try.prog w = .ok v' w' ∧ Gr B w' v' (n + m) (glue n g h) ∧ w.grownBy w' v.ownBlock := by
  obtain ⟨i0, hi, hz0, hz1, hz2⟩ := info_parts infoInt
  rcases hR.own.2 with ⟨rfl, rfl⟩ | ⟨q, c, cur, rfl, hb, hh, hnc, hr⟩
  · refine ⟨v, w, run_append_owned_none w B 22 ty 3 i0 1 Try.underlying22 hi v n _ a.own, ?_, ⟨rfl, rfl, rfl, Nat.le_refl _, fun _ _ _ => rfl⟩⟩
    exact a.congr (fun j hj => by unfold glue; rw [if_pos hj])
  · have h63 : n + m ≤ maxLen := by unfold maxLen; omega
    have hnews : ∀ (j : Nat) (x : Value), ((tab m h).map (Value.int .i64))[j]? = some x → w.cell? ((⟨q, 0, none⟩ : Addr).add j) = some x := by
      intro j x hj
      have := hR.own.cells (g := q) rfl j x hj
      exact this
    have h1 : ∀ x ∈ (tab m h).map (Value.int .i64), x.oneCell' = true := by
      intro x hx
      rw [List.mem_map] at hx
      obtain ⟨z, _, rfl⟩ := hx
      rfl
    obtain ⟨v', w', hrn, h2, h3, _⟩ := run_append_own (P := Try.prog) w B 22 ty 3 i0 (.int .i64 0) 1 8 Try.underlying22 hi hz0 hz1 hz2 rfl (by decide) v n _ a.own ⟨q, 0, none⟩ m c _ (by rw [List.length_map, tab_len]; omega) hnews h1 h63 (by omega) hB
    refine ⟨v', w', hrn, ⟨?_⟩, h3⟩
    rw [tab_glue, List.map_append]
    exact h2
theorem glue_shift (g h : Nat → Int) (hs : ∀ k, g (k + 1) = h k) (j : Nat) : glue 1 g h j = g j := by
  unfold glue
  by_cases c : j < 1
  · rw [if_pos c]
  · obtain ⟨k, rfl⟩ : ∃ k, j = k + 1 := ⟨j - 1, by omega⟩
    rw [if_neg c, hs k]; rfl
/-- One row appended to another one. -/
theorem app_rows {w : World} {ops : Array Oper} {rest : List Oper} {o : Oper} {a : Act} {Q : Exit → Act → World → Prop} (hgd : o.guard = none) (s x : Operand)
    (ho : o.op = .call { callee := .builtin .append, args := #[s, x], argTypes := #[22, 22] }) {B B' n m : Nat} {v u : Value} {g h : Nat → Int}
    (hs : a.eval s = v) (hx : a.eval x = u) (ha : Gr B w v n g) (hR : Gr B' w u m h) (hm : n + m ≤ 1000000) (hB : B ≤ w.heap.size)
    (k : ∀ v' w', Gr B w' v' (n + m) (glue n g h) → w.grownBy w' v.ownBlock → wpList Try.prog ops Q rest (a.put o.dst v') w') : wpList Try.prog ops Q (o :: rest) a w := by
  refine wpList_plain hgd fun _ hK => ?_
  obtain ⟨v', w', hr, h2, h3⟩ := run_append_rows w o.type ha hR hm hB
  unfold Oper.wp execOp
  simp only [ho, resolve, invoke, builtin, Sem.run_bind, Sem.run_pure, Result.andThen_ok, List.map_toArray, List.map_cons, List.map_nil, hs, hx, hr]
  exact hK _ _ (k v' w' h2 h3)

/-- A row that has grown in the call. -/
def GrPost (w : World) (n : Nat) (g : Nat → Int) (e : Ending) (w' : World) : Prop := ∃ v : Value, e = .returned v ∧ Gr w.heap.size w' v n g ∧ Kept w w'
theorem up_bd (x m : Int) (m1 : 1 ≤ m) (x0 : 0 ≤ x) (x1 : x ≤ 1000000000000) : 0 ≤ rnd x m 1 ∧ rnd x m 1 ≤ 1000000000000 :=
  ⟨rnd_nonneg _ _ _ m1 x0 (by omega) (by omega), rnd_le _ _ _ _ m1 (by
    have : (1000000000000 : Int) * 1 ≤ 1000000000000 * m := Int.mul_le_mul_of_nonneg_left m1 (by omega)
    omega) (by omega) (by omega)⟩
set_option maxRecDepth 100000 in
set_option maxHeartbeats 2000000 in
theorem rfalling_any (rest rate : Int) (n : Nat) (h0 : 0 ≤ rest) (r0 : 0 ≤ rate) (r1 : rate ≤ 1000000) :
    ∀ (left : Int) (w : World), rest ≤ left → left ≤ 1000000000000 → n ≤ 40 → Calls Try.prog 14 #[.int .i64 left, .int .i64 rest, .int .i64 rate, .int .i64 (n : Int)] w (GrPost w n (flP left rest rate n)) := by
  induction n with
  | zero =>
    intro left w h1 h2 h3
    go_enter Try.func14, Try.ntmps14
    go_wp2
    go_ret
    exact ⟨_, rfl, Gr.nil _ _ _, Kept.refl w⟩
  | succ n ih =>
    intro left w h1 h2 h3
    have IH := Lib.hid ih
    clear ih
    have mb := ar_bd (a := left) (r := rate) (by omega) h2 r0 r1
    have sb : 0 ≤ rnd (left * rate) 1000000 2 ∧ rnd (left * rate) 1000000 2 ≤ 1000000000000 :=
      ⟨share_nonneg left rate (by omega) r0, rnd_le _ _ _ _ (by omega) (by
        have : left * rate ≤ 1000000000000 * 1000000 := Int.mul_le_mul h2 r1 r0 (by omega)
        omega) (by omega) (by omega)⟩
    have UD := Lib.hid (up_div (left - rest) ((n : Int) + 1) (by omega))
    have ub := up_bd (left - rest) ((n : Int) + 1) (by omega) (by omega) (by omega)
    have DE := Lib.hid (show flD rest rate left (n + 1) = min (max (rnd (left * rate) 1000000 2) (rnd (left - rest) ((n : Int) + 1) 1)) (left - rest) by unfold flD; rw [show ((n + 1 : Nat) : Int) = (n : Int) + 1 by omega])
    have db := flD_bd rest rate left (n + 1) h0 h1 r0
    have P0 := Lib.hid (show flP left rest rate (n + 1) 0 = flD rest rate left (n + 1) from rfl)
    have PS := Lib.hid (fun k => flP_shift left rest rate n k)
    have RR := Lib.hid (fun w => rround_any (left * rate) 1000000 2 w (by omega) (by omega) (by omega) (by omega) (by omega) (by omega))
    have nz : (((n : Int) + 1) == 0) = false := by rw [beq_eq_false_iff_ne]; omega
    have dd := DE.out
    rw [← UD.out] at dd ub
    generalize rnd (left * rate) 1000000 2 = s at *
    generalize hD : flD rest rate left (n + 1) = d at *
    have dn : 0 ≤ left - rest + ((n : Int) + 1) - 1 := by omega
    have db' : rest ≤ left - d := by omega
    have AP := Lib.hid (IH.out (left - d))
    clear hD DE IH
    rw [show ((n + 1 : Nat) : Int) = (n : Int) + 1 by omega]
    clear UD
    rcases (show (s < (left - rest + ((n : Int) + 1) - 1) / ((n : Int) + 1) ∧ left - (left - rest + ((n : Int) + 1) - 1) / ((n : Int) + 1) < rest ∧ d = left - rest) ∨ (s < (left - rest + ((n : Int) + 1) - 1) / ((n : Int) + 1) ∧ rest ≤ left - (left - rest + ((n : Int) + 1) - 1) / ((n : Int) + 1) ∧ d = (left - rest + ((n : Int) + 1) - 1) / ((n : Int) + 1)) ∨ ((left - rest + ((n : Int) + 1) - 1) / ((n : Int) + 1) ≤ s ∧ left - s < rest ∧ d = left - rest) ∨ ((left - rest + ((n : Int) + 1) - 1) / ((n : Int) + 1) ≤ s ∧ rest ≤ left - s ∧ d = s) by omega) with ⟨q1, q2, rfl⟩ | ⟨q1, q2, rfl⟩ | ⟨q1, q2, rfl⟩ | ⟨q1, q2, h⟩
    · have tt : decide (left - (left - rest + ((n : Int) + 1) - 1) / ((n : Int) + 1) < rest) = true := by simp; omega
      clear dd q2
      go_enter Try.func14, Try.ntmps14
      go_wp2_with fail
      refine (RR.out _).mono ?_
      rintro e w1 ⟨rfl, rfl⟩
      go_wp2_with fail
      refine (AP.out _ (by omega) (by omega) (by omega)).mono ?_
      rintro e w2 ⟨v, rfl, hG, hK⟩
      have hL := (Gr.lit w _ (flP left rest rate (n + 1)) P0.out).later hK
      have hK2 := ((Kept.refl w).alloc _).trans hK
      clear hK AP RR
      go_wp2_with (at_builtin; refine app_rows rfl (.tmp 35) (.tmp 43) rfl (B := w.heap.size) rfl rfl hL hG (by omega) hK2.le ?_)
      intro v' w3 hG3 hgrow
      have hK3 := hL.below (Nat.le_refl _) hK2 hgrow
      have hG4 : Gr w.heap.size w3 v' (n + 1) (flP left rest rate (n + 1)) := by
        rw [Nat.add_comm 1 n] at hG3
        exact hG3.congr (fun j hj => glue_shift _ _ (fun k => PS.out k) j)
      clear hG3 hgrow hL hK2 hG
      go_wp2
      go_ret
      exact ⟨_, rfl, hG4, hK3⟩
    · have tt : decide (left - (left - rest + ((n : Int) + 1) - 1) / ((n : Int) + 1) < rest) = false := by simp; omega
      clear dd q2
      go_enter Try.func14, Try.ntmps14
      go_wp2_with fail
      refine (RR.out _).mono ?_
      rintro e w1 ⟨rfl, rfl⟩
      go_wp2_with fail
      refine (AP.out _ (by omega) (by omega) (by omega)).mono ?_
      rintro e w2 ⟨v, rfl, hG, hK⟩
      have hL := (Gr.lit w _ (flP left rest rate (n + 1)) P0.out).later hK
      have hK2 := ((Kept.refl w).alloc _).trans hK
      clear hK AP RR
      go_wp2_with (at_builtin; refine app_rows rfl (.tmp 35) (.tmp 43) rfl (B := w.heap.size) rfl rfl hL hG (by omega) hK2.le ?_)
      intro v' w3 hG3 hgrow
      have hK3 := hL.below (Nat.le_refl _) hK2 hgrow
      have hG4 : Gr w.heap.size w3 v' (n + 1) (flP left rest rate (n + 1)) := by
        rw [Nat.add_comm 1 n] at hG3
        exact hG3.congr (fun j hj => glue_shift _ _ (fun k => PS.out k) j)
      clear hG3 hgrow hL hK2 hG
      go_wp2
      go_ret
      exact ⟨_, rfl, hG4, hK3⟩
    · have tt : decide (left - s < rest) = true := by simp; omega
      clear dd q2
      go_enter Try.func14, Try.ntmps14
      go_wp2_with fail
      refine (RR.out _).mono ?_
      rintro e w1 ⟨rfl, rfl⟩
      go_wp2_with fail
      refine (AP.out _ (by omega) (by omega) (by omega)).mono ?_
      rintro e w2 ⟨v, rfl, hG, hK⟩
      have hL := (Gr.lit w _ (flP left rest rate (n + 1)) P0.out).later hK
      have hK2 := ((Kept.refl w).alloc _).trans hK
      clear hK AP RR
      go_wp2_with (at_builtin; refine app_rows rfl (.tmp 35) (.tmp 43) rfl (B := w.heap.size) rfl rfl hL hG (by omega) hK2.le ?_)
      intro v' w3 hG3 hgrow
      have hK3 := hL.below (Nat.le_refl _) hK2 hgrow
      have hG4 : Gr w.heap.size w3 v' (n + 1) (flP left rest rate (n + 1)) := by
        rw [Nat.add_comm 1 n] at hG3
        exact hG3.congr (fun j hj => glue_shift _ _ (fun k => PS.out k) j)
      clear hG3 hgrow hL hK2 hG
      go_wp2
      go_ret
      exact ⟨_, rfl, hG4, hK3⟩
    · subst h
      have tt : decide (left - d < rest) = false := by simp; omega
      clear dd q2
      go_enter Try.func14, Try.ntmps14
      go_wp2_with fail
      refine (RR.out _).mono ?_
      rintro e w1 ⟨rfl, rfl⟩
      go_wp2_with fail
      refine (AP.out _ (by omega) (by omega) (by omega)).mono ?_
      rintro e w2 ⟨v, rfl, hG, hK⟩
      have hL := (Gr.lit w _ (flP left rest rate (n + 1)) P0.out).later hK
      have hK2 := ((Kept.refl w).alloc _).trans hK
      clear hK AP RR
      go_wp2_with (at_builtin; refine app_rows rfl (.tmp 35) (.tmp 43) rfl (B := w.heap.size) rfl rfl hL hG (by omega) hK2.le ?_)
      intro v' w3 hG3 hgrow
      have hK3 := hL.below (Nat.le_refl _) hK2 hgrow
      have hG4 : Gr w.heap.size w3 v' (n + 1) (flP left rest rate (n + 1)) := by
        rw [Nat.add_comm 1 n] at hG3
        exact hG3.congr (fun j hj => glue_shift _ _ (fun k => PS.out k) j)
      clear hG3 hgrow hL hK2 hG
      go_wp2
      go_ret
      exact ⟨_, rfl, hG4, hK3⟩

/-- The four boxes that the law's closure has captured. -/
structure BoxU (w : World) (pu pt pc pr : Nat) (v : Value) (total c r : Int) : Prop where
  u : SlBox w pu v
  t : SlBox w pt (.int .i64 total)
  c : SlBox w pc (.int .i64 c)
  r : SlBox w pr (.int .i64 r)
theorem BoxU.later {w w' : World} {pu pt pc pr : Nat} {v : Value} {total c r : Int} (h : BoxU w pu pt pc pr v total c r) (k : Kept w w') : BoxU w' pu pt pc pr v total c r := ⟨h.u.later k, h.t.later k, h.c.later k, h.r.later k⟩

end Go.Proofs.Ytcelkgbpgpgpjaa
