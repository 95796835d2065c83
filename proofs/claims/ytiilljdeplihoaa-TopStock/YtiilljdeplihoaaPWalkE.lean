/-
  What the helpers of the laws of stock return: sums, and whether two rows are equal. No condition but those that each theorem names.
-/
import Derived.Test.YtiilljdeplihoaaPWalkD
import Derived.Deep.Upon
namespace Go.Proofs.Ytiilljdeplihoaa
open Go.RowKit Go.WideShapes
set_option linter.unusedVariables false

/-- A row laid as a literal. -/
theorem JRow.lit {α : Type} (E : Jec α) {w : World} {p : Nat} (l : List α) (cs : Array Value) (t : TypeId) (hp : w.heap.size = p) (hcs : cs.toList = E.cat l) : JRow E (w.alloc (.cells cs t)) p 0 l := by
  subst hp
  refine ⟨by simp, fun j u hj => ?_⟩
  rw [Nat.zero_add]
  rw [← hcs] at hj
  have : (w.alloc (.cells cs t)).cell? ⟨w.heap.size, j, none⟩ = cs[j]? := World.cell?_alloc_new w cs t j
  rw [this, ← Array.getElem?_toList]; exact hj
theorem JArg.lit {α : Type} (E : Jec α) {w : World} {p : Nat} (l : List α) (cs : Array Value) (t : TypeId) (hp : w.heap.size = p) (hcs : cs.toList = E.cat l) : JArg E (w.alloc (.cells cs t)) (some ⟨p, 0, none⟩) l :=
  .inr ⟨p, 0, rfl, JRow.lit E l cs t hp hcs⟩
set_option maxHeartbeats 4000000 in
theorem iequal_yes (l : List Int) (a b : Option Addr) (n cap cap' : Nat) (w : World) (hn : l.length ≤ 1000) (e : l.length = n) (hR : JArg eI w a l) (hQ : JArg eI w b l) :
    Calls Try.prog 14 #[.slice a n cap, .slice b n cap'] w fun e w' => e = .returned (.bool true) ∧ Kept w w' := by
  have HR := Lib.hid hR
  have HQ := Lib.hid hQ
  have HE := Lib.hid e
  have hn' : n ≤ 1000 := by omega
  clear hR hQ e hn
  go_enter Try.func14, Try.ntmps14
  go_wp2
  go_loopw [13] (fun i wr => ∃ k m : Nat, k ≤ n ∧ i = .int .i64 k ∧ wr = w.drewN m) (fun i _ => (n - intOf i).toNat)
  case atStart => exact ⟨0, 0, by omega, rfl, rfl⟩
  case round =>
    obtain ⟨k, m, hk, rfl, rfl⟩ := hrel
    by_cases hlt : k < n
    · have hl : k < l.length := by rw [HE.out]; exact hlt
      obtain ⟨p, off, rfl, hp⟩ := HR.out.at hl
      obtain ⟨q, off', rfl, hq⟩ := HQ.out.at hl
      have c0 := hp.i k hl
      have d0 := hq.i k hl
      clear hp hq
      generalize l[k] = x at *
      clear hl
      have i0 : (0 : Int) ≤ (k : Int) := by omega
      have i1 : (k : Int) < (n : Int) := by omega
      go_wp2_with fail
      go_quiet (fail)
      go_wp2
      go_roundw
      case rel => exact ⟨k + 1, _, by omega, by go_num, rfl⟩
      case measure => simp [intOf]; omega
    · obtain rfl : k = n := by omega
      clear hlt
      go_wp2
      go_ret
      exact ⟨rfl, (Kept.refl w).drewN m⟩
set_option maxHeartbeats 4000000 in
theorem lotequal_yes (l : List Mv) (a b : Option Addr) (n cap cap' : Nat) (w : World) (hn : l.length ≤ 1000) (e : l.length = n) (hR : JArg eP w a l) (hQ : JArg eP w b l) :
    Calls Try.prog 15 #[.slice a n cap, .slice b n cap'] w fun e w' => e = .returned (.bool true) ∧ Kept w w' := by
  have HR := Lib.hid hR
  have HQ := Lib.hid hQ
  have HE := Lib.hid e
  have hn' : n ≤ 1000 := by omega
  clear hR hQ e hn
  go_enter Try.func15, Try.ntmps15
  go_wp2
  go_loopw [13] (fun i wr => ∃ k m : Nat, k ≤ n ∧ i = .int .i64 k ∧ wr = w.drewN m) (fun i _ => (n - intOf i).toNat)
  case atStart => exact ⟨0, 0, by omega, rfl, rfl⟩
  case round =>
    obtain ⟨k, m, hk, rfl, rfl⟩ := hrel
    by_cases hlt : k < n
    · have hl : k < l.length := by rw [HE.out]; exact hlt
      obtain ⟨p, off, rfl, hp⟩ := HR.out.at hl
      obtain ⟨q, off', rfl, hq⟩ := HQ.out.at hl
      have c0 := hp.c0 k hl
      have c1 := hp.c1 k hl
      have d0 := hq.c0 k hl
      have d1 := hq.c1 k hl
      clear hp hq
      generalize l[k] = x at *
      clear hl
      have i0 : (0 : Int) ≤ (k : Int) := by omega
      have i1 : (k : Int) < (n : Int) := by omega
      go_wp2_with fail
      go_quiet (fail)
      go_wp2
      go_roundw
      case rel => exact ⟨k + 1, _, by omega, by go_num, rfl⟩
      case measure => simp [intOf]; omega
    · obtain rfl : k = n := by omega
      clear hlt
      go_wp2
      go_ret
      exact ⟨rfl, (Kept.refl w).drewN m⟩
theorem sumI_take {l : List Int} (h : ∀ x ∈ l, 0 ≤ x) {j : Nat} (hj : j ≤ l.length) : 0 ≤ sumI (l.take j) ∧ sumI (l.take j) ≤ sumI l := by
  have e := sumI_app (l.take j) (l.drop j)
  rw [List.take_append_drop] at e
  have := sumI_pos (l := l.take j) (fun x hx => h x (List.mem_of_mem_take hx))
  have := sumI_pos (l := l.drop j) (fun x hx => h x (List.mem_of_mem_drop hx))
  omega
/-- The sum of numbers that are not below nought. -/
def SumAny (F : FuncId) : Prop := ∀ (a : Option Addr) (l : List Int) (cap : Nat) (w : World), l.length ≤ 1000 → (∀ x ∈ l, 0 ≤ x) → sumI l ≤ 1000000000000000 → JArg eI w a l →
    Calls Try.prog F #[.slice a l.length cap] w fun e w' => e = .returned (.int .i64 (sumI l)) ∧ w = w'
set_option maxHeartbeats 4000000 in
theorem ksum_any : SumAny 17 := by
  intro a l cap w hn hp hs hA
  have HA := Lib.hid hA
  have SB := Lib.hid (fun j (h : j ≤ l.length) => sumI_take hp h)
  have SN := Lib.hid (fun j (h : j < l.length) => show sumI (l.take (j + 1)) = sumI (l.take j) + l[j] from by rw [take_snocP l j h, sumI_app, sumI, sumI]; omega)
  clear hA hp
  go_enter Try.func17, Try.ntmps17
  go_wp2
  go_loopw [3, 8] (fun s i wr => ∃ j : Nat, j ≤ l.length ∧ i = .int .i64 j ∧ s = .int .i64 (sumI (l.take j)) ∧ w = wr) (fun _ i _ => l.length - (intOf i).toNat)
  case atStart => exact ⟨0, Nat.zero_le _, rfl, rfl, rfl⟩
  case round =>
    obtain ⟨j, hj, rfl, rfl, rfl⟩ := hrel
    by_cases hlt : j < l.length
    · obtain ⟨p, off, rfl, hR⟩ := HA.out.at hlt
      have c0 := hR.i j hlt
      have S1 := Lib.hid (SN.out j hlt)
      have b1 := SB.out (j + 1) hlt
      rw [S1.out] at b1
      have wr1 : IntKind.i64.wrap (sumI (l.take j) + l[j]) = sumI (l.take j) + l[j] := IntWalk.i64_in _ (by omega)
      clear hR b1
      generalize l[j] = x at *
      generalize sumI (l.take j) = s at *
      go_wp2
      go_roundw
      case rel => exact ⟨j + 1, by omega, by go_num, by rw [S1.out], trivial⟩
      case measure => simp [intOf]; omega
    · obtain rfl : j = l.length := by omega
      clear hlt
      rw [List.take_length]
      go_wp2
      go_ret
      exact ⟨rfl, rfl⟩
set_option maxHeartbeats 4000000 in
theorem tsumI_any : SumAny 25 := by
  intro a l cap w hn hp hs hA
  have HA := Lib.hid hA
  have SB := Lib.hid (fun j (h : j ≤ l.length) => sumI_take hp h)
  have SN := Lib.hid (fun j (h : j < l.length) => show sumI (l.take (j + 1)) = sumI (l.take j) + l[j] from by rw [take_snocP l j h, sumI_app, sumI, sumI]; omega)
  clear hA hp
  go_enter Try.func25, Try.ntmps25
  go_wp2
  go_loopw [3, 8] (fun s i wr => ∃ j : Nat, j ≤ l.length ∧ i = .int .i64 j ∧ s = .int .i64 (sumI (l.take j)) ∧ w = wr) (fun _ i _ => l.length - (intOf i).toNat)
  case atStart => exact ⟨0, Nat.zero_le _, rfl, rfl, rfl⟩
  case round =>
    obtain ⟨j, hj, rfl, rfl, rfl⟩ := hrel
    by_cases hlt : j < l.length
    · obtain ⟨p, off, rfl, hR⟩ := HA.out.at hlt
      have c0 := hR.i j hlt
      have S1 := Lib.hid (SN.out j hlt)
      have b1 := SB.out (j + 1) hlt
      rw [S1.out] at b1
      have wr1 : IntKind.i64.wrap (sumI (l.take j) + l[j]) = sumI (l.take j) + l[j] := IntWalk.i64_in _ (by omega)
      clear hR b1
      generalize l[j] = x at *
      generalize sumI (l.take j) = s at *
      go_wp2
      go_roundw
      case rel => exact ⟨j + 1, by omega, by go_num, by rw [S1.out], trivial⟩
      case measure => simp [intOf]; omega
    · obtain rfl : j = l.length := by omega
      clear hlt
      rw [List.take_length]
      go_wp2
      go_ret
      exact ⟨rfl, rfl⟩
theorem lots_take {l : List Mv} (h : LotsOk l) (j : Nat) : LotsOk (l.take j) := fun x hx => h x (List.mem_of_mem_take hx)
set_option maxHeartbeats 4000000 in
theorem cost_any (a : Option Addr) (l : List Mv) (cap : Nat) (w : World) (hn : l.length ≤ 40) (hp : LotsOk l) (hA : JArg eP w a l) :
    Calls Try.prog 16 #[.slice a l.length cap] w fun e w' => e = .returned (.agg #[.int .i64 (cnt l), .int .i64 (csm l)]) ∧ Kept w w' := by
  have HA := Lib.hid hA
  have SB := Lib.hid (fun j => (lots_take hp j).cnt0)
  have SN := Lib.hid (fun j (h : j < l.length) => show cnt (l.take (j + 1)) = cnt (l.take j) + (l[j]).1 ∧ csm (l.take (j + 1)) = csm (l.take j) + (l[j]).2 from by
    rw [take_snocP l j h, cnt_app, cnt, cnt, csm_app, csm, csm]; omega)
  have HR := Lib.hid (LBx.new (w := w) rfl (0, 0) 29)
  have HL := Lib.hid (LBx.new (w := w.alloc lotO) (p := w.heap.size + 1) (by simp) (0, 0) 29)
  have KW := Lib.hid ((Kept.refl w).alloc lotO)
  have KL := Lib.hid ((Kept.refl (w.alloc lotO)).alloc lotO)
  have hsz : (w.alloc lotO).heap.size = w.heap.size + 1 := by simp
  clear hA hp
  go_enter Try.func16, Try.ntmps16
  go_wp2
  generalize w.alloc (.cells #[.int .i64 0, .int .i64 0] 29) = W at *
  generalize hp : w.heap.size + 1 = p at *
  go_loopw [8] (fun i wr => ∃ j : Nat, j ≤ l.length ∧ i = .int .i64 j ∧ LBx wr p (cnt (l.take j), csm (l.take j)) ∧ Kept W wr) (fun i _ => l.length - (intOf i).toNat)
  case atStart => exact ⟨0, Nat.zero_le _, rfl, HL.out, KL.out⟩
  case round =>
    obtain ⟨j, hj, rfl, hL, hK⟩ := hrel
    have hKW := KW.out.trans hK
    by_cases hlt : j < l.length
    · obtain ⟨pp, off, rfl, hR⟩ := (HA.out.later hKW).at hlt
      have c0 := hR.c0 j hlt
      have c1 := hR.c1 j hlt
      have plt := hR.lt
      have S1 := Lib.hid (SN.out j hlt)
      have b2 := SB.out (j + 1)
      rw [List.length_take, Nat.min_eq_left (by omega), S1.out.1, S1.out.2] at b2
      clear hR
      generalize l[j] = x at *
      generalize cnt (l.take j) = cn at *
      generalize csm (l.take j) = cs at *
      have w1' : IntKind.i64.wrap (cn + x.1) = cn + x.1 := IntWalk.i64_in _ (by omega)
      have w2' : IntKind.i64.wrap (cs + x.2) = cs + x.2 := IntWalk.i64_in _ (by omega)
      have L2 := Lib.hid ((hL.two (cn + x.1) (cs + x.2)).later ((Kept.refl _).alloc (.cells #[.int .i64 x.1, .int .i64 x.2] 29)))
      have K2 := Lib.hid (((hK.setAt (b := p) (i := 0) (by omega) (.int .i64 (cn + x.1))).setAt (b := p) (i := 1) (by omega) (.int .i64 (cs + x.2))).alloc (.cells #[.int .i64 x.1, .int .i64 x.2] 29))
      obtain ⟨⟨b0, b1, b3⟩, g0, g1⟩ := id hL
      have np : wr.heap.size ≠ p := by omega
      clear hL hK hKW b2
      go_wp2
      go_roundw
      case rel => exact ⟨j + 1, by omega, by go_num, by rw [S1.out.1, S1.out.2]; exact L2.out, K2.out⟩
      case measure => simp [intOf]; omega
    · obtain rfl : j = l.length := by omega
      clear hlt
      rw [List.take_length] at hL
      obtain ⟨⟨b0, b1, b2⟩, g0, g1⟩ := id hL
      have hq := HR.out
      have hWs : w.heap.size < W.heap.size := by omega
      obtain ⟨⟨r0, r1, r2⟩, h0, h1⟩ := hq.later hK
      have nq : w.heap.size ≠ p := by omega
      have K9 := Lib.hid (((hKW.setAt (b := w.heap.size) (i := 0) (Nat.le_refl _) (.int .i64 (cnt l)))).setAt (b := w.heap.size) (i := 1) (Nat.le_refl _) (.int .i64 (csm l)))
      clear hL hK hKW hp
      go_wp2
      exact bodyPost_ret (v := .agg #[.int .i64 (cnt l), .int .i64 (csm l)]) (by simp [results, Try.results16, go_sem, r1, r2]) rfl ⟨rfl, K9.out⟩
/-- Some number from 0 to n-1. -/
def SkBelow (n : Int) (w : World) (e : Ending) (w' : World) : Prop := ∃ r : Int, 0 ≤ r ∧ r < n ∧ e = .returned (.int .i64 r) ∧ w = w'
theorem skWithin_val (k n : Int) (w : World) (h0 : 1 ≤ n) (h1 : n ≤ 1000000000000000) : SkBelow n w (.returned (.int .i64 (wrap64 ((IntKind.u64.wrap k).tmod n)))) w := by
  have h2 : 0 ≤ IntKind.u64.wrap k := by rw [IntKind.wrap_u64]; omega
  have h3 : (IntKind.u64.wrap k).tmod n = IntKind.u64.wrap k % n := Int.tmod_eq_emod_of_nonneg h2
  have h4 : 0 ≤ IntKind.u64.wrap k % n := Int.emod_nonneg _ (by omega)
  have h5 : IntKind.u64.wrap k % n < n := Int.emod_lt_of_pos _ (by omega)
  rw [h3]
  refine ⟨IntKind.u64.wrap k % n, h4, h5, ?_, rfl⟩
  rw [show wrap64 (IntKind.u64.wrap k % n) = IntKind.u64.wrap k % n from by unfold wrap64; omega]
set_option maxHeartbeats 1000000 in
theorem skWithin_any (k n : Int) (w : World) (h0 : 1 ≤ n) (h1 : n ≤ 1000000000000000) :
    Calls Try.prog 19 #[.int .i64 k, .int .i64 n] w (SkBelow n w) := by
  go_enter Try.func19, Try.ntmps19
  go_wp2
  go_ret
  exact skWithin_val k n w h0 h1
/-- Fifo's answer, as slices. -/
def FiA (w : World) (s : List Int × List Mv) (e : Ending) (w' : World) : Prop :=
  ∃ au cu av cv, e = .returned (.tuple #[.slice au s.1.length cu, .slice av s.2.length cv, .int .i64 0]) ∧ JArg eI w' au s.1 ∧ JArg eP w' av s.2 ∧ s.1.length ≤ cu ∧ cu ≤ maxLen ∧ (au = none → cu = 0) ∧ Kept w w'
theorem fifo_arg (a : Option Addr) (l : List Mv) (cap : Nat) (w : World) (hA : JArg eP w a l) (ok : MvOk l) :
    Calls Try.prog 9 #[.slice a l.length cap] w (FiA w (ffS l)) := by
  refine (fifo_yes a l cap w hA ok).mono fun e w' h => ?_
  obtain ⟨u, v, rfl, hU, hV, _, hK⟩ := h
  obtain ⟨au, cu, rfl, k1, k2, k3⟩ := id hU.is
  obtain ⟨av, cv, rfl, _⟩ := id hV.is
  refine ⟨au, cu, av, cv, rfl, hU.arg, hV.arg, k1, k2, fun e => ?_, hK⟩
  rcases k3 with ⟨_, h⟩ | ⟨p, off, h, _⟩
  · exact h
  · rw [e] at h; cases h
def MnA (w : World) (s : List Int × Mv) (e : Ending) (w' : World) : Prop :=
  ∃ au cu, e = .returned (.tuple #[.slice au s.1.length cu, .agg #[.int .i64 s.2.1, .int .i64 s.2.2], .int .i64 0]) ∧ JArg eI w' au s.1 ∧ s.1.length ≤ cu ∧ cu ≤ maxLen ∧ (au = none → cu = 0) ∧ Kept w w'
theorem mean_arg (a : Option Addr) (l : List Mv) (cap : Nat) (w : World) (hA : JArg eP w a l) (ok : MvOk l) :
    Calls Try.prog 10 #[.slice a l.length cap] w (MnA w (mmS l)) := by
  refine (mean_yes a l cap w hA ok).mono fun e w' h => ?_
  obtain ⟨u, rfl, hU, hK⟩ := h
  obtain ⟨au, cu, rfl, k1, k2, k3⟩ := id hU.is
  refine ⟨au, cu, rfl, hU.arg, k1, k2, fun e => ?_, hK⟩
  rcases k3 with ⟨_, h⟩ | ⟨p, off, h, _⟩
  · exact h
  · rw [e] at h; cases h
theorem JArg.at0 {w : World} {a : Option Addr} {x : Int} (h : JArg eI w a [x]) : ∃ p off, a = some ⟨p, off, none⟩ ∧ p < w.heap.size ∧ w.cell? ⟨p, off, none⟩ = some (.int .i64 x) := by
  obtain ⟨p, off, rfl, hR⟩ := h.at (j := 0) (by simp)
  exact ⟨p, off, rfl, hR.lt, by simpa using hR.i 0 (by simp)⟩
end Go.Proofs.Ytiilljdeplihoaa
