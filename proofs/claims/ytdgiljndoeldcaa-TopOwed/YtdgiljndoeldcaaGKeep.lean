/-
  What the laws' small functions return of items: slices.Equal, slices.Contains, owed. No condition but those that each theorem names.
-/
import Derived.Test.YtdgiljndoeldcaaGAge
import Derived.Test.YtdgiljndoeldcaaPApp
import Derived.Shelf.SlSortCmp.QuietGrown
namespace Go.Proofs.Ytdgiljndoeldcaa
open Go.RowKit Go.Sort
set_option linter.unusedVariables false

set_option maxHeartbeats 4000000 in
theorem itequal_yes (l : List Mv) (a b : Option Addr) (n cap cap' : Nat) (w : World) (hn : l.length ≤ 1000) (e : l.length = n) (hR : JArg eP w a l) (hQ : JArg eP w b l) :
    Calls Try.prog 20 #[.slice a n cap, .slice b n cap'] w fun e w' => e = .returned (.bool true) ∧ Kept w w' := by
  have HR := Lib.hid hR
  have HQ := Lib.hid hQ
  have HE := Lib.hid e
  have hn' : n ≤ 1000 := by omega
  clear hR hQ e hn
  go_enter Try.func20, Try.ntmps20
  go_wp2
  go_loopw [13] (fun i wr => ∃ k m : Nat, k ≤ n ∧ i = .int .i64 k ∧ wr = w.drewN m) (fun i _ => (n - intOf i).toNat)
  case atStart => exact ⟨0, 0, by omega, rfl, rfl⟩
  case round =>
    obtain ⟨k, m, hk, rfl, rfl⟩ := hrel
    by_cases hlt : k < n
    · have hl : k < l.length := by rw [HE.out]; exact hlt
      obtain ⟨p, off, rfl, hp⟩ := HR.out.at hl
      obtain ⟨q, off', rfl, hq⟩ := HQ.out.at hl
      have c0 := hp.c0 k hl
      have c1 := hp.c1 k hl
      have d0 := hq.c0 k hl
      have d1 := hq.c1 k hl
      clear hp hq
      generalize l[k] = x at *
      clear hl
      have i0 : (0 : Int) ≤ (k : Int) := by omega
      have i1 : (k : Int) < (n : Int) := by omega
      go_wp2_with fail
      go_quiet (fail)
      go_wp2
      go_roundw
      case rel => exact ⟨k + 1, _, by omega, by go_num, rfl⟩
      case measure => simp [intOf]; omega
    · obtain rfl : k = n := by omega
      clear hlt
      go_wp2
      go_ret
      exact ⟨rfl, (Kept.refl w).drewN m⟩
theorem csm_take {l : List Mv} (h : ∀ x ∈ l, 1 ≤ x.2) {j : Nat} (hj : j ≤ l.length) : 0 ≤ csm (l.take j) ∧ csm (l.take j) ≤ csm l := by
  have e := csm_app (l.take j) (l.drop j)
  rw [List.take_append_drop] at e
  have := (csm0 (l := l.take j) (fun x hx => h x (List.mem_of_mem_take hx))).1
  have := (csm0 (l := l.drop j) (fun x hx => h x (List.mem_of_mem_drop hx))).1
  omega
set_option maxHeartbeats 4000000 in
theorem owed_any (a : Option Addr) (l : List Mv) (cap : Nat) (w : World) (hn : l.length ≤ 1000) (hp : ∀ x ∈ l, 1 ≤ x.2) (hs : csm l ≤ 1000000000000000) (hA : JArg eP w a l) :
    Calls Try.prog 25 #[.slice a l.length cap] w fun e w' => e = .returned (.int .i64 (csm l)) ∧ Kept w w' := by
  have HA := Lib.hid hA
  have SB := Lib.hid (fun j (h : j ≤ l.length) => csm_take hp h)
  have SN := Lib.hid (fun j (h : j < l.length) => show csm (l.take (j + 1)) = csm (l.take j) + (l[j]).2 from by rw [take_snocP l j h, csm_app, csm, csm]; omega)
  clear hA hp
  go_enter Try.func25, Try.ntmps25
  go_wp2
  go_loopw [3, 8] (fun s i wr => ∃ j : Nat, j ≤ l.length ∧ i = .int .i64 j ∧ s = .int .i64 (csm (l.take j)) ∧ Kept w wr) (fun _ i _ => l.length - (intOf i).toNat)
  case atStart => exact ⟨0, Nat.zero_le _, rfl, rfl, Kept.refl _⟩
  case round =>
    obtain ⟨j, hj, rfl, rfl, hK⟩ := hrel
    by_cases hlt : j < l.length
    · obtain ⟨p, off, rfl, hR⟩ := (HA.out.later hK).at hlt
      have c0 := hR.c0 j hlt
      have c1 := hR.c1 j hlt
      have plt := hR.lt
      have S1 := Lib.hid (SN.out j hlt)
      have b1 := SB.out (j + 1) hlt
      rw [S1.out] at b1
      have wr1 : IntKind.i64.wrap (csm (l.take j) + (l[j]).2) = csm (l.take j) + (l[j]).2 := IntWalk.i64_in _ (by omega)
      clear hR b1
      generalize l[j] = x at *
      generalize csm (l.take j) = s at *
      go_wp2
      go_roundw
      case rel => exact ⟨j + 1, by omega, by go_num, by rw [S1.out], hK.alloc _⟩
      case measure => simp [intOf]; omega
    · obtain rfl : j = l.length := by omega
      clear hlt
      rw [List.take_length]
      go_wp2
      go_ret
      exact ⟨rfl, hK⟩
/-- Some place. -/
def SomeAt (w : World) (e : Ending) (w' : World) : Prop := ∃ k : Nat, k ≤ 1000 ∧ e = .returned (.int .i64 k) ∧ ∃ q os, w' = grow (w.drewN q) os
set_option maxHeartbeats 4000000 in
theorem index_yes (a : Option Addr) (l : List Mv) (cap : Nat) (v : Mv) (w : World) (hn : l.length ≤ 1000) (hv : v ∈ l) (hA : JArg eP w a l) :
    Calls Try.prog 53 #[.slice a l.length cap, .agg #[.int .i64 v.1, .int .i64 v.2]] w (SomeAt w) := by
  obtain ⟨j0, hj0, ej0⟩ := List.getElem_of_mem hv
  have HA := Lib.hid hA
  have HJ := Lib.hid ej0
  have hB := (Kept.refl w).alloc (.cells #[.int .i64 v.1, .int .i64 v.2] 31)
  have HG := Lib.hid (show w.alloc (.cells #[.int .i64 v.1, .int .i64 v.2] 31) = grow w #[.cells #[.int .i64 v.1, .int .i64 v.2] 31] from alloc_eq_grow _ _)
  have v0 : (w.alloc (.cells #[.int .i64 v.1, .int .i64 v.2] 31)).cell? ⟨w.heap.size, 0, none⟩ = some (.int .i64 v.1) := by simp
  have v1 : (w.alloc (.cells #[.int .i64 v.1, .int .i64 v.2] 31)).cell? ⟨w.heap.size, 1, none⟩ = some (.int .i64 v.2) := by simp
  have HA1 := Lib.hid (HA.out.later hB)
  clear hA hv ej0 HA
  go_enter Try.func53, Try.ntmps53
  go_wp2_with fail
  generalize w.alloc (.cells #[.int .i64 v.1, .int .i64 v.2] 31) = W at *
  generalize w.heap.size = bx at *
  go_loopw [8] (fun i wr => ∃ k m : Nat, k ≤ j0 ∧ i = .int .i64 k ∧ wr = W.drewN m) (fun i _ => l.length - (intOf i).toNat)
  case atStart => exact ⟨0, 0, by omega, rfl, rfl⟩
  case round =>
    obtain ⟨k, m, hk, rfl, rfl⟩ := hrel
    have hl : k < l.length := by omega
    obtain ⟨p, off, rfl, hp⟩ := HA1.out.at hl
    have c0 := hp.c0 k hl
    have c1 := hp.c1 k hl
    have HE := Lib.hid (fun (h : k = j0) => show l[k] = v from by subst h; exact HJ.out)
    clear hp
    generalize l[k] = x at *
    have i0 : (0 : Int) ≤ (k : Int) := by omega
    have i1 : (k : Int) < (l.length : Int) := by omega
    by_cases b1 : v.1 = x.1
    · by_cases b2 : v.2 = x.2
      · have e1 : (v.1 == x.1) = true := by simpa using b1
        have e2 : (v.2 == x.2) = true := by simpa using b2
        clear b1 b2
        go_wp2_with fail
        go_quiet (fail)
        go_wp2
        go_ret
        exact ⟨k, by omega, rfl, m + nq, #[.cells #[.int .i64 v.1, .int .i64 v.2] 31], by rw [World.drewN_drewN, HG.out]; rfl⟩
      · have kn : k ≠ j0 := fun h => b2 (by rw [HE.out h])
        have e1 : (v.1 == x.1) = true := by simpa using b1
        have e2 : (v.2 == x.2) = false := by simpa using b2
        clear b1 b2
        go_wp2_with fail
        go_quiet (fail)
        go_wp2
        go_roundw
        case rel => exact ⟨k + 1, _, by omega, by go_num, rfl⟩
        case measure => simp [intOf]; omega
    · have kn : k ≠ j0 := fun h => b1 (by rw [HE.out h])
      have e1 : (v.1 == x.1) = false := by simpa using b1
      clear b1
      go_wp2_with fail
      go_quiet (fail)
      go_wp2
      go_roundw
      case rel => exact ⟨k + 1, _, by omega, by go_num, rfl⟩
      case measure => simp [intOf]; omega
set_option maxHeartbeats 4000000 in
theorem contains_grown (a : Option Addr) (l : List Mv) (cap : Nat) (v : Mv) (w : World) (hn : l.length ≤ 1000) (hv : v ∈ l) (hA : JArg eP w a l) :
    Calls Try.prog 26 #[.slice a l.length cap, .agg #[.int .i64 v.1, .int .i64 v.2]] w fun e w' => e = .returned (.bool true) ∧ ∃ q os, w' = grow (w.drewN q) os := by
  have hB := (Kept.refl w).alloc (.cells #[.int .i64 v.1, .int .i64 v.2] 31)
  have HI := Lib.hid (index_yes a l cap v _ hn hv (hA.later hB))
  clear hA
  go_enter Try.func26, Try.ntmps26
  go_wp2_with fail
  refine HI.out.mono ?_
  rintro e w1 ⟨k, k2, rfl, q, os, rfl⟩
  have k3 : (0 : Int) ≤ (k : Int) := by omega
  go_wp2
  go_ret
  exact ⟨rfl, q, #[.cells #[.int .i64 v.1, .int .i64 v.2] 31] ++ os, by rw [← grow_grow, alloc_eq_grow]; rfl⟩
end Go.Proofs.Ytdgiljndoeldcaa
