/-
  What package tie's two closures, its match and byDay return. No condition but those that each theorem names.
-/
import Derived.Test.YtdgiljndoeldcaaGTieF
import Derived.Test.YtdgiljndoeldcaaGOrd
import Derived.Test.YtdgiljndoeldcaaGPayC
import Derived.Test.YtdgiljndoeldcaaGChk
namespace Go.Proofs.Ytdgiljndoeldcaa
open Go.RowKit Go.Sort
set_option linter.unusedVariables false

/-- P49: the two may go together. -/
def fitB (h : Int) (x y : Mv) : Bool := decide (x.2 = y.2) && decide (max (x.1 - y.1) (y.1 - x.1) ≤ h)
/-- A day. -/
def Dy (x : Mv) : Prop := 0 ≤ x.1 ∧ x.1 ≤ 292193
set_option maxHeartbeats 4000000 in
theorem match_any (x y : Mv) (h : Int) (w : World) (hx : Dy x) (hy : Dy y) :
    Calls Try.prog 50 #[.agg #[.int .i64 x.1, .int .i64 x.2], .agg #[.int .i64 y.1, .int .i64 y.2], .int .i64 h] w fun e w' => e = .returned (.bool (fitB h x y)) ∧ ∃ q os, w' = grow (w.drewN q) os := by
  obtain ⟨x0, x1⟩ := hx
  obtain ⟨y0, y1⟩ := hy
  have G := Lib.hid (show (w.alloc (.cells #[.int .i64 x.1, .int .i64 x.2] 31)).alloc (.cells #[.int .i64 y.1, .int .i64 y.2] 31) = grow (w.drewN 0) #[.cells #[.int .i64 x.1, .int .i64 x.2] 31, .cells #[.int .i64 y.1, .int .i64 y.2] 31] from by
    rw [alloc_eq_grow, alloc_eq_grow, grow_grow]; rfl)
  have E := Lib.hid (show fitB h x y = (decide (x.2 = y.2) && decide (max (x.1 - y.1) (y.1 - x.1) ≤ h)) from rfl)
  generalize fitB h x y = r at *
  have u1 : IntKind.i64.wrap (x.1 - y.1) = x.1 - y.1 := IntWalk.i64_in _ (by omega)
  have u2 : IntKind.i64.wrap (y.1 - x.1) = y.1 - x.1 := IntWalk.i64_in _ (by omega)
  by_cases c : x.2 = y.2
  · have cb : (x.2 == y.2) = true := by simpa using c
    by_cases d : x.1 - y.1 < y.1 - x.1
    · have em : max (x.1 - y.1) (y.1 - x.1) = y.1 - x.1 := by omega
      have E2 := Lib.hid (show r = decide (y.1 - x.1 ≤ h) by rw [E.out, em]; simp [c])
      clear E em c
      go_enter Try.func50, Try.ntmps50
      go_wp2
      go_ret
      exact ⟨ret_bool E2.out.symm, _, _, G.out⟩
    · have em : max (x.1 - y.1) (y.1 - x.1) = x.1 - y.1 := by omega
      have E2 := Lib.hid (show r = decide (x.1 - y.1 ≤ h) by rw [E.out, em]; simp [c])
      clear E em c
      go_enter Try.func50, Try.ntmps50
      go_wp2
      go_ret
      exact ⟨ret_bool E2.out.symm, _, _, G.out⟩
  · have cb : (x.2 == y.2) = false := by simpa using c
    have E2 := Lib.hid (show r = false by rw [E.out]; simp [c])
    clear E c
    go_enter Try.func50, Try.ntmps50
    go_wp2
    go_ret
    exact ⟨ret_bool E2.out.symm, _, _, G.out⟩

/-! byDay. -/
def dyT (l : List Mv) : Int → Int := fun x => -(itC l x).1
theorem cmpV_swapT (a b : Int) : cmpV (-b) (-a) = cmpV a b := by unfold cmpV; repeat' split
                                                                 all_goals omega
set_option maxHeartbeats 4000000 in
theorem byDay1_any (a : Option Addr) (l : List Mv) (cap bx : Nat) (B : World) (hl : l.length ≤ 1000) (hA : JArg eP B a l) (hb : bx < B.heap.size) (hB : B.cell? ⟨bx, 0, none⟩ = some (.slice a l.length cap)) : CmpOk B l.length bx (dyT l) := by
  intro x y W x0 x1 y0 y1 hK
  obtain ⟨i, rfl⟩ : ∃ i : Nat, x = i := ⟨x.toNat, by omega⟩
  obtain ⟨j, rfl⟩ : ∃ j : Nat, y = j := ⟨y.toNat, by omega⟩
  have hi : i < l.length := by omega
  have hj : j < l.length := by omega
  obtain ⟨p, off, rfl, hR⟩ := (hA.later hK).at hi
  have c0 := hR.c0 i hi
  have c1 := hR.c0 j hj
  have cb : W.cell? ⟨bx, 0, none⟩ = some (.slice (some ⟨p, off, none⟩) l.length cap) := (hK.rd.1 _ _ hb).trans hB
  have E := Lib.hid (show cmpV (dyT l j) (dyT l i) = cmpV (l[i]).1 (l[j]).1 from by
    unfold dyT
    rw [itC_nat, itC_nat, itN_get l i hi, itN_get l j hj]
    exact cmpV_swapT _ _)
  generalize cmpV (dyT l j) (dyT l i) = r at *
  generalize (l[i]).1 = d at *
  generalize (l[j]).1 = e at *
  have CM := Lib.hid (fun (q : Nat) => cmp_any d e (W.drewN q))
  clear hR hA hK hB
  go_enter Try.func76, Try.ntmps76
  go_wp2_with fail
  go_quiet (first | (go_at_call 39; exact quiet_same (CM.out _)))
  go_wp2
  go_ret
  exact ⟨ret_int E.out.symm, _, rfl⟩
/-- Places as numbers. -/
def nI (s : List Nat) : List Int := s.map (fun (i : Nat) => (i : Int))
theorem nI_len (s : List Nat) : (nI s).length = s.length := by simp [nI]
/-- A row of places, of the call's own. -/
def DayPost (w : World) (s : List Nat) (e : Ending) (w' : World) : Prop :=
  ∃ g, e = .returned (.slice (some ⟨g, 0, none⟩) s.length s.length) ∧ w.heap.size ≤ g ∧ Own w' g (nI s) ∧ Kept w w'
set_option maxRecDepth 100000 in
set_option maxHeartbeats 4000000 in
theorem byDay_any (a : Option Addr) (l : List Mv) (cap : Nat) (w : World) (hl : l.length ≤ 40) (hA : JArg eP w a l) :
    Calls Try.prog 47 #[.slice a l.length cap] w (DayPost w (srtN l)) := by
  have kB := (Kept.refl w).alloc (.cells #[.slice a l.length cap] 22)
  have cB : (w.alloc (.cells #[.slice a l.length cap] 22)).cell? ⟨w.heap.size, 0, none⟩ = some (.slice a l.length cap) := by simp
  have CK := Lib.hid (byDay1_any a l cap w.heap.size (w.alloc (.cells #[.slice a l.length cap] 22)) (by omega) (hA.later kB) (by simp) cB)
  have bl : w.heap.size < (w.alloc (.cells #[.slice a l.length cap] 22)).heap.size := by simp
  have SL := Lib.hid (srtN_len l)
  have OE := Lib.hid (fun d (o : Ordered (dyT l) l.length d) => ordered_eq l d o.1 o.2)
  generalize srtN l = s at *
  generalize dyT l = ky at *
  have KB := Lib.hid kB
  have mk := make_ints l.length (by omega) (w.alloc (.cells #[.slice a l.length cap] 22))
  clear hA kB
  go_enter Try.func47, Try.ntmps47
  go_upto_region 1 with fail
  generalize hW : w.alloc (.cells #[.slice a l.length cap] 22) = w1 at *
  generalize hbx : w.heap.size = bx at *
  have HBX := Lib.hid hbx
  clear hbx
  clear hW
  go_wp2
  have hO := Own.made (w := w1) (n := l.length) (t := 3) rfl
  have hK := (Kept.refl w1).alloc (.cells (zs l.length) 3)
  have hg : w1.heap.size ≤ w1.heap.size := Nat.le_refl _
  have cB2 : (w1.alloc (.cells (zs l.length) 3)).cell? ⟨bx, 0, none⟩ = some (.slice a l.length cap) := (hK.rd.1 _ _ bl).trans cB
  rw [tab_zero] at hO
  clear mk
  generalize w1.alloc (.cells (zs l.length) 3) = w2 at *
  generalize hgd : w1.heap.size = g at *
  have gw : w1.heap.size ≤ g := by omega
  have HGD := Lib.hid hgd
  clear hgd
  go_loopw [10] (fun i wr => ∃ k : Nat, k ≤ l.length ∧ i = .int .i64 k ∧ Own wr g (tab l.length (mix idn (fun _ => 0) k)) ∧ Kept w1 wr) (fun i _ => (l.length - intOf i).toNat)
  case atStart => exact ⟨0, by omega, rfl, by rw [mix_zero]; exact hO, hK⟩
  case round =>
    clear hO hK cB2
    obtain ⟨k, hk, rfl, hOr, hKr⟩ := hrel
    by_cases hlt : k < l.length
    · have hO2 := hOr.set k (idn k) (by rw [tab_len]; exact hlt)
      rw [tab_set, mix_set] at hO2
      have hc := hOr.cell k (by rw [tab_len]; exact hlt)
      have hf := hOr.free k (by rw [tab_len]; exact hlt)
      have HO := Lib.hid hO2
      have i1 : (k : Int) < (l.length : Int) := by omega
      clear hO2 hOr
      unfold idn at HO
      go_wp2
      go_roundw
      case rel => exact ⟨k + 1, by omega, by go_num, HO.out, hKr.setAt gw _⟩
      case measure => simp [intOf]; omega
    · obtain rfl : k = l.length := by omega
      rw [mix_end] at hOr
      have SS := Lib.hid (sortStable_any g l.length bx ky w1 wr hl CK.out hOr gw hKr)
      clear hlt hOr
      go_wp2_with fail
      refine SS.out.mono ?_
      rintro e w3 ⟨d, rfl, hO3, hK3, hR⟩
      have HE := Lib.hid (OE.out d hR)
      have e1 : tab l.length d = nI s := HE.out
      rw [e1] at hO3
      have hbg : w.heap.size ≤ g := by have := HGD.out; have := KB.out.size; omega
      go_wp2
      go_ret
      exact ⟨g, by rw [SL.out]; rfl, hbg, hO3, KB.out.trans hK3⟩
end Go.Proofs.Ytdgiljndoeldcaa
