/-
  What the reference's Pay returns. No condition but those that each theorem names.
-/
import Derived.Test.YtdgiljndoeldcaaGRefS
import Derived.Test.YtdgiljndoeldcaaGSum
namespace Go.Proofs.Ytdgiljndoeldcaa
open Go.RowKit Go.WideShapes
set_option linter.unusedVariables false

theorem isItemR : IsE eP 31 (.agg #[.int .i64 0, .int .i64 0]) 16 := by unfold IsE; kernel_rfl
/-- What is left, by sums from the front. -/
def rpF (s n : Int) : List Mv → List Mv
  | [] => []
  | x :: r => if n < s + x.2 then (x.1, min x.2 (s + x.2 - n)) :: rpF (s + x.2) n r else rpF (s + x.2) n r
theorem rpF_snoc (n : Int) (x : Mv) : ∀ (m : List Mv) (s : Int), rpF s n (m ++ [x]) = rpF s n m ++ (if n < s + csm m + x.2 then [(x.1, min x.2 (s + csm m + x.2 - n))] else [])
  | [], s => by
    rw [List.nil_append, rpF, csm, Int.add_zero]
    rfl
  | y :: r, s => by
    have i := rpF_snoc n x r (s + y.2)
    rw [List.cons_append, rpF, rpF, i, csm, show s + y.2 + csm r = s + (y.2 + csm r) by omega]
    split
    · rfl
    · rfl
theorem rpF_full {n : Int} : ∀ {m : List Mv} {s : Int}, (∀ x ∈ m, 1 ≤ x.2) → n ≤ s → rpF s n m = m
  | [], _, _, _ => rfl
  | x :: r, s, h, hs => by
    have hx := h x (List.mem_cons_self ..)
    rw [rpF, if_pos (by omega), show min x.2 (s + x.2 - n) = x.2 by omega, rpF_full (fun y hy => h y (List.mem_cons_of_mem _ hy)) (by omega)]
theorem rpF_pay {n : Int} : ∀ {m : List Mv} {s : Int}, (∀ x ∈ m, 1 ≤ x.2) → s ≤ n → rpF s n m = payL m (n - s)
  | [], _, _, _ => rfl
  | x :: r, s, h, hs => by
    have hx := h x (List.mem_cons_self ..)
    have hr : ∀ y ∈ r, 1 ≤ y.2 := fun y hy => h y (List.mem_cons_of_mem _ hy)
    rw [rpF]
    by_cases c : x.2 ≤ n - s
    · rw [if_neg (by omega), (pay_le c).1, rpF_pay hr (by omega), show n - (s + x.2) = n - s - x.2 by omega]
    · rw [if_pos (by omega), (pay_gt c).1, rpF_full hr (by omega), show min x.2 (s + x.2 - n) = x.2 - (n - s) by omega]
theorem rpF_len (n : Int) : ∀ (m : List Mv) (s : Int), (rpF s n m).length ≤ m.length
  | [], _ => Nat.le_refl _
  | x :: r, s => by
    have := rpF_len n r (s + x.2)
    rw [rpF]
    split
    · rw [List.length_cons, List.length_cons]; omega
    · rw [List.length_cons]; omega
def RPayPost (w : World) (m : List Mv) (r : Int) (e : Ending) (w' : World) : Prop :=
  ∃ a c, e = .returned (.tuple #[.slice a m.length c, .int .i64 r]) ∧ JArg eP w' a m ∧ Kept w w'
set_option maxRecDepth 100000 in
set_option maxHeartbeats 8000000 in
theorem rpay_any (a : Option Addr) (l : List Mv) (cap : Nat) (n : Int) (w : World) (hA : JArg eP w a l) (ok : ItOk l) (n0 : 0 ≤ n) (n1 : n ≤ 1000000000000) :
    Calls Try.prog 19 #[.slice a l.length cap, .int .i64 n] w (RPayPost w (payL (srtD l) n) (payR (srtD l) n)) := by
  have l40 : l.length ≤ 40 := ok.len
  have SR := Lib.hid (rsorted_any a l cap w l40 hA)
  have LA := Lib.hid (srtN_len l)
  have LT := Lib.hid (fun (k : Nat) (hk : k < (srtN l).length) => srtN_lt l (List.getElem_mem hk))
  have MG := Lib.hid (fun (k : Nat) (hk : k < (srtN l).length) => show ∃ h : k < (srtD l).length, (srtD l)[k] = itN l (srtN l)[k] from by
    have e := srtN_map l
    refine ⟨by rw [← e, List.length_map]; exact hk, ?_⟩
    simp only [← e, List.getElem_map])
  have pos : ∀ x ∈ srtD l, 1 ≤ x.2 := fun x hx => (ok.it x ((srtD_perm l).subset hx)).2.2.1
  have ml : (srtD l).length = l.length := (srtD_perm l).length_eq
  have e1 : rpF 0 n (srtD l) = payL (srtD l) n := by rw [rpF_pay pos n0, Int.sub_zero]
  have e2 : payR (srtD l) n = max 0 (n - csm (srtD l)) := payR_max pos n0
  have b := ItOk.csm ok.it
  have ITA := Lib.hid ok.it
  have CS := Lib.hid (fun j (h : j ≤ (srtD l).length) => show 0 ≤ csm ((srtD l).take j) ∧ csm ((srtD l).take j) ≤ 40000000000000 from by
    have e := csm_app ((srtD l).take j) ((srtD l).drop j)
    rw [List.take_append_drop] at e
    have := (csm0 (l := (srtD l).take j) (fun x hx => pos x (List.mem_of_mem_take hx))).1
    have := (csm0 (l := (srtD l).drop j) (fun x hx => pos x (List.mem_of_mem_drop hx))).1
    have := csm_perm (srtD_perm l)
    omega)
  have HA := Lib.hid hA
  rw [← e1, e2]
  have ML := Lib.hid ml
  clear hA ok pos e1 e2 b ml
  generalize srtD l = m at *
  go_enter Try.func19, Try.ntmps19
  go_wp2_with fail
  refine SR.out.mono ?_
  rintro e w1 ⟨aS, cS, rfl, hQs, hK1⟩
  rw [← nJ_len] at hQs
  have HQs := Lib.hid hQs.arg
  rw [LA.out]
  clear SR hQs
  go_wp2
  go_loopw [6, 7, 14] (fun v s i wr => ∃ k : Nat, k ≤ l.length ∧ i = .int .i64 k ∧ s = .int .i64 (csm (m.take k)) ∧ QRow eP w1.heap.size wr v (rpF 0 n (m.take k)) ∧ Kept w1 wr) (fun _ _ i _ => l.length - (intOf i).toNat)
  case atStart => exact ⟨0, Nat.zero_le _, rfl, rfl, QRow.nil _ _ _, Kept.refl _⟩
  case round =>
    obtain ⟨k, hk, rfl, rfl, hQ, hK⟩ := hrel
    by_cases hlt : k < l.length
    · have hks : k < (srtN l).length := by rw [LA.out]; exact hlt
      obtain ⟨p1, off1, rfl, hS⟩ := (HQs.out.later hK).at (j := k) (by rw [nJ_len]; exact hks)
      have c0 := hS.i k (by rw [nJ_len]; exact hks)
      rw [nJ_get] at c0
      have ilt := LT.out k hks
      obtain ⟨hkm, em⟩ := MG.out k hks
      rw [itN_get l _ ilt] at em
      obtain ⟨p, off, rfl, hR⟩ := (HA.out.later (hK1.trans hK)).at ilt
      have v0 := hR.c0 _ ilt
      have v1 := hR.c1 _ ilt
      have IT := ITA.out _ (List.getElem_mem ilt)
      have b0 := CS.out k (by omega)
      have b1 := CS.out (k + 1) (by omega)
      have TK := Lib.hid (show m.take (k + 1) = m.take k ++ [m[k]] from take_snocP m k hkm)
      have CN := Lib.hid (show csm (m.take (k + 1)) = csm (m.take k) + (m[k]).2 by rw [TK.out, csm_app, csm, csm]; omega)
      have RS := Lib.hid (show rpF 0 n (m.take (k + 1)) = rpF 0 n (m.take k) ++ (if n < csm (m.take k) + (m[k]).2 then [((m[k]).1, min (m[k]).2 (csm (m.take k) + (m[k]).2 - n))] else []) from by
        rw [TK.out, rpF_snoc, Int.zero_add])
      rw [CN.out] at b1
      have RL := Lib.hid (show (rpF 0 n (m.take k)).length ≤ 40 by have := rpF_len n (m.take k) 0; rw [List.length_take] at this; omega)
      rw [em] at CN RS b1
      clear hS em TK
      have plt := hR.lt
      have k1 : (k : Int) < (l.length : Int) := by omega
      have HKW := Lib.hid (hK1.trans hK)
      clear hR
      generalize (srtN l)[k] = i at *
      have i1 : (i : Int) < (l.length : Int) := by omega
      generalize l[i] = x at *
      generalize csm (m.take k) = s at *
      generalize rpF 0 n (m.take k) = ro at *
      have u1 : IntKind.i64.wrap (s + x.2) = s + x.2 := IntWalk.i64_in _ (by omega)
      have kB := (Kept.refl wr).alloc (.cells #[.int .i64 x.1, .int .i64 x.2] 31)
      have bx0 : (wr.alloc (.cells #[.int .i64 x.1, .int .i64 x.2] 31)).cell? ⟨wr.heap.size, 0, none⟩ = some (.int .i64 x.1) := by simp
      have bx1 : (wr.alloc (.cells #[.int .i64 x.1, .int .i64 x.2] 31)).cell? ⟨wr.heap.size, 1, none⟩ = some (.int .i64 x.2) := by simp
      have bf1 : (wr.alloc (.cells #[.int .i64 x.1, .int .i64 x.2] 31)).frozen? ⟨wr.heap.size, 1, none⟩ = false := by simp
      have hQ2 := Lib.hid (hQ.later kB)
      have hK2 := Lib.hid (hK.trans kB)
      have bxl : wr.heap.size < (wr.alloc (.cells #[.int .i64 x.1, .int .i64 x.2] 31)).heap.size := by simp
      have w1l : w1.heap.size ≤ wr.heap.size := hK.size
      have vlt := Lib.hid hQ.lt
      clear hQ hK kB
      by_cases c : n < s + x.2
      · rw [if_pos c] at RS
        have u2 : IntKind.i64.wrap (s + x.2 - n) = s + x.2 - n := IntWalk.i64_in _ (by omega)
        go_upto_region 7 with fail
        generalize wr.alloc (.cells #[.int .i64 x.1, .int .i64 x.2] 31) = wa at *
        generalize hbx : wr.heap.size = bx at *
        have HBX := Lib.hid hbx
        clear hbx v0 v1 c0
        go_upto_region 10 with fail
        generalize min x.2 (s + x.2 - n) = mn at *
        have gs := grownBy_setAt wa bx 1 (.int .i64 mn)
        have hQ3 := hQ2.out.grown gs (fun z e e2 => by
          have := (vlt.out z e).2
          have := HBX.out
          have e3 : bx = z := by simpa using e2
          omega)
        have hK3 := hK2.out.setAt (b := bx) (i := 1) (by have := HBX.out; omega) (.int .i64 mn)
        have d1 : (wa.setCell ⟨bx, 1, none⟩ (.int .i64 mn)).cell? ⟨bx, 1, none⟩ = some (.int .i64 mn) := World.cell?_setCell_same _ _ _ bx1
        have d0 : (wa.setCell ⟨bx, 1, none⟩ (.int .i64 mn)).cell? ⟨bx, 0, none⟩ = some (.int .i64 x.1) := by
          rw [World.cell?_setCell_other _ _ _ _ (fun q => by have := congrArg Addr.off q; simp at this)]; exact bx0
        clear gs bx0 bx1 bf1 hQ2 hK2
        generalize wa.setCell ⟨bx, 1, none⟩ (.int .i64 mn) = wb at *
        have NC := Lib.hid (JBx.new (w := wb) rfl (x.1, mn) 31).cells
        have kC := (Kept.refl wb).alloc (.cells #[.int .i64 x.1, .int .i64 mn] 31)
        have hQ4 := hQ3.later kC
        have hK4 := hK3.trans kC
        go_wp2_with (at_builtin; refine app_q eP 31 22 _ 16 isItemR rfl (by decide) Try.underlying22 rfl _ _ rfl (z := (x.1, mn)) rfl rfl hQ4 NC.out (by have := RL.out; omega) (by have := hK4.size; omega) ?_)
        intro v' w6 hQ6 hgr hmv
        have hK6 := hQ4.kept (Nat.le_refl _) hK4 hgr
        rw [← RS.out] at hQ6
        clear hQ4 hK4 hgr hmv hQ3 hK3 kC d0 d1
        go_wp2
        go_roundw
        case rel => exact ⟨k + 1, by omega, by go_num, by rw [CN.out], hQ6, hK6⟩
        case measure => simp [intOf]; omega
      · rw [if_neg c, List.append_nil] at RS
        have cb : decide (n < s + x.2) = false := by simpa using c
        clear c
        go_wp2
        go_roundw
        case rel => exact ⟨k + 1, by omega, by go_num, by rw [CN.out], by rw [RS.out]; exact hQ2.out, hK2.out⟩
        case measure => simp [intOf]; omega
    · obtain rfl : k = l.length := by omega
      have e3 : m.take l.length = m := by rw [← ML.out, List.take_length]
      have b0 := CS.out l.length (by rw [ML.out]; exact Nat.le_refl _)
      rw [e3] at hQ b0 ⊢
      obtain ⟨a5, c5, rfl, q1, q2, q3⟩ := id hQ.is
      have HQ := Lib.hid hQ.arg
      have u1 : IntKind.i64.wrap (n - csm m) = n - csm m := IntWalk.i64_in _ (by omega)
      have hKK := hK1.trans hK
      clear hlt hQ q3 hK hK1
      go_wp2
      go_ret2
      exact ⟨a5, c5, rfl, HQ.out, hKK⟩
end Go.Proofs.Ytdgiljndoeldcaa
