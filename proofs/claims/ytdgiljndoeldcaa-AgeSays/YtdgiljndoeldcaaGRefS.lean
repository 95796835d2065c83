/-
  What the reference's Sorted returns. No condition but those that each theorem names.
-/
import Derived.Test.YtdgiljndoeldcaaGIns
import Derived.Test.YtdgiljndoeldcaaGOrd
import Derived.Test.YtdgiljndoeldcaaGRefA
namespace Go.Proofs.Ytdgiljndoeldcaa
open Go.RowKit Go.WideShapes
set_option linter.unusedVariables false

theorem insN_at {l : List Mv} {x : Nat} : ∀ {s : List Nat} {k : Nat}, k ≤ s.length → (∀ y ∈ s.drop k, (itN l x).1 < (itN l y).1) → (∀ y ∈ s.take k, (itN l y).1 ≤ (itN l x).1) → insN l x s = s.take k ++ x :: s.drop k
  | [], k, hk, _, _ => by
    have : k = 0 := by simpa using hk
    subst this; rfl
  | y :: r, 0, hk, h1, h2 => by
    have := h1 y (List.mem_cons_self ..)
    unfold insN
    rw [if_pos this]; rfl
  | y :: r, k + 1, hk, h1, h2 => by
    have := h2 y (by simp)
    unfold insN
    rw [if_neg (by omega), insN_at (k := k) (by simpa using hk) (fun z hz => h1 z (by simpa using hz)) (fun z hz => h2 z (by simp [hz]))]
    rfl
theorem srtK_days (l : List Mv) (j : Nat) : (srtK l j).Pairwise (fun a b => (itN l a).1 ≤ (itN l b).1) :=
  (srtK_all l j).2.imp (fun {a b} h => by unfold lN at h; omega)
theorem srtK_mem (l : List Mv) (j : Nat) {x : Nat} (h : x ∈ srtK l j) : x < j := List.mem_range.1 ((srtK_all l j).1.subset h)
/-- Where it goes. -/
theorem srtK_at {l : List Mv} {j k : Nat} (hk : k ≤ (srtK l j).length) (h1 : ∀ y ∈ (srtK l j).drop k, (itN l j).1 < (itN l y).1) (h2 : k = 0 ∨ ∃ h : k - 1 < (srtK l j).length, (itN l ((srtK l j)[k - 1])).1 ≤ (itN l j).1) :
    srtK l (j + 1) = (srtK l j).take k ++ j :: (srtK l j).drop k := by
  rw [srtK_succ]
  refine insN_at hk h1 (fun y hy => ?_)
  rcases h2 with e | ⟨h, h2⟩
  · subst e; cases hy
  · obtain ⟨q, hq, rfl⟩ := List.getElem_of_mem hy
    rw [List.length_take] at hq
    rw [List.getElem_take]
    by_cases c : q = k - 1
    · subst c; omega
    · have := List.pairwise_iff_getElem.1 (srtK_days l j) q (k - 1) (by omega) h (by omega)
      omega
def nJ (s : List Nat) : List Int := s.map (fun (i : Nat) => (i : Int))
theorem nJ_len (s : List Nat) : (nJ s).length = s.length := by simp [nJ]
theorem nJ_get (O : List Nat) (k : Nat) (h : k < (nJ O).length) : (nJ O)[k] = ((O[k]'(by rw [nJ_len] at h; exact h) : Nat) : Int) := by simp [nJ]
theorem nJ_ins (s : List Nat) (k z : Nat) : insAt (nJ s) k (z : Int) = nJ (s.take k ++ z :: s.drop k) := by
  unfold insAt nJ
  rw [List.map_append, List.map_cons, List.map_take, List.map_drop]
/-- Places, as a row of the call's own. -/
def SrPost (w : World) (s : List Nat) (e : Ending) (w' : World) : Prop := ∃ a c, e = .returned (.slice a s.length c) ∧ QRow eI w.heap.size w' (.slice a s.length c) (nJ s) ∧ Kept w w'
set_option maxRecDepth 100000 in
set_option maxHeartbeats 8000000 in
theorem rsorted_any (a : Option Addr) (l : List Mv) (cap : Nat) (w : World) (hl : l.length ≤ 40) (hA : JArg eP w a l) :
    Calls Try.prog 46 #[.slice a l.length cap] w (SrPost w (srtN l)) := by
  have HA := Lib.hid hA
  have SE := Lib.hid (show srtK l l.length = srtN l from rfl)
  clear hA
  go_enter Try.func46, Try.ntmps46
  go_wp2
  go_loopw [3, 8] (fun v i wr => ∃ j : Nat, j ≤ l.length ∧ i = .int .i64 j ∧ QRow eI w.heap.size wr v (nJ (srtK l j)) ∧ Kept w wr) (fun _ i _ => l.length - (intOf i).toNat)
  case atStart => exact ⟨0, Nat.zero_le _, rfl, QRow.nil _ _ _, Kept.refl _⟩
  case round =>
    obtain ⟨j, hj, rfl, hQ, hK⟩ := hrel
    have sl := srtK_len l j
    by_cases hlt : j < l.length
    · obtain ⟨p, off, rfl, hR⟩ := (HA.out.later hK).at hlt
      have cj := hR.c0 j hlt
      have hi2 := itN_get l j hlt
      have j1 : (j : Int) < (l.length : Int) := by omega
      obtain ⟨av, cv, rfl, q1, q2, q3⟩ := id hQ.is
      have hArg : JArg eI wr av (nJ (srtK l j)) := hQ.arg
      rw [nJ_len, sl] at hQ ⊢
      have HQ := Lib.hid hQ
      have HG := Lib.hid hArg
      have AT := Lib.hid (fun k (hk : k ≤ (srtK l j).length) h1 h2 => srtK_at (l := l) (j := j) (k := k) hk h1 h2)
      have MEM := Lib.hid (fun k (hk : k < (srtK l j).length) => srtK_mem l j (List.getElem_mem hk))
      have SL := Lib.hid sl
      have HK := Lib.hid hK
      clear hQ hArg q1 q3 sl hK
      generalize hss : srtK l j = s at *
      have HSS := Lib.hid hss
      clear hss
      go_wp2
      go_loopw [5] (fun i wq => ∃ (k q : Nat), k ≤ j ∧ i = .int .i64 k ∧ Hid (∀ y ∈ s.drop k, (itN l j).1 < (itN l y).1) ∧ wq = wr.drewN q) (fun i _ => (intOf i).toNat)
      case atStart => exact ⟨j, 0, Nat.le_refl _, rfl, Lib.hid (fun y hy => by rw [← SL.out, List.drop_length] at hy; cases hy), rfl⟩
      case round =>
        obtain ⟨k, q, hk, rfl, HD, rfl⟩ := hrel
        have fin : (k = 0 ∨ ∃ h : k - 1 < s.length, (itN l (s[k - 1])).1 ≤ (itN l j).1) → Hid (srtK l (j + 1) = s.take k ++ j :: s.drop k) := fun h2 => Lib.hid (AT.out k (by rw [SL.out]; exact hk) HD.out h2)
        have FIN := Lib.hid fin
        clear fin
        by_cases k0 : 0 < k
        · have hks : k - 1 < s.length := by rw [SL.out]; omega
          obtain ⟨p2, off2, rfl, hS⟩ := HG.out.at (j := k - 1) (by rw [nJ_len]; exact hks)
          have c0 := hS.i (k - 1) (by rw [nJ_len]; exact hks)
          rw [nJ_get] at c0
          have ylt := MEM.out (k - 1) hks
          have DN := Lib.hid (fun (lt : (itN l j).1 < (itN l (s[k - 1])).1) => show ∀ y ∈ s.drop (k - 1), (itN l j).1 < (itN l y).1 from fun y hy => by
            rw [List.drop_eq_getElem_cons hks] at hy
            rcases List.mem_cons.1 hy with rfl | hy
            · exact lt
            · rw [show k - 1 + 1 = k by omega] at hy; exact HD.out y hy)
          have FN := Lib.hid (fun (nlt : (itN l (s[k - 1])).1 ≤ (itN l j).1) => FIN.out (.inr ⟨hks, nlt⟩))
          have cy := hR.c0 (s[k - 1]) (by omega)
          have ey := itN_get l (s[k - 1]) (by omega)
          rw [← ey] at cy
          rw [hi2] at DN FN
          clear hS ey FIN
          generalize l[j] = x at *
          generalize itN l (s[k - 1]) = x' at *
          generalize s[k - 1] = y at *
          have hyl : y < l.length := by omega
          have y1 : (y : Int) < (l.length : Int) := by omega
          have k1 : (0 : Int) < (k : Int) := by omega
          have k2 : (k : Int) - 1 < (j : Int) := by omega
          have k3 : (1 : Int) ≤ (k : Int) := by omega
          have k4 : ((k : Int) - 1).toNat = k - 1 := by omega
          have k5 : IntKind.i64.wrap ((k : Int) - 1) = (k : Int) - 1 := IntWalk.i64_in _ (by omega)
          by_cases lt : x.1 < x'.1
          · have lb : decide (x.1 < x'.1) = true := by simpa using lt
            have D2 := Lib.hid (DN.out lt)
            clear DN FN lt
            go_wp2_with fail
            go_quiet (fail)
            go_wp2
            go_roundw
            case rel => exact ⟨k - 1, q + nq, by omega, by congr 1; omega, Lib.hid (by rw [hi2]; exact D2.out), rfl⟩
            case measure => simp [intOf]; omega
          · have lb : decide (x.1 < x'.1) = false := by simpa using lt
            have F2 := Lib.hid (FN.out (by omega)).out
            have KQ := Lib.hid (HK.out.drewN q)
            have QQ := Lib.hid (HQ.out.later ((Kept.refl wr).drewN q))
            clear DN FN lt
            go_wp2_with fail
            go_quiet (fail)
            have kw := HK.out.drewN (q + nq)
            have qw := HQ.out.later ((Kept.refl wr).drewN (q + nq))
            rw [← World.drewN_drewN] at kw qw
            clear cj c0 cy KQ QQ
            generalize (wr.drewN q).drewN nq = wz at *
            have GI := Lib.hid (gins_any _ (nJ s) k (j : Int) wz w (by
              have e : (nJ s).length = j := by rw [nJ_len, SL.out]
              rw [← e] at qw
              exact qw) kw (by rw [nJ_len, SL.out]; exact hk) (by rw [nJ_len, SL.out]; omega))
            rw [nJ_ins, ← F2.out, nJ_len, SL.out] at GI
            go_wp2_with fail
            refine GI.out.mono ?_
            rintro e w5 ⟨v5, rfl, hQ5, hK5⟩
            clear GI qw kw
            go_wp2
            go_roundw
            case rel => exact ⟨j + 1, by omega, by go_num, hQ5, hK5⟩
            case measure => simp [intOf]; omega
        · obtain rfl : k = 0 := by omega
          have F2 := Lib.hid (FIN.out (.inl rfl)).out
          have k1 : ¬ ((0 : Int) < ((0 : Nat) : Int)) := by omega
          clear k0 FIN
          go_wp2_with fail
          go_quiet (fail)
          have kw := HK.out.drewN (q + nq)
          have qw := HQ.out.later ((Kept.refl wr).drewN (q + nq))
          rw [← World.drewN_drewN] at kw qw
          clear cj
          generalize (wr.drewN q).drewN nq = wz at *
          have GI := Lib.hid (gins_any _ (nJ s) 0 (j : Int) wz w (by
            have e : (nJ s).length = j := by rw [nJ_len, SL.out]
            rw [← e] at qw
            exact qw) kw (Nat.zero_le _) (by rw [nJ_len, SL.out]; omega))
          rw [nJ_ins, ← F2.out, nJ_len, SL.out] at GI
          go_wp2_with fail
          refine GI.out.mono ?_
          rintro e w5 ⟨v5, rfl, hQ5, hK5⟩
          clear GI qw kw
          go_wp2
          go_roundw
          case rel => exact ⟨j + 1, by omega, by go_num, hQ5, hK5⟩
          case measure => simp [intOf]; omega
    · obtain rfl : j = l.length := by omega
      obtain ⟨av, cv, rfl, q1, q2, q3⟩ := id hQ.is
      rw [SE.out] at hQ ⊢
      rw [nJ_len] at hQ ⊢
      clear hlt q1 q3 sl
      go_wp2
      go_ret
      exact ⟨av, cv, rfl, hQ, hK⟩
end Go.Proofs.Ytdgiljndoeldcaa
