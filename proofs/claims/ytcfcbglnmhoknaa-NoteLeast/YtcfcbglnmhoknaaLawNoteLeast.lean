/-
  The law NoteLeast returns true: the least payment repays the loan in time, and one unit less does not. No condition.
-/
import Derived.Test.YtcfcbglnmhoknaaKWalkB
namespace Go.Proofs.Ytcfcbglnmhoknaa
open Go.RowKit

theorem lst_34 : Lst 0 100 3 34 := Lst.of (by omega) (by omega) (by omega) (by decide) (.inr (by decide))
/-- The payment suffices. -/
theorem lst_rows {r L p : Int} {n : Nat} (h : Lst r L n p) (o : okL L r = true) (p2 : p ≤ 2000000000000) (n40 : n ≤ 40) : erL L r p = 0 ∧ cnt r p 40 L ≤ n := by
  have p1 := h.one
  have e : erL L r p = 0 := by
    by_cases c : erL L r p = 0
    · exact c
    · have := paid_no o p1 p2 n40 c
      unfold paid at this
      rw [decide_eq_false_iff_not] at this
      exact absurd h.pays this
  exact ⟨e, (cnt_iff (by omega) 40 n (erL_yes e).2.2.2.2).2 h.pays⟩
/-- One unit less does not. -/
theorem lst_less {r L p : Int} {n : Nat} (h : Lst r L n p) (o : okL L r = true) (p1 : p ≠ 1) (p2 : p ≤ 2000000000000) : (erL L r (p - 1) = 0 ∧ n < cnt r (p - 1) 40 L) ∨ erL L r (p - 1) = 7 ∨ erL L r (p - 1) = 2 := by
  have p0 := h.one
  have b := h.less (p - 1) (by omega) (by omega)
  by_cases e : erL L r (p - 1) = 0
  · refine .inl ⟨e, ?_⟩
    by_cases c : n < cnt r (p - 1) 40 L
    · exact c
    · exact absurd ((cnt_iff (by omega) 40 n (erL_yes e).2.2.2.2).1 (by omega)) b
  · right
    have F : erL L r (p - 1) = if 0 < L ∧ p - 1 ≤ itR r L then 7 else if bal r (p - 1) L 40 = 0 then 0 else 2 := by unfold erL; rw [if_pos ⟨o, by omega, by omega⟩]
    by_cases c1 : 0 < L ∧ p - 1 ≤ itR r L
    · left; rw [F, if_pos c1]
    · by_cases c2 : bal r (p - 1) L 40 = 0
      · exact absurd (by rw [F, if_neg c1, if_pos c2]) e
      · right; rw [F, if_neg c1, if_neg c2]
set_option maxRecDepth 100000 in
set_option maxHeartbeats 4000000 in
theorem noteLeast_walk (L r n0 : Int) (w : World) :
    Calls Try.prog 5 #[.int .i64 L, .int .i64 r, .int .i64 n0] w fun e w' => e = .returned (.bool true) ∧ Kept w w' := by
  by_cases ok : okL L r = true ∧ 1 ≤ n0 ∧ n0 ≤ 40
  · obtain ⟨o, h1, h2⟩ := ok
    obtain ⟨n, rfl⟩ := Int.eq_ofNat_of_zero_le (show 0 ≤ n0 by omega)
    have n1 : 1 ≤ n := by omega
    have n40 : n ≤ 40 := by omega
    have O := Lib.hid o
    clear o h1 h2
    go_enter Try.func5, Try.ntmps5
    go_wp2_with fail
    refine (least_yes 100 0 3 _ (by decide) (by omega) (by omega)).mono ?_
    rintro e w1 ⟨p, hp, pb, rfl, hK1⟩
    obtain rfl := hp.eq lst_34
    clear hp pb
    go_wp2_with fail
    refine (least_yes _ _ n _ O.out n1 n40).mono ?_
    rintro e w2 ⟨p, hp, pb, rfl, hK2⟩
    have hK := hK1.trans hK2
    have p1 := hp.one
    obtain ⟨e0, cn⟩ := lst_rows hp O.out pb n40
    have E := Lib.hid e0
    have P := Lib.hid hp
    clear hK1 hK2 hp e0
    go_wp2_with fail
    refine (rows_yes _ _ _ _ E.out).mono ?_
    rintro e w3 ⟨a, c, rfl, _, hK3⟩
    have hK4 := hK.trans hK3
    clear hK hK3
    generalize cnt r p 40 L = m at *
    by_cases q : p = 1
    · have q' : (p == 1) = true := by rw [beq_iff_eq]; exact q
      clear q
      go_wp2
      go_ret
      exact ⟨rfl, hK4⟩
    · have q' : (p == 1) = false := by rw [beq_eq_false_iff_ne]; exact q
      have D := lst_less P.out O.out q pb
      clear q
      go_wp2_with fail
      rcases D with ⟨d0, d1⟩ | d | d
      · have D0 := Lib.hid d0
        clear d0
        refine (rows_yes _ _ _ _ D0.out).mono ?_
        rintro e w5 ⟨a', c', rfl, _, hK5⟩
        generalize cnt r (p - 1) 40 L = m' at *
        go_wp2
        go_ret
        exact ⟨rfl, hK4.trans hK5⟩
      · have D0 := Lib.hid d
        clear d
        refine (rows_no _ _ _ _ (by rw [D0.out]; omega)).mono ?_
        rw [D0.out]
        rintro e w5 ⟨rfl, hK5⟩
        go_wp2
        go_ret
        exact ⟨rfl, hK4.trans hK5⟩
      · have D0 := Lib.hid d
        clear d
        refine (rows_no _ _ _ _ (by rw [D0.out]; omega)).mono ?_
        rw [D0.out]
        rintro e w5 ⟨rfl, hK5⟩
        go_wp2
        go_ret
        exact ⟨rfl, hK4.trans hK5⟩
  · have o : okL L r = false ∨ n0 < 1 ∨ 40 < n0 := by
      cases e : okL L r
      · exact .inl rfl
      · rw [e] at ok; simp at ok; omega
    have O := Lib.hid o
    clear ok o
    go_enter Try.func5, Try.ntmps5
    go_wp2_with fail
    refine (least_yes 100 0 3 _ (by decide) (by omega) (by omega)).mono ?_
    rintro e w1 ⟨p, hp, pb, rfl, hK1⟩
    obtain rfl := hp.eq lst_34
    clear hp pb
    go_wp2_with fail
    refine (least_no _ _ _ _ O.out).mono ?_
    rintro e w2 ⟨rfl, hK2⟩
    go_wp2
    go_ret
    exact ⟨rfl, hK1.trans hK2⟩

end Go.Proofs.Ytcfcbglnmhoknaa
