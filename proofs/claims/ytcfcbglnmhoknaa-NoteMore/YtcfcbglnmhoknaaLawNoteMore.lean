/-
  The law NoteMore returns true: a greater payment needs no more periods and no more interest; a greater rate needs no fewer and no less. No condition.
-/
import Derived.Test.YtcfcbglnmhoknaaKWalkB
import Derived.Test.YtcfcbglnmhoknaaKWalkC
namespace Go.Proofs.Ytcfcbglnmhoknaa
open Go.RowKit

theorem er_10 : erL 10 0 5 = 0 := erL_of (by decide) (by omega) (by omega) (by decide) (bal_stay (by omega) 2 (by decide) 40 (by omega))
theorem cnt_10 : cnt 0 5 40 10 = 2 := cnt_first 40 10 (by omega) (by decide) (by decide)
theorem sum_10 : sumTo (rwF 0 5 10).i 2 = 0 := by decide
theorem rw_bd {L r p : Int} (h : erL L r p = 0) (j : Nat) : 0 ≤ (rwF r p L).i j ∧ (rwF r p L).i j ≤ 1000000000000 := by
  obtain ⟨o, _, _, hi, _⟩ := erL_yes h
  obtain ⟨a0, a1, r0, r1⟩ := (okL_iff L r).1 o
  have f := (bal_falls a0 r0 hi j).1
  have n := bal_nonneg r p a0 j
  have i0 := itR_nonneg n r0
  have i1 := itR_le n r1
  show 0 ≤ itR r (bal r p L j) ∧ itR r (bal r p L j) ≤ 1000000000000
  exact ⟨i0, by omega⟩
theorem more_facts {L r s p q : Int} (h : erL L r p = 0) (k : erL L s q = 0) (rs : r ≤ s) (qp : q ≤ p) : cnt r p 40 L ≤ cnt s q 40 L ∧ sumTo (rwF r p L).i (cnt r p 40 L) ≤ sumTo (rwF s q L).i (cnt s q 40 L) := by
  obtain ⟨o, p1, _, hi, hb⟩ := erL_yes h
  obtain ⟨_, _, _, _, hc⟩ := erL_yes k
  obtain ⟨a0, a1, r0, r1⟩ := (okL_iff L r).1 o
  have B := fun j => bal_mono (p := p) (q := q) a0 (Int.le_refl L) r0 rs qp j
  have c : cnt r p 40 L ≤ cnt s q 40 L := by
    refine (cnt_iff (by omega) 40 _ hb).2 ?_
    have e := cnt_end 40 L hc
    have b := B (cnt s q 40 L)
    have n := bal_nonneg r p a0 (cnt s q 40 L)
    omega
  refine ⟨c, sum_less c (fun j => (rw_bd k j).1) (fun j _ => ?_)⟩
  exact itR_mono (B j) (bal_nonneg r p a0 j) r0 rs
theorem more_pays {L r p q : Int} (h : erL L r p = 0) (pq : p ≤ q) (q2 : q ≤ 2000000000000) : erL L r q = 0 := by
  obtain ⟨o, p1, _, hi, hb⟩ := erL_yes h
  obtain ⟨a0, a1, r0, r1⟩ := (okL_iff L r).1 o
  have B := bal_mono (p := q) (q := p) a0 (Int.le_refl L) r0 (Int.le_refl r) pq 40
  have n := bal_nonneg r q a0 40
  exact erL_of o (by omega) q2 (by omega) (by omega)
theorem le_or {x y : Int} (h : ¬ x < y) : y ≤ x := by omega
set_option maxRecDepth 100000 in
set_option maxHeartbeats 4000000 in
theorem noteMore_walk (L r p m0 u0 : Int) (w : World) :
    Calls Try.prog 6 #[.int .i64 L, .int .i64 r, .int .i64 p, .int .i64 m0, .int .i64 u0] w fun e w' => e = .returned (.bool true) ∧ Kept w w' := by
  have R10 := Lib.hid (fun w => rows_yes 10 0 5 w er_10)
  by_cases h : erL L r p = 0
  · have E := Lib.hid h
    obtain ⟨o, p1, p2, _, _⟩ := erL_yes h
    obtain ⟨a0, a1, r0, r1⟩ := (okL_iff L r).1 o
    have cl := cnt_le r p 40 L
    clear h o
    go_enter Try.func6, Try.ntmps6
    go_wp2_with fail
    refine (R10.out _).mono ?_
    rintro e w1 ⟨a, c, rfl, hG, hK1⟩
    rw [cnt_10] at hG ⊢
    go_wp2_with fail
    refine (rint_any _ _ _ (rwF 0 5 10) _ (by omega) (fun j _ => by have := rw_bd er_10 j; omega) hG.arg).mono ?_
    rw [sum_10]
    rintro e w2 ⟨rfl, hK2⟩
    have hK := hK1.trans hK2
    clear hK1 hK2 hG
    go_wp2_with fail
    refine (rows_yes _ _ _ _ E.out).mono ?_
    rintro e w3 ⟨a, c, rfl, hG3, hK3⟩
    have hK4 := hK.trans hK3
    have hA := hG3.arg
    clear hK hK3 hG3
    go_wp2_with fail
    refine (within_any _ _ _ (by omega) (by omega)).mono ?_
    rintro e w4 ⟨s, s1, s2, rfl, rfl⟩
    have E2 := Lib.hid (more_pays E.out (show p ≤ p + s by omega) (by omega))
    have F2 := Lib.hid (more_facts E2.out E.out (Int.le_refl r) (by omega))
    go_wp2_with fail
    refine (rows_yes _ _ _ _ E2.out).mono ?_
    rintro e w5 ⟨a', c', rfl, hG5, hK5⟩
    have cl2 := cnt_le r (p + s) 40 L
    have hA5 := hA.later hK5
    have hB5 := hG5.arg
    have hK6 := hK4.trans hK5
    have f2 := F2.out
    have I1 := Lib.hid (fun w (k : RArg w a (cnt r p 40 L) (rwF r p L)) => rint_any a _ c _ w (by omega) (fun j _ => by have := rw_bd E.out j; omega) k)
    have I2 := Lib.hid (fun w (k : RArg w a' (cnt r (p + s) 40 L) (rwF r (p + s) L)) => rint_any a' _ c' _ w (by omega) (fun j _ => by have := rw_bd E2.out j; omega) k)
    have M3 := Lib.hid (fun t (ht : r ≤ t) (k : erL L t p = 0) => more_facts E.out k ht (Int.le_refl p))
    clear hA hG5 hK4 hK5 F2
    generalize sumTo (rwF r (p + s) L).i (cnt r (p + s) 40 L) = y2 at *
    generalize sumTo (rwF r p L).i (cnt r p 40 L) = y1 at *
    generalize cnt r (p + s) 40 L = n2 at *
    generalize cnt r p 40 L = n1 at *
    generalize rwF r p L = R1 at *
    generalize rwF r (p + s) L = R2 at *
    go_wp2_with fail
    refine (I2.out _ hB5).mono ?_
    rintro e w6 ⟨rfl, hK7⟩
    have hA7 := hA5.later hK7
    have hK8 := hK6.trans hK7
    clear hA5 hB5 hK6 hK7
    go_wp2_with fail
    refine (I1.out _ hA7).mono ?_
    rintro e w7 ⟨rfl, hK9⟩
    have hA9 := hA7.later hK9
    have hK10 := hK8.trans hK9
    clear hA7 hK8 hK9
    go_wp2_with fail
    refine (within_any _ _ _ (by omega) (by omega)).mono ?_
    rintro e w8 ⟨u, u1, u2, rfl, rfl⟩
    rcases (show 1000000 < r + u ∨ 1000000 = r + u ∨ r + u < 1000000 by omega) with z | z | z
    · have HW := Lib.hid (fun w => rows_any L 1000000 p w)
      have M := Lib.hid (fun k => M3.out 1000000 (by omega) k)
      go_wp2_with fail
      refine (HW.out _).mono ?_
      rintro e w9 (⟨h3, a3, c3, rfl, hG3, hK11⟩ | ⟨h3, rfl, hK11⟩)
      · have f3 := M.out h3
        have hA11 := hA9.later hK11
        have hC := hG3.arg
        have hK12 := hK10.trans hK11
        have cl3 := cnt_le 1000000 p 40 L
        have I3 := Lib.hid (fun w (k : RArg w a3 (cnt 1000000 p 40 L) (rwF 1000000 p L)) => rint_any a3 _ c3 _ w (by omega) (fun j _ => by have := rw_bd h3 j; omega) k)
        clear hG3 hA9 hK10 hK11 h3 HW M
        generalize sumTo (rwF 1000000 p L).i (cnt 1000000 p 40 L) = y3 at *
        generalize cnt 1000000 p 40 L = n3 at *
        generalize rwF 1000000 p L = R3 at *
        go_wp2_with fail
        refine (I3.out _ hC).mono ?_
        rintro e w10 ⟨rfl, hK13⟩
        have hA13 := hA11.later hK13
        have hK14 := hK12.trans hK13
        clear hA11 hC hK12 hK13
        go_wp2_with fail
        refine (I1.out _ hA13).mono ?_
        rintro e w11 ⟨rfl, hK15⟩
        go_wp2
        go_ret
        exact ⟨rfl, hK14.trans hK15⟩
      · have nz : (erL L 1000000 p != 0) = true := by rw [bne_iff_ne]; exact h3
        clear h3 HW M
        generalize erL L 1000000 p = er at *
        go_wp2
        go_ret
        exact ⟨rfl, hK10.trans hK11⟩
    · have HW := Lib.hid (fun w => rows_any L (r + u) p w)
      have M := Lib.hid (fun k => M3.out (r + u) (by omega) k)
      go_wp2_with fail
      refine (HW.out _).mono ?_
      rintro e w9 (⟨h3, a3, c3, rfl, hG3, hK11⟩ | ⟨h3, rfl, hK11⟩)
      · have f3 := M.out h3
        have hA11 := hA9.later hK11
        have hC := hG3.arg
        have hK12 := hK10.trans hK11
        have cl3 := cnt_le (r + u) p 40 L
        have I3 := Lib.hid (fun w (k : RArg w a3 (cnt (r + u) p 40 L) (rwF (r + u) p L)) => rint_any a3 _ c3 _ w (by omega) (fun j _ => by have := rw_bd h3 j; omega) k)
        clear hG3 hA9 hK10 hK11 h3 HW M
        generalize sumTo (rwF (r + u) p L).i (cnt (r + u) p 40 L) = y3 at *
        generalize cnt (r + u) p 40 L = n3 at *
        generalize rwF (r + u) p L = R3 at *
        go_wp2_with fail
        refine (I3.out _ hC).mono ?_
        rintro e w10 ⟨rfl, hK13⟩
        have hA13 := hA11.later hK13
        have hK14 := hK12.trans hK13
        clear hA11 hC hK12 hK13
        go_wp2_with fail
        refine (I1.out _ hA13).mono ?_
        rintro e w11 ⟨rfl, hK15⟩
        go_wp2
        go_ret
        exact ⟨rfl, hK14.trans hK15⟩
      · have nz : (erL L (r + u) p != 0) = true := by rw [bne_iff_ne]; exact h3
        clear h3 HW M
        generalize erL L (r + u) p = er at *
        go_wp2
        go_ret
        exact ⟨rfl, hK10.trans hK11⟩
    · have HW := Lib.hid (fun w => rows_any L (r + u) p w)
      have M := Lib.hid (fun k => M3.out (r + u) (by omega) k)
      go_wp2_with fail
      refine (HW.out _).mono ?_
      rintro e w9 (⟨h3, a3, c3, rfl, hG3, hK11⟩ | ⟨h3, rfl, hK11⟩)
      · have f3 := M.out h3
        have hA11 := hA9.later hK11
        have hC := hG3.arg
        have hK12 := hK10.trans hK11
        have cl3 := cnt_le (r + u) p 40 L
        have I3 := Lib.hid (fun w (k : RArg w a3 (cnt (r + u) p 40 L) (rwF (r + u) p L)) => rint_any a3 _ c3 _ w (by omega) (fun j _ => by have := rw_bd h3 j; omega) k)
        clear hG3 hA9 hK10 hK11 h3 HW M
        generalize sumTo (rwF (r + u) p L).i (cnt (r + u) p 40 L) = y3 at *
        generalize cnt (r + u) p 40 L = n3 at *
        generalize rwF (r + u) p L = R3 at *
        go_wp2_with fail
        refine (I3.out _ hC).mono ?_
        rintro e w10 ⟨rfl, hK13⟩
        have hA13 := hA11.later hK13
        have hK14 := hK12.trans hK13
        clear hA11 hC hK12 hK13
        go_wp2_with fail
        refine (I1.out _ hA13).mono ?_
        rintro e w11 ⟨rfl, hK15⟩
        go_wp2
        go_ret
        exact ⟨rfl, hK14.trans hK15⟩
      · have nz : (erL L (r + u) p != 0) = true := by rw [bne_iff_ne]; exact h3
        clear h3 HW M
        generalize erL L (r + u) p = er at *
        go_wp2
        go_ret
        exact ⟨rfl, hK10.trans hK11⟩
  · have nz : (erL L r p != 0) = true := by rw [bne_iff_ne]; exact h
    have RN := Lib.hid (fun w => rows_no L r p w h)
    clear h
    generalize erL L r p = er at *
    go_enter Try.func6, Try.ntmps6
    go_wp2_with fail
    refine (R10.out _).mono ?_
    rintro e w1 ⟨a, c, rfl, hG, hK1⟩
    rw [cnt_10] at hG ⊢
    go_wp2_with fail
    refine (rint_any _ _ _ (rwF 0 5 10) _ (by omega) (fun j _ => by have := rw_bd er_10 j; omega) hG.arg).mono ?_
    rw [sum_10]
    rintro e w2 ⟨rfl, hK2⟩
    have hK := hK1.trans hK2
    clear hK1 hK2 hG
    go_wp2_with fail
    refine (RN.out _).mono ?_
    rintro e w3 ⟨rfl, hK3⟩
    go_wp2
    go_ret
    exact ⟨rfl, hK.trans hK3⟩

end Go.Proofs.Ytcfcbglnmhoknaa
