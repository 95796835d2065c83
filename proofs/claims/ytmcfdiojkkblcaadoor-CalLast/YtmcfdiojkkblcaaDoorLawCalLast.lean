/-
  The law CalLast returns true: the last day of a month is in that month, no sooner than any of its days, and the next day is the first of the next month. Condition: the table of the months' lengths reads as the program lays it (Tab).
-/
import Derived.Test.YtmcfdiojkkblcaaDoorWalkD
namespace Go.Proofs.YtmcfdiojkkblcaaDoor
open Go.RowKit

set_option maxHeartbeats 1000000 in
theorem calLast_walk (n : Int) (w : World) (hT : Tab w) :
    Calls Tryd.prog 11 #[.int .i64 n] w fun e w' => e = .returned (.bool true) ∧ Kept w w' := by
  have H31 := Lib.hid (show lastV 31 = 59 by decide)
  go_enter Tryd.func11, Tryd.ntmps11
  go_wp2_with fail
  refine (last_yes _ _ hT (by omega) (by omega)).mono ?_
  rintro e w1 ⟨rfl, hk1⟩
  rw [H31.out]
  clear H31
  go_wp2_with fail
  refine (day_any _ _).mono ?_
  rintro e w2 ⟨r, r0, r1, rfl, rfl⟩
  have hT1 := hT.kept hk1
  clear hT
  go_wp2_with fail
  refine (last_yes _ _ hT1 r0 (by omega)).mono ?_
  rintro e w2 ⟨rfl, hk2⟩
  obtain ⟨l1, l2, l3, l4, l5, l6, l7⟩ := last_date r r0 (by omega)
  have L1 := Lib.hid l1
  have L2 := Lib.hid l2
  have L3 := Lib.hid l3
  have L7 := Lib.hid l7
  clear l1 l2 l3 l7
  go_wp2_with fail
  refine (last_yes _ _ (hT1.kept hk2) l5 l6).mono ?_
  rintro e w3 ⟨rfl, hk3⟩
  rw [L7.out]
  have hk23 := hk2.trans hk3
  clear hk2 hk3 L7
  go_wp2_with fail
  refine (date_yes _ _ (hT1.kept hk23) r0 (by omega)).mono ?_
  rintro e w4 ⟨rfl, hk4⟩
  go_wp2_with fail
  refine (date_yes _ _ (((hT1.kept hk23).kept hk4).alloc _) l5 l6).mono ?_
  rintro e w5 ⟨rfl, hk5⟩
  rw [L1.out, L2.out, L3.out]
  clear L1 L2 L3
  obtain ⟨hz, g0, g1, g2⟩ := box_later hk5
  have hd := dbd r r0 (by omega)
  have hT5 := ((((hT1.kept hk23).kept hk4).alloc _).kept hk5)
  have hK5 := (((hk1.trans hk23).trans hk4).alloc _).trans hk5
  by_cases hx : lastV r = 292193
  · have hxb : (lastV r == 292193) = true := by rw [beq_iff_eq]; exact hx
    clear hx
    go_wp2
    go_ret
    exact ⟨rfl, hK5.alloc _⟩
  · have hxb : (lastV r == 292193) = false := by rw [beq_eq_false_iff_ne]; exact hx
    obtain ⟨n1, n2, n3⟩ := last_next r r0 (by omega) hx
    have N1 := Lib.hid n1
    have N2 := Lib.hid n2
    clear hx n1 n2
    go_wp2_with fail
    refine (date_yes _ _ (hT5.alloc _) (by omega) n3).mono ?_
    rintro e w6 ⟨rfl, hk6⟩
    rw [N1.out]
    obtain ⟨hz6, k0, k1, k2⟩ := box_later hk6
    have hK6 := (hK5.alloc (Obj.cells #[.int .i64 (Cal.Y r), .int .i64 (Cal.M r), .int .i64 (Cal.dim (Cal.Y r) (Cal.M r))] 23)).trans hk6
    have hrd := (((Kept.refl w5).alloc (Obj.cells #[.int .i64 (Cal.Y r), .int .i64 (Cal.M r), .int .i64 (Cal.dim (Cal.Y r) (Cal.M r))] 23)).trans hk6).rd.1
    have m0 := (hrd w4.heap.size 0 hz).trans g0
    have m1 := (hrd w4.heap.size 1 hz).trans g1
    have hz7 : w4.heap.size < w6.heap.size := Nat.lt_trans hz hz6
    have hdn := dbd (lastV r + 1) (by omega) n3
    clear hrd g0 g1 g2 k0 k1 k2 hk1 hk23 hk4 hk5 hk6 hK5 hT1 hT5
    go_wp2
    go_ret
    exact ⟨ret_bool (by rw [beq_iff_eq]; exact N2.out), hK6.alloc _⟩

end Go.Proofs.YtmcfdiojkkblcaaDoor
