/-
  The law SeatsFair returns true: nobody's last seat is one that another one had more right to. No condition.
-/
import Derived.Test.YtpkdknddncnceaaDWalkC
import Derived.Test.YtpkdknddncnceaaDMathB
namespace Go.Proofs.Ytpkdknddncnceaa
open Go.RowKit

/-- A box that may be written. -/
structure FBox (w : World) (p : Nat) (v : Value) : Prop where
  lt : p < w.heap.size
  cell : w.cell? ⟨p, 0, none⟩ = some v
  free : w.frozen? ⟨p, 0, none⟩ = false
theorem FBox.later {w w' : World} {p : Nat} {v : Value} (h : FBox w p v) (k : Kept w w') : FBox w' p v := ⟨Nat.lt_of_lt_of_le h.lt k.le, (k.rd.1 _ _ h.lt).trans h.cell, (k.rd.2 _ _ h.lt).trans h.free⟩
theorem FBox.new {w : World} {p : Nat} {v : Value} {t : TypeId} (hp : w.heap.size = p) : FBox (w.alloc (.cells #[v] t)) p v := by
  subst hp; exact ⟨by simp, by simp, by simp⟩
theorem FBox.set {w : World} {p : Nat} {v x : Value} (h : FBox w p v) : FBox (w.setCell ⟨p, 0, none⟩ x) p x := by
  have hc := h.cell
  have hf := h.free
  refine ⟨by simpa using h.lt, ?_, ?_⟩ <;> go_simp
set_option maxHeartbeats 1000000 in
theorem fairD_any (pb : Nat) (way s : Int) (w : World) (h0 : 0 ≤ way) (h2 : way ≤ 2) (s0 : 0 ≤ s) (s1 : s ≤ 1000) (hB : FBox w pb (.int .i64 way)) :
    Calls Try.prog 20 #[.int .i64 s, .pointer (some ⟨pb, 0, none⟩)] w fun e w' => e = .returned (.int .i64 (dv way s)) ∧ Kept w w' := by
  have hc := hB.cell
  have hl := hB.lt
  have hK := (Kept.refl w).alloc (.cells #[.int .i64 (s + 1), .int .i64 (2 * s + 1), .int .i64 s] 3)
  have ne : pb ≠ w.heap.size := by omega
  clear hB
  rcases way3 h0 h2 with rfl | rfl | rfl
  · rw [dv0]
    go_enter Try.func20, Try.ntmps20
    go_wp2
    go_ret
    exact ⟨rfl, hK⟩
  · rw [dv1]
    go_enter Try.func20, Try.ntmps20
    go_wp2
    go_ret
    exact ⟨rfl, hK⟩
  · rw [dv2]
    go_enter Try.func20, Try.ntmps20
    go_wp2
    go_ret
    exact ⟨rfl, hK⟩
theorem keep2 {W w' : World} {p j t : Nat} {a b : Value} (hp : p < W.heap.size) (c1 : W.cell? ⟨p, j, none⟩ = some a) (c2 : W.cell? ⟨p, t, none⟩ = some b) (k : Kept W w') :
    Kept W w' ∧ w'.cell? ⟨p, j, none⟩ = some a ∧ w'.cell? ⟨p, t, none⟩ = some b := ⟨k, (k.rd.1 _ _ hp).trans c1, (k.rd.1 _ _ hp).trans c2⟩
set_option maxRecDepth 100000 in
set_option maxHeartbeats 4000000 in
theorem seatsFair_walk (way N : Int) (a : Option Addr) (n cap : Nat) (v : Nat → Int) (w : World) (hn : n ≤ 4000000000000000000) (hA : Arg w a n v) :
    Calls Try.prog 7 #[.int .i64 way, .int .i64 N, .slice a n cap] w fun e w' => e = .returned (.bool true) ∧ Kept w w' := by
  have hB0 := FBox.new (w := w) (v := .int .i64 way) (t := 3) rfl
  have hKz := (Kept.refl w).alloc (.cells #[.int .i64 way] 3)
  have HA := Lib.hid hA
  clear hA
  go_enter Try.func7, Try.ntmps7
  go_wp2_with fail
  have h3 := (Own.lit (w := w.alloc (.cells #[.int .i64 way] 3)) (l := [1, 2]) (t := 3) (p := w.heap.size + 1) (by simp)).rd
  refine (deal_lit 1 1 2 [1, 2] [0, 1] _ _ _ (by decide) (by decide) (by decide) (by decide) (by decide) h3).mono ?_
  rintro e w1 ⟨p1, hp1, rfl, hO1, hK1⟩
  have hKa := (hKz.alloc _).trans hK1
  have hB1 := hB0.later (((Kept.refl _).alloc _).trans hK1)
  have hQ := (Own.lit (w := w1) (l := [0, 1]) (t := 3) rfl).rd
  clear h3 hK1 hp1 hB0 hKz
  go_wp2_with fail
  refine (equal_lit [0, 1] 2 _ _ _ _ _ (by decide) (by decide) (hO1.rd.later ((Kept.refl w1).alloc _)) hQ).mono ?_
  rintro e w2 ⟨rfl, hd⟩
  have hK2 := (hKa.alloc _).trans hd.kept
  have hB2 := hB1.later (((Kept.refl w1).alloc _).trans hd.kept)
  clear hO1 hKa hd hQ hB1
  have hPB : Hid (w.heap.size ≤ w.heap.size) := Nat.le_refl _
  obtain ⟨pb, HPB⟩ : ∃ pb, pb = w.heap.size := ⟨_, rfl⟩
  rw [← HPB] at hB2 ⊢
  have hPB : Hid (w.heap.size ≤ pb) := by rw [HPB]; exact Nat.le_refl _
  clear HPB
  have hc2 := hB2.cell
  have hf2 := hB2.free
  go_wp2_with fail
  refine (within_any _ _ _ (by omega) (by omega)).mono ?_
  rintro e w3 ⟨u, u0, u3, rfl, rfl⟩
  go_wp2_with fail
  refine (within_any _ _ _ (by omega) (by omega)).mono ?_
  rintro e w3 ⟨s, s0, s3, rfl, rfl⟩
  obtain ⟨s, rfl⟩ := Int.eq_ofNat_of_zero_le s0
  have h2 : u ≤ 2 := by omega
  have hB3 := hB2.set (x := .int .i64 u)
  have hK3 := hK2.setAt (i := 0) hPB.out (.int .i64 u)
  have hA3 := HA.out.later hK3
  clear hK2 hB2
  by_cases he : dealE u s n v = 0
  · obtain ⟨_, _, ok⟩ := dealE_way he
    have n40 := ok.n40
    have n1 := ok.n1
    have OK := Lib.hid ok
    clear he ok
    go_wp2_with fail
    refine (deal_yes u s _ n _ v _ hA3 u0 h2 OK.out).mono ?_
    rintro e w3 ⟨p, hp, rfl, hO, hK⟩
    have hK4 := hK3.trans hK
    have hA4 := hA3.later hK
    have HB := Lib.hid (hB3.later hK)
    obtain ⟨vp, off, rfl, hR⟩ := hA4.at n1
    have HR := Lib.hid hR
    have HO := Lib.hid hO.rd
    have F := Lib.hid (dl_fr (way := u) (fun q hq => (OK.out.wts q hq).1) OK.out.T0 s).1
    have BD := Lib.hid (fun j => dl_nn u v n s j)
    generalize dl u v n s = x at *
    clear hK hA4 hR hO hp hA3 hK3 hB3 hc2 hf2
    go_wp2_with fail
    go_loopw [59] (fun i wr => ∃ j : Nat, j ≤ n ∧ i = .int .i64 j ∧ Kept w3 wr) (fun i _ => (n - intOf i).toNat)
    case atStart => exact ⟨0, by omega, rfl, Kept.refl _⟩
    case round =>
      obtain ⟨j, hj, rfl, hD⟩ := hrel
      by_cases hlt : j < n
      · have hc := (HR.out.later hD).cell j (by rw [tab_len]; exact hlt)
        rw [tab_get] at hc
        have HDD := Lib.hid hD
        clear hD
        go_wp2_with fail
        go_loopw [66] (fun i wr => ∃ t : Nat, t ≤ n ∧ i = .int .i64 t ∧ Kept w3 wr) (fun i _ => (n - intOf i).toNat)
        case atStart => exact ⟨0, by omega, rfl, HDD.out⟩
        case round =>
          clear hc
          obtain ⟨t, ht, rfl, hE⟩ := hrel
          by_cases hlt2 : t < n
          · have hc := (HR.out.later hE).cell t (by rw [tab_len]; exact hlt2)
            have hx := (HO.out.later hE).cell j (by rw [tab_len]; exact hlt)
            have hy := (HO.out.later hE).cell t (by rw [tab_len]; exact hlt2)
            have pl := (HO.out.later hE).lt
            rw [tab_get] at hc hx hy
            rw [Nat.zero_add] at hx hy
            have xb := BD.out j
            have yb := BD.out t
            have vb := OK.out.wts j hlt
            have ub := OK.out.wts t hlt2
            have HEE := Lib.hid hE
            clear hE
            have j1 : (j : Int) < (n : Int) := by omega
            have t1 : (t : Int) < (n : Int) := by omega
            by_cases y0 : 0 < x t
            · have yd : decide (0 < x t) = true := by simpa using y0
              by_cases v0 : 0 < v j
              · have vd : decide (0 < v j) = true := by simpa using v0
                have nm := F.out.num j t hlt hlt2 v0 y0
                have C1 := Lib.hid (fun (w' : World) (k : Kept wr w') => fairD_any pb u (x t - 1) w' u0 h2 (by omega) (by omega) ((HB.out.later HEE.out).later k))
                have C2 := Lib.hid (fun (w' : World) (k : Kept wr w') => fairD_any pb u (x j) w' u0 h2 (by omega) (by omega) ((HB.out.later HEE.out).later k))
                have b1 := dv_bd (way := u) (s := x t - 1) (by omega) (by omega)
                have b2 := dv_bd (way := u) (s := x j) (by omega) (by omega)
                generalize dv u (x t - 1) = d1 at *
                generalize dv u (x j) = d2 at *
                have m1 := vd_bd vb.1 vb.2 b1.1 b1.2
                have m2 := vd_bd ub.1 ub.2 b2.1 b2.2
                have ld : decide (v t * d2 < v j * d1) = false := by simp; omega
                have r1 : IntKind.i64.wrap (x t - 1) = x t - 1 := IntWalk.i64_in _ (by omega)
                have r2 : IntKind.i64.wrap (v j * d1) = v j * d1 := IntWalk.i64_in _ (by omega)
                have r3 : IntKind.i64.wrap (v t * d2) = v t * d2 := IntWalk.i64_in _ (by omega)
                clear nm y0 v0
                go_wp2_with fail
                go_region_held3 (fun w' => Kept wr w' ∧ w'.cell? ⟨p, j, none⟩ = some (.int .i64 (x j)) ∧ w'.cell? ⟨p, t, none⟩ = some (.int .i64 (x t)))
                  (first | exact keep2 pl hx hy (Kept.refl wr).drew | exact keep2 pl hx hy (by assumption))
                  (first | (go_at_call_of 20 (x t); refine (C1.out _ (And.left (by assumption))).mono ?_; rintro e w' ⟨rfl, hk⟩; have hKa := Kept.trans (a := wr) (And.left (by assumption)) hk; clear hk) | (go_at_call_of 20 (x j); refine (C2.out _ (And.left (by assumption))).mono ?_; rintro e w' ⟨rfl, hk⟩; have hKa := Kept.trans (a := wr) (And.left (by assumption)) hk; clear hk))
                all_goals clear r1 r2 r3
                all_goals go_wp2
                all_goals
                  go_roundw
                  case rel => exact ⟨t + 1, by omega, by go_num, HEE.out.trans hKa⟩
                  case measure => simp [intOf]; omega
              · have vd : decide (0 < v j) = false := by simpa using v0
                clear y0 v0
                go_wp2_with fail
                go_quiet (fail)
                go_wp2
                go_roundw
                case rel => exact ⟨t + 1, by omega, by go_num, HEE.out.drewN _⟩
                case measure => simp [intOf]; omega
            · have yd : decide (0 < x t) = false := by simpa using y0
              clear y0
              go_wp2_with fail
              go_quiet (fail)
              go_wp2
              go_roundw
              case rel => exact ⟨t + 1, by omega, by go_num, HEE.out.drewN _⟩
              case measure => simp [intOf]; omega
          · obtain rfl : t = n := by omega
            clear hlt2
            go_wp2
            go_roundw
            case rel => exact ⟨j + 1, by omega, by go_num, hE⟩
            case measure => simp [intOf]; omega
      · obtain rfl : j = n := by omega
        clear hlt
        go_wp2
        go_ret
        exact ⟨rfl, hK4.trans hD⟩
  · have nb : (dealE u s n v != 0) = true := by rw [bne_iff_ne]; exact he
    have HE := Lib.hid he
    clear he
    go_wp2_with fail
    refine (deal_no u s _ n _ v _ hn hA3 HE.out).mono ?_
    rintro e w3 ⟨rfl, rfl⟩
    go_wp2
    go_ret
    exact ⟨rfl, hK3⟩

end Go.Proofs.Ytpkdknddncnceaa
