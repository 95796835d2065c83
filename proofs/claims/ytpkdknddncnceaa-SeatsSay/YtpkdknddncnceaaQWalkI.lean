/-
  What the reference's Deal builds: all claims, in the order of parties. No condition but those that each theorem names.
-/
import Derived.Test.YtpkdknddncnceaaQWalkH
import Derived.Test.YtpkdknddncnceaaDWalkA
namespace Go.Proofs.Ytpkdknddncnceaa
open Go.RowKit Go.WideShapes

theorem CRow.other {w : World} {p N r i : Nat} {C : Cl} {d : Nat → Int} {u : Value} (h : CRow w p N C d) (hr : r ≠ p) : CRow (w.setCell ⟨r, i, none⟩ u) p N C d :=
  ⟨by simpa using h.lt, fun j hj => (World.cell?_setCell_far w ⟨r, i, none⟩ ⟨p, _, none⟩ u hr).trans (h.c0 j hj), fun j hj => (World.cell?_setCell_far w ⟨r, i, none⟩ ⟨p, _, none⟩ u hr).trans (h.c1 j hj),
    fun j hj => (World.cell?_setCell_far w ⟨r, i, none⟩ ⟨p, _, none⟩ u hr).trans (h.c2 j hj), fun o ho => by rw [World.frozen?_setCell]; exact h.fr o ho⟩
/-- The claims of a dealing. -/
def clC (way : Int) (v : Nat → Int) (S n : Nat) : Cl := ⟨clV v S n, clD way v S n, clW v S n⟩
theorem way3' {way : Int} (h0 : 0 ≤ way) (h2 : way ≤ 2) : way = 0 ∨ way = 1 ∨ way = 2 := by omega
theorem dvi (t : Int) : dv 0 t = t + 1 ∧ dv 1 t = 2 * t + 1 ∧ dv 2 t = t := by simp [dv]
set_option maxRecDepth 100000 in
set_option maxHeartbeats 8000000 in
theorem rdeal_any (way : Int) (S vp off n cap : Nat) (v : Nat → Int) (w : World) (h0 : 0 ≤ way) (h2 : way ≤ 2) (n1 : 1 ≤ n) (n40 : n ≤ 40) (hS : S ≤ 1000) (hw : WtOk v n) (T : 0 < sumTo v n) (hR : Rd w vp off (tab n v)) :
    Calls Try.prog 16 #[.int .i64 way, .int .i64 (S : Int), .slice (some ⟨vp, off, none⟩) n cap] w fun e w' => ∃ q : Nat, w.heap.size ≤ q ∧ e = .returned (.slice (some ⟨q, 0, none⟩) n n) ∧ Own w' q (tab n (dl way v n S)) ∧ Kept w w' := by
  have mk := make_ints n (by omega)
  have HW := Lib.hid hw
  clear hw
  have B0 : BS w (w.alloc (.cells #[.slice none 0 0] 45)) w.heap.size (ps v 0 * S) (clC way v S n) (.slice none 0 0) := by
    rw [show ps v 0 * S = 0 by simp [ps]]
    exact ⟨CGr.nil _ _ _, by simp, by simp, by simp, rfl, (Kept.refl w).alloc _, fun _ => rfl⟩
  have PM := Lib.hid (fun i (hi : i ≤ n) => show ps v i * S ≤ 40000 by
    have a := ps_le v i
    have : ps v i * S ≤ 40 * 1000 := Nat.mul_le_mul (by omega) hS
    omega)
  obtain ⟨bx, hbx⟩ : ∃ bx, bx = w.heap.size := ⟨_, rfl⟩
  rw [← hbx] at B0
  have HBX := Lib.hid hbx
  go_enter Try.func16, Try.ntmps16
  go_wp2_with fail
  rw [← HBX.out]
  clear hbx
  generalize w.alloc (.cells #[.slice none 0 0] 45) = w1 at *
  go_loopw [16] (fun i wr => ∃ (j : Nat) (u : Value), j ≤ n ∧ i = .int .i64 j ∧ BS w wr bx (ps v j * S) (clC way v S n) u) (fun i _ => (n - intOf i).toNat)
  case atStart => exact ⟨0, _, by omega, rfl, B0⟩
  case round =>
    clear B0
    obtain ⟨j, u, hj, rfl, hB⟩ := hrel
    by_cases hlt : j < n
    · have hc := (hR.later hB.kept).cell j (by rw [tab_len]; exact hlt)
      rw [tab_get] at hc
      have vb := HW.out j hlt
      have pm := PM.out j hj
      by_cases pos : 0 < v j
      · have pd : decide (0 < v j) = true := by simpa using pos
        have EP := Lib.hid (show ps v (j + 1) * S = ps v j * S + S by rw [ps_yes pos, Nat.add_mul, Nat.one_mul])
        have PS := Lib.hid pos
        clear pos
        go_wp2_with fail
        go_loopw [10] (fun s wr => ∃ (t : Nat) (u : Value), t ≤ S ∧ s = .int .i64 t ∧ BS w wr bx (ps v j * S + t) (clC way v S n) u) (fun s _ => (S - intOf s).toNat)
        case atStart => exact ⟨0, u, by omega, rfl, hB⟩
        case round =>
          clear hB hc
          obtain ⟨t, u, ht, rfl, hB⟩ := hrel
          by_cases htS : t < S
          · have HB := Lib.hid hB
            have hbox := hB.box
            have hfree := hB.free
            have hblt := hB.blt
            obtain ⟨a1, a2, a3⟩ := cl_at (way := way) j t hlt PS.out htS
            have A1 := Lib.hid (show (clC way v S n).v (ps v j * S + t) = v j from a1)
            have A2 := Lib.hid (show (clC way v S n).d (ps v j * S + t) = dv way t from a2)
            have A3 := Lib.hid (show (clC way v S n).w (ps v j * S + t) = j from a3)
            clear hB a1 a2 a3
            have td : decide ((t : Int) < (S : Int)) = true := by simp; omega
            have ne1 : bx ≠ wr.heap.size := by omega
            have l1 : bx < wr.heap.size + 1 := by omega
            have D0 := Lib.hid (dvi (t : Int))
            have W1 := Lib.hid (show IntKind.i64.wrap ((t : Int) + 1) = (t : Int) + 1 from IntWalk.i64_in _ (by omega))
            have W2 := Lib.hid (show IntKind.i64.wrap (2 * (t : Int)) = 2 * (t : Int) from IntWalk.i64_in _ (by omega))
            have W3 := Lib.hid (show IntKind.i64.wrap (2 * (t : Int) + 1) = 2 * (t : Int) + 1 from IntWalk.i64_in _ (by omega))
            rcases way3' h0 h2 with rfl | rfl | rfl
            all_goals
              go_wp2_with fail
              go_region_law ((refine step_claim rfl (.tmp 30) (.tmp 44) rfl rfl rfl HB.out (by first | exact ((Kept.refl _).alloc _).alloc _ | exact (((Kept.refl _).alloc _).alloc _).drew) (by first | exact (HB.out.gr.own.alloc _).alloc _ | exact ((HB.out.gr.own.alloc _).alloc _).drew) (by rw [A1.out]; simp) (by rw [A2.out]; first | (simp [D0.out]; done) | (simp [D0.out]; rw [W2.out]; exact W3.out) | (simp [D0.out]; exact W1.out)) (by rw [A3.out]; simp) (by omega) ?_; intro g cc w4 hG hcb hlt4 hfb hKw))
              all_goals go_wp2
              all_goals
                go_roundw
                case rel => exact ⟨t + 1, _, by omega, by go_num, (BS.stored hG hcb hlt4 hfb HB.out.bx0 hKw)⟩
                case measure => simp [intOf]; omega
          · obtain rfl : t = S := by omega
            have td : decide ((t : Int) < (t : Int)) = false := by simp
            have td2 : decide (t < t) = false := by simp
            clear htS
            go_wp2
            go_roundw
            case rel => exact ⟨j + 1, u, by omega, by go_num, by rw [EP.out]; exact hB⟩
            case measure => simp [intOf]; omega
      · have pd : decide (0 < v j) = false := by simpa using pos
        have EP := Lib.hid (show ps v (j + 1) * S = ps v j * S by rw [ps_no pos])
        clear pos
        go_wp2_with fail
        go_loopw [10] (fun s wr => s = .int .i64 0 ∧ BS w wr bx (ps v j * S) (clC way v S n) u) (fun _ _ => 0)
        case atStart => exact ⟨rfl, hB⟩
        case round =>
          clear hB hc
          obtain ⟨rfl, hB⟩ := hrel
          by_cases s0 : 0 < S
          · have td : decide ((0 : Int) < (S : Int)) = true := by simp; omega
            have td2 : decide (0 < S) = true := by simpa using s0
            go_wp2
            go_roundw
            case rel => exact ⟨j + 1, u, by omega, by go_num, by rw [EP.out]; exact hB⟩
            case measure => simp [intOf]; omega
          · have td : decide ((0 : Int) < (S : Int)) = false := by simp; omega
            have td2 : decide (0 < S) = false := by simpa using s0
            go_wp2
            go_roundw
            case rel => exact ⟨j + 1, u, by omega, by go_num, by rw [EP.out]; exact hB⟩
            case measure => simp [intOf]; omega
    · obtain rfl : j = n := by omega
      clear hlt
      by_cases s0 : S = 0
      · subst s0
        obtain rfl := hB.emp (by omega)
        have hb := hB.box
        have hK := hB.kept
        have hl := hB.blt
        clear hB
        go_wp2_with fail
        refine (sliceStable_nil bx _).mono ?_
        rintro e w2 ⟨rfl, hk2⟩
        have hb2 := (hk2.rd.1 _ _ hl).trans hb
        have hl2 := Nat.lt_of_lt_of_le hl hk2.le
        have hK2 := hK.trans hk2
        have hw2 := hK2.size
        have hO0 := Own.made (w := w2) (n := j) (t := 3) rfl
        rw [tab_zero] at hO0
        have hKm := hK2.alloc (.cells (zs j) 3)
        clear hb hl hK hk2
        go_wp2_with fail
        clear mk hb2 hl2 hK2
        generalize w2.alloc (.cells (zs j) 3) = w3 at *
        generalize w2.heap.size = po at *
        go_loopw [58] (fun i wr => i = .int .i64 0 ∧ wr = w3) (fun _ _ => 0)
        case atStart => exact ⟨rfl, rfl⟩
        case round =>
          obtain ⟨rfl, rfl⟩ := hrel
          go_wp2
          go_ret
          exact ⟨po, hw2, rfl, hO0, hKm⟩
      · have SP : 1 ≤ ps v j := ps_pos T
        have mS : S ≤ ps v j * S := by have := Nat.mul_le_mul_right S SP; omega
        have pm := PM.out j (Nat.le_refl _)
        obtain ⟨p, cc, rfl, hp, hcc⟩ := hB.gr.form (by omega)
        have hb := hB.box
        have hSt : St w wr p (ps v j * S) bx cc (clC way v S j) idn := ⟨hB.gr.row, hb, hB.blt, by have := hB.bx0; omega, by omega, hB.kept⟩
        have CK : Hid (ClOk (clC way v S j) (ps v j * S)) := fun q hq => cl_bd (way := way) (fun i hi => HW.out i hi) hS q hq
        have KY := Lib.hid (fun x y (x0 : (0 : Int) ≤ x) x1 (y0 : (0 : Int) ≤ y) y1 => cl_key (way := way) (v := v) (S := S) (n := j) (fun i hi => HW.out i hi) hS x y x0 x1 y0 y1)
        clear hB
        go_wp2_with fail
        refine (sliceStable_any hSt (by omega) (by omega) CK.out KY.out).mono ?_
        rintro e w2 ⟨d, rfl, hS2, _, hO⟩
        have HO := Lib.hid hO
        have hb2 := hS2.box
        have hl2 := hS2.blt
        have hK2 := hS2.kept
        have hC2 := hS2.row
        have hw2 := hK2.size
        have ne2 : p ≠ w2.heap.size := by have := hC2.lt; omega
        clear hSt hb hO hS2
        have hO0 := Own.made (w := w2) (n := j) (t := 3) rfl
        rw [tab_zero] at hO0
        have hKm := hK2.alloc (.cells (zs j) 3)
        have hCm := hC2.later ((Kept.refl w2).alloc (.cells (zs j) 3))
        have sc : S ≤ cc := by omega
        go_wp2_with fail
        clear mk hb2 hl2 hK2 hC2
        generalize w2.alloc (.cells (zs j) 3) = w3 at *
        generalize w2.heap.size = po at *
        go_loopw [58] (fun i wr => ∃ q : Nat, q ≤ S ∧ i = .int .i64 q ∧ Own wr po (tab j (dl way v j q)) ∧ CRow wr p (ps v j * S) (clC way v S j) d ∧ Kept w wr) (fun i _ => (S - intOf i).toNat)
        case atStart => exact ⟨0, by omega, rfl, hO0, hCm, hKm⟩
        case round =>
          clear hO0 hCm hKm
          obtain ⟨q, hq, rfl, hOr, hCr, hKr⟩ := hrel
          by_cases hlt : q < S
          · obtain ⟨i, i1, e1, D⟩ := deal_next (way := way) (fun i hi => HW.out i hi) T hS HO.out mS q hlt
            have a0 := hCr.c0 q (by omega)
            have a1 := hCr.c1 q (by omega)
            have a2 := hCr.c2 q (by omega)
            rw [show (clC way v S j).w (d q).toNat = i from e1] at a2
            have DD := Lib.hid D
            generalize (clC way v S j).v (d q).toNat = cv at *
            generalize (clC way v S j).d (d q).toNat = cd at *
            have ol := hOr.lt
            have cl := hCr.lt
            have o1 := hOr.cell i (by rw [tab_len]; exact i1)
            have o2 := hOr.free i (by rw [tab_len]; exact i1)
            rw [tab_get] at o1
            have nn := dl_nn way v j q i
            have NO := Lib.hid (hOr.set i (dl way v j q i + 1) (by rw [tab_len]; exact i1))
            have NC := Lib.hid (hCr.other (r := po) (i := i) (u := .int .i64 (dl way v j q i + 1)) (fun z => ne2 z.symm))
            have NK := Lib.hid (hKr.setAt (b := po) (i := i) hw2 (.int .i64 (dl way v j q i + 1)))
            have k1 : (i : Int) < (j : Int) := by omega
            have q1 : (q : Int) < (S : Int) := by omega
            have ne3 : po ≠ wr.heap.size := by omega
            clear hOr hCr hKr e1 D
            go_wp2
            go_roundw
            case rel => exact ⟨q + 1, by omega, by go_num, by have := NO.out; rw [tab_set] at this; rw [DD.out]; exact this.later ((Kept.refl _).alloc _), NC.out.later ((Kept.refl _).alloc _), NK.out.alloc _⟩
            case measure => simp [intOf]; omega
          · obtain rfl : q = S := by omega
            clear hlt
            go_wp2
            go_ret
            exact ⟨po, hw2, rfl, hOr, hKr⟩

end Go.Proofs.Ytpkdknddncnceaa
