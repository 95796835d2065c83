/-
  The law StockOut: for all numbers it answers true; nothing that was there is turned. No condition but those that each theorem names.
-/
import Derived.Test.YtiilljdeplihoaaLawStockDear
namespace Go.Proofs.Ytiilljdeplihoaa
open Go.RowKit
set_option linter.unusedVariables false

theorem QRow.lit {α : Type} (E : Jec α) {w : World} {p n : Nat} (l : List α) (cs : Array Value) (t : TypeId) (hp : w.heap.size = p) (hcs : cs.toList = E.cat l) (hn : l.length = n) (h1 : n ≤ 1000) :
    QRow E p (w.alloc (.cells cs t)) (.slice (some ⟨p, 0, none⟩) n n) l := by
  subst hn
  have hsz : cs.size = l.length * E.k := by rw [← Array.length_toList, hcs, E.cat_len]
  refine ⟨_, _, rfl, Nat.le_refl _, by unfold maxLen; omega, .inr ⟨p, 0, rfl, Nat.le_refl _, JRow.lit E l cs t hp hcs, fun j hj => ?_⟩⟩
  subst hp
  rw [Nat.zero_add]
  have e1 : (w.alloc (.cells cs t)).cell? ⟨w.heap.size, j, none⟩ = cs[j]? := World.cell?_alloc_new w cs t j
  exact ⟨by rw [e1, Array.getElem?_eq_getElem (by omega)]; rfl, World.frozen?_alloc_new w cs t j⟩
abbrev outL : List Mv := [(3, 10), (-1, 0), (-2, 0)]
theorem out_ok : MvOk outL := skE_ok (by decide +kernel)
theorem out_ff : ffS outL = ([3, 7], []) := by decide +kernel
/-- One receipt, and one issue of it. -/
theorem one_facts {n c k : Int} (n1 : 1 ≤ n) (n2 : n ≤ 1000000) (c0 : 0 ≤ c) (c1 : c ≤ 1000000000000) (k0 : 1 ≤ k) (k1 : k ≤ n) :
    ∃ (F M : Int) (L : List Mv) (s : Mv), MvOk [(n, c), (-k, 0)] ∧ ffS [(n, c), (-k, 0)] = ([F], L) ∧ mmS [(n, c), (-k, 0)] = ([M], s) ∧ F ≤ M ∧ M ≤ F + 1 ∧ 0 ≤ F ∧ F ≤ c ∧ 0 ≤ M ∧ M ≤ c ∧ (k = n → F = c ∧ M = c) ∧
      (k ≠ n → MvOk [(n, c), (-k, 0), (k - n, 0)] ∧ ffS [(n, c), (-k, 0), (k - n, 0)] = ([F, c - F], []) ∧ mmS [(n, c), (-k, 0), (k - n, 0)] = ([M, c - M], (0, 0))) := by
  have hL : LotsOk [(n, c)] := fun x hx => by
    have : x = (n, c) := by simpa using hx
    subst this; exact ⟨n1, n2, c0, c1⟩
  have e1 : cnt [(n, c)] = n := by simp [cnt]
  have e2 : csm [(n, c)] = c := by simp [csm]
  obtain ⟨ok, ff, mm⟩ := lots_one hL (by simp) k0 (by rw [e1]; exact k1) (by omega)
  rw [e1, e2] at mm
  obtain ⟨m0, m1⟩ := mnC_bd (s := (n, c)) (n := k) (by simp only; omega) c0 (by omega) k1
  obtain ⟨t1, t2, t3, t4, t5⟩ := tk_ok [(n, c)] hL (by omega : 0 ≤ k) (by rw [e1]; exact k1)
  have me := mnC_eq (s := (n, c)) (n := k) (by simp only; omega)
  have ck0 : 0 ≤ c * k := Int.mul_nonneg c0 (by omega)
  have F0 : tkC [(n, c)] k = c * k / n := by
    by_cases h : k < n
    · exact (tk_part (by omega) h).1
    · have : k = n := by omega
      subst this
      rw [(tk_all (x := (k, c)) (r := []) (by omega) (by simp only; omega)).1, Int.mul_ediv_cancel _ (by omega)]
      simp [tkC]
  have near : c * k / n ≤ mnC (n, c) k ∧ mnC (n, c) k ≤ c * k / n + 1 := by
    rw [me]
    simp only
    have h1 := Int.mul_ediv_add_emod (c * k) n
    have h2 := Int.emod_nonneg (c * k) (show n ≠ 0 by omega)
    have h3 := Int.emod_lt_of_pos (c * k) (show 0 < n by omega)
    have h4 : 2 * c * k = 2 * (c * k) := by rw [Int.mul_assoc]
    generalize c * k / n = q at *
    generalize c * k % n = r at *
    rw [h4, ← h1]
    have h5 : 2 * (n * q + r) + n = (2 * r + n) + (2 * n) * q := by grind
    rw [h5, Int.add_mul_ediv_left _ _ (by omega)]
    have h6 : 0 ≤ (2 * r + n) / (2 * n) := Int.ediv_nonneg (by omega) (by omega)
    have h7 : (2 * r + n) / (2 * n) < 2 := Int.ediv_lt_of_lt_mul (by omega) (by omega)
    omega
  have csL : 0 ≤ csm (tkL [(n, c)] k) := (t1.cnt0).2.1
  rw [e2] at t3
  refine ⟨_, _, _, _, ok, ff, mm, by rw [F0]; exact near.1, by rw [F0]; exact near.2, t4, by omega, m0, m1, fun h => ?_, fun h => ?_⟩
  · subst h
    exact ⟨by rw [F0, Int.mul_ediv_cancel _ (by omega)], mnC_all (s := (k, c)) (by simp only; omega)⟩
  · have hk : k < n := by omega
    have LL : tkL [(n, c)] k = [(n - k, c - tkC [(n, c)] k)] := by rw [F0]; exact (tk_part (x := (n, c)) (r := []) (by omega) hk).2
    have hs : [(n, c), (-k, 0), (k - n, 0)] = ([(n, c)] ++ [(-k, 0)]) ++ [(k - n, (0 : Int))] := rfl
    refine ⟨⟨by simp, fun m hm => ?_, fun j hj => ?_⟩, ?_, ?_⟩
    · have : m = (n, c) ∨ m = (-k, 0) ∨ m = (k - n, 0) := by simpa using hm
      rcases this with rfl | rfl | rfl
      · exact ckM_of (by simp only; omega) (by simp only; omega) (by simp only; omega) c0 c1 (by simp only; omega)
      · exact ckM_of (by simp only; omega) (by simp only; omega) (by simp only; omega) (by simp) (by simp) (fun _ => rfl)
      · exact ckM_of (by simp only; omega) (by simp only; omega) (by simp only; omega) (by simp) (by simp) (fun _ => rfl)
    · match j, hj with
      | 0, _ => simp [cnt]
      | 1, _ => simp [cnt]; omega
      | 2, _ => simp [cnt]; omega
      | 3, _ => simp [cnt]; omega
      | j + 4, hj => simp at hj
    · rw [hs, ffS_snoc, ff, LL]
      unfold ffT
      rw [if_neg (by simp only; omega)]
      have en : -(k - n) = n - k := by omega
      simp only [en]
      obtain ⟨a1, a2⟩ := tk_all (x := (n - k, c - tkC [(n, c)] k)) (r := []) (n := n - k) (by omega) (by simp only; omega)
      rw [a1, a2]
      simp [tkC, tkL]
    · rw [hs, mmS_snoc, mm]
      unfold mmT
      rw [if_neg (by simp only; omega)]
      have en : -(k - n) = n - k := by omega
      simp only [en]
      have := mnC_all (s := (n - k, c - mnC (n, c) k)) (by simp only; omega)
      simp only at this
      rw [this]
      simp
      omega
set_option maxRecDepth 100000 in
set_option maxHeartbeats 8000000 in
/-- StockOut, whatever is handed in. -/
theorem stockOut_walk (n0 c0 k0 : Int) (w : World) :
    Calls Try.prog 7 #[.int .i64 n0, .int .i64 c0, .int .i64 k0] w fun e w' => e = .returned (.bool true) ∧ Below w.heap.size w w' := by
  have F0 := Lib.hid (show Calls Try.prog 9 #[.slice (some ⟨w.heap.size, 0, none⟩) 3 3] (w.alloc (.cells #[.int .i64 3, .int .i64 10, .int .i64 (-1), .int .i64 0, .int .i64 (-2), .int .i64 0] 40)) (FiA (w.alloc (.cells #[.int .i64 3, .int .i64 10, .int .i64 (-1), .int .i64 0, .int .i64 (-2), .int .i64 0] 40)) ([3, 7], [])) from by
    have := fifo_arg (some ⟨w.heap.size, 0, none⟩) outL 3 (w.alloc (.cells #[.int .i64 3, .int .i64 10, .int .i64 (-1), .int .i64 0, .int .i64 (-2), .int .i64 0] 40)) (JArg.lit eP outL _ _ rfl rfl) out_ok
    rwa [out_ff] at this)
  have K0 := Lib.hid ((Kept.refl w).alloc (.cells #[.int .i64 3, .int .i64 10, .int .i64 (-1), .int .i64 0, .int .i64 (-2), .int .i64 0] 40))
  go_enter Try.func7, Try.ntmps7
  go_wp2_with fail
  refine F0.out.mono ?_
  rintro e w1 ⟨au, cu, av, cv, rfl, hU, hV, _, _, _, hK1⟩
  have KL := (Kept.refl w1).alloc (.cells #[.int .i64 3, .int .i64 7] 3)
  have E1 := Lib.hid (iequal_yes [3, 7] au (some ⟨w1.heap.size, 0, none⟩) 2 cu 2 (w1.alloc (.cells #[.int .i64 3, .int .i64 7] 3)) (by decide) rfl (hU.later KL) (JArg.lit eI [3, 7] _ _ rfl rfl))
  have K1 := Lib.hid (K0.out.trans (hK1.trans KL))
  clear hU hV hK1 KL
  simp only [List.length_cons, List.length_nil]
  go_wp2_with fail
  refine E1.out.mono ?_
  rintro e w2 ⟨rfl, hK2⟩
  have K2 := Lib.hid (K1.out.trans hK2)
  clear hK2
  go_wp2_with fail
  refine (skWithin_any n0 1000000 _ (by decide) (by decide)).mono ?_
  rintro e w3 ⟨r1, r10, r11, rfl, rfl⟩
  go_wp2_with fail
  refine (skWithin_any c0 1000000000001 _ (by decide) (by decide)).mono ?_
  rintro e w3 ⟨c, c1, c2, rfl, rfl⟩
  have n1 : 1 ≤ 1 + r1 := by omega
  have n2 : 1 + r1 ≤ 1000000 := by omega
  go_wp2_with fail
  generalize 1 + r1 = n at *
  clear r10 r11
  refine (skWithin_any k0 n _ (by omega) (by omega)).mono ?_
  rintro e w3 ⟨r3, r30, r31, rfl, rfl⟩
  have k1 : 1 ≤ 1 + r3 := by omega
  have k2 : 1 + r3 ≤ n := by omega
  have u3 : IntKind.i64.wrap (-(1 + r3)) = -(1 + r3) := IntWalk.i64_in _ (by omega)
  go_wp2_with fail
  generalize 1 + r3 = k at *
  obtain ⟨F, M, L, s, mok, mff, mmm, fm1, fm2, f0, f1, m0, m1, ful, rest⟩ := one_facts n1 n2 c1 (by omega) k1 k2
  have Q2 := Lib.hid (QRow.lit eP (w := w2) (p := w2.heap.size) (n := 2) [(n, c), (-k, 0)] #[.int .i64 n, .int .i64 c, .int .i64 (-k), .int .i64 0] 40 rfl rfl rfl (by decide))
  have KQ := Lib.hid (K2.out.alloc (.cells #[.int .i64 n, .int .i64 c, .int .i64 (-k), .int .i64 0] 40))
  have FO := Lib.hid (fun (ad : Option Addr) cc V (h : JArg eP V ad [(n, c), (-k, 0)]) => show Calls Try.prog 9 #[.slice ad 2 cc] V (FiA V ([F], L)) from by
    have := fifo_arg ad _ cc V h mok
    rwa [mff] at this)
  have MO := Lib.hid (fun (ad : Option Addr) cc V (h : JArg eP V ad [(n, c), (-k, 0)]) => show Calls Try.prog 10 #[.slice ad 2 cc] V (MnA V ([M], s)) from by
    have := mean_arg ad _ cc V h mok
    rwa [mmm] at this)
  have d1 : decide (M < F) = false := by simp; omega
  have d2 : decide (F + 1 < M) = false := by simp; omega
  have u4 : IntKind.i64.wrap (F + 1) = F + 1 := IntWalk.i64_in _ (by omega)
  have REST := Lib.hid rest
  have FUL := Lib.hid ful
  clear mok mff mmm rest ful r30 r31
  refine (FO.out _ _ _ Q2.out.arg).mono ?_
  rintro e w3 ⟨ax, cx, al, cl, rfl, hX, hLo, _, _, _, hK3⟩
  have HX := Lib.hid hX
  have Q3 := Lib.hid (Q2.out.later hK3)
  have K3 := Lib.hid (KQ.out.trans hK3)
  clear hX hLo hK3
  go_wp2_with fail
  refine (MO.out _ _ _ Q3.out.arg).mono ?_
  rintro e w4 ⟨ay, cy, rfl, hY, _, _, _, hK4⟩
  have kL := (Kept.refl w4).alloc (.cells #[.int .i64 s.1, .int .i64 s.2] 29)
  have K4 := Lib.hid (K3.out.trans (hK4.trans kL))
  have Q4 := Lib.hid (Q3.out.later (hK4.trans kL))
  obtain ⟨px, ox, rfl, lx, cx0⟩ := (HX.out.later (hK4.trans kL)).at0
  obtain ⟨py, oy, rfl, ly, cy0⟩ := (hY.later kL).at0
  clear hK4 kL hY
  simp only [List.length_cons, List.length_nil]
  go_wp2
  go_quiet (fail)
  have Q5 := Lib.hid (Q4.out.drewN nq)
  have K5 := Lib.hid (K4.out.drewN nq)
  have lx1 : px < ((w4.alloc (.cells #[.int .i64 s.1, .int .i64 s.2] 29)).drewN nq).heap.size := lx
  have cx1 : ((w4.alloc (.cells #[.int .i64 s.1, .int .i64 s.2] 29)).drewN nq).cell? ⟨px, ox, none⟩ = some (.int .i64 F) := cx0
  have cy1 : ((w4.alloc (.cells #[.int .i64 s.1, .int .i64 s.2] 29)).drewN nq).cell? ⟨py, oy, none⟩ = some (.int .i64 M) := cy0
  have hw5 : w4.heap.size + 1 = ((w4.alloc (.cells #[.int .i64 s.1, .int .i64 s.2] 29)).drewN nq).heap.size := by simp
  clear cx0 cy0 lx ly FO MO Q2 KQ Q3 K3 HX Q4 K4
  generalize (w4.alloc (.cells #[.int .i64 s.1, .int .i64 s.2] 29)).drewN nq = W5 at *
  by_cases kn : k = n
  · obtain ⟨rfl, rfl⟩ := FUL.out kn
    subst kn
    go_wp2
    go_ret
    exact ⟨by simp, K5.out⟩
  · obtain ⟨mok, mff, mmm⟩ := REST.out kn
    have kn2 : (k == n) = false := by simpa using kn
    have u5 : IntKind.i64.wrap (k - n) = k - n := IntWalk.i64_in _ (by omega)
    obtain ⟨l2, hl2⟩ : ∃ l2, l2 = [(n, c), (-k, (0 : Int)), (k - n, 0)] := ⟨_, rfl⟩
    rw [← hl2] at mok mff mmm
    have FO := Lib.hid (fun (ad : Option Addr) cc V (h : JArg eP V ad l2) => show Calls Try.prog 9 #[.slice ad l2.length cc] V (FiA V ([F, c - F], [])) from by
      have := fifo_arg ad _ cc V h mok
      rwa [mff] at this)
    have MO := Lib.hid (fun (ad : Option Addr) cc V (h : JArg eP V ad l2) => show Calls Try.prog 10 #[.slice ad l2.length cc] V (MnA V ([M, c - M], (0, 0))) from by
      have := mean_arg ad _ cc V h mok
      rwa [mmm] at this)
    have HL2 := Lib.hid hl2
    have NC := Lib.hid (JBx.new (w := W5) rfl (k - n, 0) 40).cells
    have kB := (Kept.refl W5).alloc (.cells #[.int .i64 (k - n), .int .i64 0] 40)
    have hQ6 := Q5.out.later kB
    have hK6 := K5.out.trans kB
    have hsz : w2.heap.size ≤ (W5.alloc (.cells #[.int .i64 (k - n), .int .i64 0] 40)).heap.size := by have := (hQ6.lt w2.heap.size rfl).2; omega
    have hw2 := K2.out.le
    clear mok mff mmm hl2 kB REST FUL
    go_wp2_with (at_builtin; refine app_q eP 40 22 _ 16 isMove rfl (by decide) Try.underlying22 rfl _ _ rfl (z := (k - n, 0)) rfl rfl hQ6 NC.out (by simp) hsz ?_)
    intro v' w6 hQ7 hgr hmv
    have hK7 := hQ6.kept hw2 hK6 hgr
    have hQ7 : QRow eP w2.heap.size w6 v' l2 := by rw [HL2.out]; exact hQ7
    obtain ⟨a5, c5, rfl, _⟩ := id hQ7.is
    have HQ7 := Lib.hid hQ7.arg
    clear hQ6 hK6 hgr hmv hQ7 HL2 NC hsz cx1 cy1 lx1
    go_wp2_with fail
    refine (FO.out _ _ _ HQ7.out).mono ?_
    rintro e w7 ⟨ax, cx, al, cl, rfl, hX, _, _, _, _, hK8⟩
    have HX := Lib.hid hX
    have HK8 := Lib.hid (hK7.trans hK8)
    have HQ8 := Lib.hid (HQ7.out.later hK8)
    clear hX hK8 hK7
    go_wp2_with fail
    refine (MO.out _ _ _ HQ8.out).mono ?_
    rintro e w8 ⟨ay, cy, rfl, hY, _, _, _, hK9⟩
    have kL := (Kept.refl w8).alloc lotO
    have HK9 := Lib.hid ((HK8.out.trans hK9).trans kL)
    have HB := Lib.hid (JBx.new (w := w8) rfl (0, 0) 29)
    have SX := Lib.hid (ksum_any ax [F, c - F] cx (w8.alloc lotO) (by simp) (fun z hz => by simp at hz; omega) (by simp [sumI]; omega) (HX.out.later (hK9.trans kL)))
    have SY := Lib.hid (ksum_any ay [M, c - M] cy (w8.alloc lotO) (by simp) (fun z hz => by simp at hz; omega) (by simp [sumI]; omega) (hY.later kL))
    rw [show sumI [F, c - F] = c by simp [sumI]; omega] at SX
    rw [show sumI [M, c - M] = c by simp [sumI]; omega] at SY
    clear hK9 kL hY
    simp only [List.length_cons, List.length_nil] at SX SY ⊢
    go_wp2_with fail
    refine SX.out.mono ?_
    rintro e w9 ⟨rfl, rfl⟩
    go_wp2_with fail
    refine SY.out.mono ?_
    rintro e w9 ⟨rfl, rfl⟩
    obtain ⟨b0, b1, b2⟩ := HB.out
    go_wp2
    go_ret
    exact ⟨by simp, HK9.out⟩
end Go.Proofs.Ytiilljdeplihoaa
