/-
  The law StockDear: for all counts and numbers it answers true; nothing that was there is turned. No condition but those that each theorem names.
-/
import Derived.Test.YtiilljdeplihoaaPWalkE
namespace Go.Proofs.Ytiilljdeplihoaa
open Go.RowKit
set_option linter.unusedVariables false

/-- Prices that rise. -/
def Rise : Int → List Mv → Prop
  | _, [] => True
  | p, x :: r => ∃ q, p ≤ q ∧ x.2 = q * x.1 ∧ Rise q r
theorem Rise.low : ∀ {l : List Mv} {p : Int}, Rise p l → LotsOk l → p * cnt l ≤ csm l
  | [], p, _, _ => by simp [cnt, csm]
  | x :: r, p, ⟨q, hq, e, h⟩, hL => by
    have h1 := Rise.low h hL.tail
    have h2 := hL.head
    have h3 := hL.tail.cnt0
    have h4 : p * x.1 ≤ q * x.1 := Int.mul_le_mul_of_nonneg_right hq (by omega)
    have h5 : p * cnt r ≤ q * cnt r := Int.mul_le_mul_of_nonneg_right hq (by omega)
    rw [cnt, csm, Int.mul_add, e]
    omega
theorem Rise.snoc : ∀ {l : List Mv} {p t k : Int}, Rise p l → p ≤ t → (∀ x ∈ l, ∃ q, q ≤ t ∧ x.2 = q * x.1 ∧ 0 < x.1) → Rise p (l ++ [(k, t * k)])
  | [], p, t, k, _, hp, _ => ⟨t, hp, rfl, trivial⟩
  | x :: r, p, t, k, ⟨q, hq, e, h⟩, hp, hb => by
    obtain ⟨q', h1, h2, h3⟩ := hb x (List.mem_cons_self ..)
    have : q = q' := Int.eq_of_mul_eq_mul_right (show x.1 ≠ 0 by omega) (by rw [← e, ← h2])
    subst this
    exact ⟨q, hq, e, Rise.snoc h h1 (fun y hy => hb y (List.mem_cons_of_mem _ hy))⟩
theorem Rise.tk : ∀ {l : List Mv} {p n : Int}, Rise p l → LotsOk l → 0 ≤ n → Rise p (tkL l n)
  | [], p, n, _, _, _ => trivial
  | x :: r, p, n, ⟨q, hq, e, h⟩, hL, h0 => by
    have h2 := hL.head
    unfold tkL
    by_cases c1 : n ≤ 0
    · rw [if_pos c1]; exact ⟨q, hq, e, h⟩
    · rw [if_neg c1]
      by_cases c2 : n < x.1
      · rw [if_pos c2]
        refine ⟨q, hq, ?_, h⟩
        have : x.2 * n / x.1 = q * n := by
          rw [e, show q * x.1 * n = q * n * x.1 by grind]
          exact Int.mul_ediv_cancel _ (by omega)
        simp only [this]
        rw [e, Int.mul_sub]
      · rw [if_neg c2]
        have := Rise.tk (n := n - x.1) h hL.tail (by omega)
        cases hh : tkL r (n - x.1) with
        | nil => trivial
        | cons y s =>
          rw [hh] at this
          obtain ⟨q2, a, b, c⟩ := this
          exact ⟨q2, by omega, b, c⟩
theorem Rise.cheap : ∀ {l : List Mv} {p n : Int}, Rise p l → LotsOk l → 0 ≤ p → 0 ≤ n → n ≤ cnt l → tkC l n * cnt l ≤ csm l * n
  | [], p, n, _, _, _, h0, hn => by
    have : n = 0 := by simp [cnt] at hn; omega
    subst this; simp [tkC, cnt, csm]
  | x :: r, p, n, ⟨q, hq, e, h⟩, hL, hp, h0, hn => by
    have h2 := hL.head
    have h3 := hL.tail.cnt0
    have lo := Rise.low h hL.tail
    by_cases c1 : n ≤ 0
    · have : n = 0 := by omega
      subst this
      simp [tkC]
    · by_cases c2 : n < x.1
      · rw [(tk_part c1 c2).1, cnt, csm]
        have : x.2 * n / x.1 = q * n := by
          rw [e, show q * x.1 * n = q * n * x.1 by grind]
          exact Int.mul_ediv_cancel _ (by omega)
        rw [this, e]
        have k := Int.mul_le_mul_of_nonneg_right lo h0
        have e1 : q * n * (x.1 + cnt r) = q * x.1 * n + q * cnt r * n := by grind
        have e2 : (q * x.1 + csm r) * n = q * x.1 * n + csm r * n := by grind
        omega
      · rw [(tk_all c1 c2).1, cnt, csm]
        rw [cnt] at hn
        have d0 : 0 ≤ n - x.1 := by omega
        have d1 : n - x.1 ≤ cnt r := by omega
        have IH := Rise.cheap h hL.tail (by omega) d0 d1
        have T := tk_ok r hL.tail d0 d1
        have lo2 := Rise.low (Rise.tk h hL.tail d0) T.1
        rw [T.2.1] at lo2
        have hS : csm (tkL r (n - x.1)) = csm r - tkC r (n - x.1) := by have := T.2.2.1; omega
        rw [hS] at lo2
        generalize tkC r (n - x.1) = t at *
        generalize csm r = s at *
        generalize cnt r = c at *
        generalize hd : n - x.1 = d at *
        obtain rfl : n = x.1 + d := by omega
        have k1 : x.1 * (q * (c - d)) ≤ x.1 * (s - t) := Int.mul_le_mul_of_nonneg_left lo2 (by omega)
        rw [e]
        have e1 : (q * x.1 + s) * (x.1 + d) - (q * x.1 + t) * (x.1 + c) = (x.1 * (s - t) - x.1 * (q * (c - d))) + (s * d - t * c) := by grind
        omega
/-- As prices rise, what comes first costs no more than the mean. -/
theorem dear {l : List Mv} {n : Int} (hR : Rise 10 l) (hL : LotsOk l) (h0 : 1 ≤ n) (hn : n ≤ cnt l) : tkC l n ≤ mnC (cnt l, csm l) n := by
  rw [mnC_eq (by simp only; omega)]
  have := Rise.cheap hR hL (by omega) (by omega) hn
  refine Int.le_ediv_of_mul_le (by simp only; omega) ?_
  simp only
  have e1 : tkC l n * (2 * cnt l) = 2 * (tkC l n * cnt l) := by grind
  have e2 : 2 * csm l * n = 2 * (csm l * n) := by grind
  omega
/-- So many receipts. -/
structure De (j : Nat) (rc : List Mv) : Prop where
  len : rc.length = j
  rise : Rise 10 rc
  bd : ∀ x ∈ rc, 1 ≤ x.1 ∧ x.1 ≤ 100 ∧ ∃ q, 10 ≤ q ∧ q ≤ 10 * (j : Int) ∧ x.2 = q * x.1
theorem De.nil : De 0 [] := ⟨rfl, trivial, fun x hx => by cases hx⟩
theorem De.snoc {j : Nat} {rc : List Mv} (h : De j rc) {k : Int} (k1 : 1 ≤ k) (k2 : k ≤ 100) : De (j + 1) (rc ++ [(k, 10 * ((j : Int) + 1) * k)]) := by
  refine ⟨by simp [h.len], ?_, fun x hx => ?_⟩
  · refine h.rise.snoc (by omega) (fun x hx => ?_)
    obtain ⟨a, b, q, c, d, e⟩ := h.bd x hx
    exact ⟨q, by omega, e, by omega⟩
  · rcases List.mem_append.1 hx with hx | hx
    · obtain ⟨a, b, q, c, d, e⟩ := h.bd x hx
      exact ⟨a, b, q, c, by omega, e⟩
    · have : x = (k, 10 * ((j : Int) + 1) * k) := by simpa using hx
      subst this
      exact ⟨k1, k2, _, by omega, by omega, rfl⟩
theorem De.cnt {j : Nat} {rc : List Mv} (h : De j rc) : Go.Proofs.Ytiilljdeplihoaa.cnt rc ≤ 100 * (j : Int) := by
  have : ∀ l : List Mv, (∀ x ∈ l, x.1 ≤ 100) → Go.Proofs.Ytiilljdeplihoaa.cnt l ≤ 100 * (l.length : Int) := by
    intro l
    induction l with
    | nil => intro _; simp [Go.Proofs.Ytiilljdeplihoaa.cnt]
    | cons x r ih =>
      intro h
      have := h x (List.mem_cons_self ..)
      have := ih (fun y hy => h y (List.mem_cons_of_mem _ hy))
      rw [Go.Proofs.Ytiilljdeplihoaa.cnt, List.length_cons]; omega
  have := this rc (fun x hx => (h.bd x hx).2.1)
  rw [h.len] at this; exact this
theorem De.lots {j : Nat} {rc : List Mv} (h : De j rc) (hj : j ≤ 20) : LotsOk rc := fun x hx => by
  obtain ⟨a, b, q, c, d, e⟩ := h.bd x hx
  have h1 : q * x.1 ≤ 200 * 100 := Int.mul_le_mul (by omega) b (by omega) (by omega)
  have h2 : 0 ≤ q * x.1 := Int.mul_nonneg (by omega) (by omega)
  exact ⟨by omega, by omega, by omega, by omega⟩
theorem lots_mv {l : List Mv} (h : LotsOk l) : (∀ m ∈ l, ckM m = 0) ∧ ∀ j, 0 ≤ cnt (l.take j) :=
  ⟨fun m hm => by have := h m hm; exact ckM_of (by omega) (by omega) (by omega) (by omega) (by omega) (by omega), fun j => (lots_take h j).cnt0.1⟩
theorem ffS_lots {l : List Mv} (h : LotsOk l) : ffS l = ([], l) := by
  have : ∀ (m : List Mv) (u : List Int) (v : List Mv), LotsOk m → m.foldl ffT (u, v) = (u, v ++ m) := by
    intro m
    induction m with
    | nil => intro u v _; simp
    | cons x r ih =>
      intro u v hm
      rw [List.foldl_cons, show ffT (u, v) x = (u, v ++ [x]) by unfold ffT; rw [if_pos (by have := hm.head; omega)], ih u (v ++ [x]) hm.tail]
      simp
  unfold ffS
  rw [this l [] [] h]; rfl
theorem mmS_lots {l : List Mv} (h : LotsOk l) : mmS l = ([], (cnt l, csm l)) := by
  have : ∀ (m : List Mv) (u : List Int) (a b : Int), LotsOk m → m.foldl mmT (u, (a, b)) = (u, (a + cnt m, b + csm m)) := by
    intro m
    induction m with
    | nil => intro u a b _; simp [cnt, csm]
    | cons x r ih =>
      intro u a b hm
      rw [List.foldl_cons, show mmT (u, (a, b)) x = (u, (a + x.1, b + x.2)) by unfold mmT; rw [if_pos (by have := hm.head; omega)], ih u _ _ hm.tail, cnt, csm]
      simp; omega
  unfold mmS
  rw [this l [] 0 0 h]; simp
/-- Receipts, and one issue. -/
theorem lots_one {l : List Mv} (h : LotsOk l) (hl : l.length ≤ 20) {n : Int} (h0 : 1 ≤ n) (hn : n ≤ cnt l) (hb : n ≤ 1000000) :
    MvOk (l ++ [(-n, 0)]) ∧ ffS (l ++ [(-n, 0)]) = ([tkC l n], tkL l n) ∧ mmS (l ++ [(-n, 0)]) = ([mnC (cnt l, csm l) n], (cnt l - n, csm l - mnC (cnt l, csm l) n)) := by
  have L := lots_mv h
  refine ⟨⟨by simp; omega, fun m hm => ?_, fun j hj => ?_⟩, ?_, ?_⟩
  · rcases List.mem_append.1 hm with hm | hm
    · exact L.1 m hm
    · have : m = (-n, 0) := by simpa using hm
      subst this
      exact ckM_of (by simp only; omega) (by simp only; omega) (by simp only; omega) (by simp only; omega) (by simp only; omega) (fun _ => rfl)
  · by_cases e : j ≤ l.length
    · rw [List.take_append_of_le_length e]; exact L.2 j
    · rw [List.take_of_length_le (by simp; omega), cnt_app]; simp [cnt]; omega
  · rw [ffS_snoc, ffS_lots h]; unfold ffT; rw [if_neg (by simp only; omega)]; simp
  · rw [mmS_snoc, mmS_lots h]; unfold mmT; rw [if_neg (by simp only; omega)]; simp; omega
theorem isMove : IsE eP 40 (.agg #[.int .i64 0, .int .i64 0]) 16 := by unfold IsE; kernel_rfl
abbrev dearL : List Mv := [(1, 1), (1, 3), (-1, 0)]
theorem dear_ok : MvOk dearL := skE_ok (by decide +kernel)
theorem dear_ff : ffS dearL = ([1], [(1, 3)]) := by decide +kernel
set_option maxRecDepth 100000 in
set_option maxHeartbeats 8000000 in
/-- StockDear, whatever is handed in. -/
theorem stockDear_walk (a : Option Addr) (l : List Int) (cap : Nat) (n : Int) (w : World) (hA : JArg eI w a l) (hc : l.length ≤ cap) (hm : cap ≤ maxLen) (h0 : a = none → cap = 0) :
    Calls Try.prog 6 #[.slice a l.length cap, .int .i64 n] w fun e w' => e = .returned (.bool true) ∧ Below w.heap.size w w' := by
  have HA := Lib.hid hA
  have F0 := Lib.hid (show Calls Try.prog 9 #[.slice (some ⟨w.heap.size, 0, none⟩) 3 3] (w.alloc (.cells #[.int .i64 1, .int .i64 1, .int .i64 1, .int .i64 3, .int .i64 (-1), .int .i64 0] 40)) (FiA (w.alloc (.cells #[.int .i64 1, .int .i64 1, .int .i64 1, .int .i64 3, .int .i64 (-1), .int .i64 0] 40)) ([1], [(1, 3)])) from by
    have := fifo_arg (some ⟨w.heap.size, 0, none⟩) dearL 3 (w.alloc (.cells #[.int .i64 1, .int .i64 1, .int .i64 1, .int .i64 3, .int .i64 (-1), .int .i64 0] 40)) (JArg.lit eP dearL _ _ rfl rfl) dear_ok
    rwa [dear_ff] at this)
  have K0 := Lib.hid ((Kept.refl w).alloc (.cells #[.int .i64 1, .int .i64 1, .int .i64 1, .int .i64 3, .int .i64 (-1), .int .i64 0] 40))
  obtain ⟨t, ht⟩ : ∃ t, min l.length 20 = t := ⟨_, rfl⟩
  have htl : t ≤ l.length := by omega
  have ht20 : t ≤ 20 := by omega
  have hmin : min (l.length : Int) 20 = (t : Int) := by omega
  have hmin2 : (if (l.length : Int) ≤ 20 then (l.length : Int) else 20) = (t : Int) := by split <;> omega
  have g1 : (0 : Int) ≤ (t : Int) := by omega
  have g2 : (t : Int) ≤ (cap : Int) := by omega
  clear hA ht h0
  go_enter Try.func6, Try.ntmps6
  go_wp2_with fail
  refine F0.out.mono ?_
  rintro e w1 ⟨au, cu, av, cv, rfl, hU, hV, _, _, _, hK1⟩
  have KL := (Kept.refl w1).alloc (.cells #[.int .i64 1] 3)
  have E1 := Lib.hid (iequal_yes [1] au (some ⟨w1.heap.size, 0, none⟩) 1 cu 1 (w1.alloc (.cells #[.int .i64 1] 3)) (by decide) rfl (hU.later KL) (JArg.lit eI [1] _ _ rfl rfl))
  have K1 := Lib.hid (K0.out.trans (hK1.trans KL))
  clear hU hV hK1 KL
  simp only [List.length_cons, List.length_nil]
  go_wp2_with fail
  refine E1.out.mono ?_
  rintro e w2 ⟨rfl, hK2⟩
  have K2 := Lib.hid (K1.out.trans hK2)
  clear hK2
  go_upto_region 6 with fail
  go_cut [40, 41, 42] (fun s40 s41 s42 wx => s40 = .slice a t cap ∧ s41 = .int .i64 t ∧ s42 = .int .i64 0 ∧ wx = w2)
  case first =>
    rcases (by omega : ((20 : Int) < l.length ∧ t = 20) ∨ (¬ (20 : Int) < l.length ∧ t = l.length)) with ⟨h, rfl⟩ | ⟨h, rfl⟩
    all_goals
      go_wp2_with fail
      go_meet
      exact ⟨rfl, rfl, rfl, rfl⟩
  case rest =>
  obtain ⟨rfl, rfl, rfl, rfl⟩ := hcut
  go_wp2
  go_loopw [8, 9, 42] (fun v s i wr => ∃ (k : Nat) (rc : List Mv), k ≤ t ∧ i = .int .i64 k ∧ s = .int .i64 (cnt rc) ∧ Hid (De k rc) ∧ QRow eP w.heap.size wr v rc ∧ Kept w wr) (fun _ _ i _ => t - (intOf i).toNat)
  case atStart => exact ⟨0, [], Nat.zero_le _, rfl, rfl, Lib.hid De.nil, QRow.nil _ _ _, K2.out⟩
  case round =>
    obtain ⟨k, rc, hk, rfl, rfl, HD, hQ, hK⟩ := hrel
    have hL := HD.out.lots (by omega)
    have hlen := HD.out.len
    obtain ⟨b1, b2, b3, b4⟩ := hL.cnt0
    by_cases hlt : k < t
    · obtain ⟨p, off, rfl, hR⟩ := (HA.out.later hK).at (j := k) (by omega)
      have c0 := hR.i k (by omega)
      have plt := hR.lt
      have i0 : (0 : Int) ≤ (k : Int) := by omega
      have i1 : (k : Int) < (t : Int) := by omega
      have WN := Lib.hid (skWithin_any (l[k]) 100 wr (by decide) (by decide))
      clear hR
      generalize l[k] = z at *
      go_wp2_with fail
      refine WN.out.mono ?_
      rintro e w3 ⟨r, r0, r1, rfl, rfl⟩
      obtain ⟨x, hx⟩ : ∃ x, 1 + r = x := ⟨_, rfl⟩
      have x0 : 1 ≤ x := by omega
      have x1 : x ≤ 100 := by omega
      have m0 : 0 ≤ x * ((k : Int) + 1) := Int.mul_nonneg (by omega) (by omega)
      have m1 : x * ((k : Int) + 1) ≤ 100 * 20 := Int.mul_le_mul x1 (by omega) (by omega) (by omega)
      have u1 : IntKind.i64.wrap (1 + r) = x := by rw [hx]; exact IntWalk.i64_in _ (by omega)
      have u2 : IntKind.i64.wrap (cnt rc + x) = cnt rc + x := IntWalk.i64_in _ (by omega)
      have u3 : IntKind.i64.wrap ((k : Int) + 1) = (k : Int) + 1 := IntWalk.i64_in _ (by omega)
      have u4 : IntKind.i64.wrap (x * ((k : Int) + 1)) = x * ((k : Int) + 1) := IntWalk.i64_in _ (by omega)
      have u5 : IntKind.i64.wrap (x * ((k : Int) + 1) * 10) = x * ((k : Int) + 1) * 10 := IntWalk.i64_in _ (by omega)
      have DS := Lib.hid (HD.out.snoc (k := x) x0 x1)
      have eq1 : 10 * ((k : Int) + 1) * x = x * ((k : Int) + 1) * 10 := by grind
      rw [eq1] at DS
      clear eq1 hx r0 r1 WN c0 plt m0 m1
      have CE := Lib.hid (show cnt (rc ++ [(x, x * ((k : Int) + 1) * 10)]) = cnt rc + x by rw [cnt_app]; simp [cnt])
      have NC := Lib.hid (JBx.new (w := wr) rfl (x, x * ((k : Int) + 1) * 10) 40).cells
      have kB := (Kept.refl wr).alloc (.cells #[.int .i64 x, .int .i64 (x * ((k : Int) + 1) * 10)] 40)
      have hQ4 := hQ.later kB
      have hK4 := hK.trans kB
      generalize cnt rc = c at *
      go_wp2_with (at_builtin; refine app_q eP 40 22 _ 16 isMove rfl (by decide) Try.underlying22 rfl _ _ rfl (z := (x, x * ((k : Int) + 1) * 10)) rfl rfl hQ4 NC.out (by omega) (by have := hK4.size; omega) ?_)
      intro v' w6 hQ6 hgr hmv
      have hK6 := hQ4.kept (Nat.le_refl _) hK4 hgr
      clear hQ4 hK4 hgr hmv hQ hK kB
      go_wp2
      go_roundw
      case rel => exact ⟨k + 1, rc ++ [(x, x * ((k : Int) + 1) * 10)], by omega, by go_num, by rw [CE.out], DS, hQ6, hK6⟩
      case measure => simp [intOf]; omega
    · obtain rfl : k = t := by omega
      clear hlt
      by_cases z0 : cnt rc = 0
      · rw [z0] at *
        go_wp2
        go_ret
        exact ⟨rfl, hK⟩
      · have WN := Lib.hid (skWithin_any n (cnt rc) wr (by omega) (by omega))
        have nz : (cnt rc == 0) = false := by simpa using z0
        obtain ⟨av2, cv2, hv, _⟩ := id hQ.is
        subst hv
        go_wp2_with fail
        refine WN.out.mono ?_
        rintro e w3 ⟨r, r0, r1, rfl, rfl⟩
        have u1 : IntKind.i64.wrap (-1 - r) = -1 - r := IntWalk.i64_in _ (by omega)
        have cnb := HD.out.cnt
        obtain ⟨mok, mff, mmm⟩ := lots_one hL (by omega) (n := 1 + r) (by omega) (by omega) (by omega)
        have ne : -(1 + r) = -1 - r := by omega
        rw [ne] at mok mff mmm
        have FM := Lib.hid (dear (n := 1 + r) HD.out.rise hL (by omega) (by omega))
        obtain ⟨l2, hl2⟩ : ∃ l2, l2 = rc ++ [(-1 - r, 0)] := ⟨_, rfl⟩
        rw [← hl2] at mok mff mmm
        generalize tkC rc (1 + r) = F at *
        generalize tkL rc (1 + r) = L at *
        generalize hmn : mnC (cnt rc, csm rc) (1 + r) = M at *
        clear hmn
        have HL2 := Lib.hid hl2
        have HLN := Lib.hid hlen
        clear hlen
        have FO := Lib.hid (fun (ad : Option Addr) c V (h : JArg eP V ad l2) => show Calls Try.prog 9 #[.slice ad l2.length c] V (FiA V ([F], L)) from by
          have := fifo_arg ad l2 c V h mok
          rwa [mff] at this)
        have MO := Lib.hid (fun (ad : Option Addr) c V (h : JArg eP V ad l2) => show Calls Try.prog 10 #[.slice ad l2.length c] V (MnA V ([M], (cnt rc - (1 + r), csm rc - M))) from by
          have := mean_arg ad l2 c V h mok
          rwa [mmm] at this)
        have NC := Lib.hid (JBx.new (w := wr) rfl (-1 - r, 0) 40).cells
        have kB := (Kept.refl wr).alloc (.cells #[.int .i64 (-1 - r), .int .i64 0] 40)
        have hQ4 := hQ.later kB
        have hK4 := hK.trans kB
        clear mok mff mmm hl2 ne WN
        go_wp2_with (at_builtin; refine app_q eP 40 22 _ 16 isMove rfl (by decide) Try.underlying22 rfl _ _ rfl (z := (-1 - r, 0)) rfl rfl hQ4 NC.out (by have := HLN.out; omega) (by have := hK4.size; omega) ?_)
        intro v' w6 hQ6 hgr hmv
        have hK6 := hQ4.kept (Nat.le_refl _) hK4 hgr
        rw [← HL2.out] at hQ6
        obtain ⟨a5, c5, rfl, _⟩ := id hQ6.is
        have HQ6 := Lib.hid hQ6.arg
        clear hQ4 hK4 hgr hmv hQ hK kB hQ6 u1 r0 r1 b1 b2 b3 b4 HL2 NC
        go_wp2_with fail
        refine (FO.out _ _ _ HQ6.out).mono ?_
        rintro e w7 ⟨au, cu, av, cv, rfl, hU, hV, _, _, _, hK7⟩
        have HU := Lib.hid hU
        have HK7 := Lib.hid (hK6.trans hK7)
        have HQ7 := Lib.hid (HQ6.out.later hK7)
        clear hU hV hK7 hK6
        go_wp2_with fail
        refine (MO.out _ _ _ HQ7.out).mono ?_
        rintro e w8 ⟨ay, cy, rfl, hY, _, _, _, hK8⟩
        have kL := (Kept.refl w8).alloc (.cells #[.int .i64 (cnt rc - (1 + r)), .int .i64 (csm rc - M)] 29)
        have HK8 := Lib.hid ((HK7.out.trans hK8).trans kL)
        obtain ⟨px, ox, rfl, lx, cx⟩ := (HU.out.later (hK8.trans kL)).at0
        obtain ⟨py, oy, rfl, ly, cy0⟩ := (hY.later kL).at0
        have fm := FM.out
        have dm : decide (F ≤ M) = true := by simpa using fm
        have hsx : [F].length = 1 := rfl
        have hsy : [M].length = 1 := rfl
        clear hK8 kL hY
        go_wp2
        go_quiet (fail)
        go_wp2
        go_ret
        exact ⟨by simp, HK8.out.drewN _⟩
end Go.Proofs.Ytiilljdeplihoaa
