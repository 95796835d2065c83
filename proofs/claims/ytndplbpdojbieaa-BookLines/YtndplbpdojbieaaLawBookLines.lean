/-
  The walk of talkeep.BookLines: it returns true at every input. No condition but those that each theorem names.
-/
import Derived.Test.YtndplbpdojbieaaLawBookZero
namespace Go.Proofs.Ytndplbpdojbieaa
open Go.RowKit
set_option linter.unusedVariables false

theorem EtYes.y {w w' : World} {x y : Et} {e : Ending} (h : x = y) (k : EtYes w x e w') : EtYes w y e w' := h ▸ k
/-- The least day of entries. -/
def fstD : List Et → Int
  | [] => 292193
  | x :: r => min x.day (fstD r)
theorem fstD_snoc : ∀ (l : List Et) (x : Et), fstD (l ++ [x]) = min (fstD l) x.day
  | [], x => by simp [fstD]; omega
  | y :: r, x => by rw [List.cons_append, fstD, fstD, fstD_snoc r x]; omega
theorem fstD_le : ∀ {l : List Et}, ∀ x ∈ l, fstD l ≤ x.day
  | y :: r, x, h => by
    rw [fstD]
    rcases List.mem_cons.1 h with rfl | h
    · omega
    · have := fstD_le x h; omega
theorem fstD_bd : ∀ {l : List Et}, (∀ x ∈ l, 0 ≤ x.day) → 0 ≤ fstD l ∧ fstD l ≤ 292193
  | [], _ => by simp [fstD]
  | y :: r, h => by
    have := fstD_bd (l := r) fun x hx => h x (by simp [hx])
    have := h y (by simp)
    rw [fstD]; omega
theorem OkE.day {acs : List Pr} {x : Et} (h : OkE acs x) : 0 ≤ x.day ∧ x.day ≤ 292193 := by
  have := (enE_ok h.1).1
  unfold hdE at this
  split at this
  · split at this
    · omega
    · omega
  · omega
theorem bal_all {c : ByteArray} {d : Int} : ∀ {l : List Et}, (∀ x ∈ l, x.day ≤ d) → balS c d l = allS c l := fun {l} h => by
  unfold balS
  rw [List.filter_eq_self.2 fun x hx => by simpa using h x hx]
theorem bal_nil {c : ByteArray} {d : Int} {l : List Et} (h : ∀ x ∈ l, d < x.day) : balS c d l = 0 := by
  unfold balS
  rw [List.filter_eq_nil_iff.2 fun x hx => by have := h x hx; simp; omega]; rfl
set_option maxRecDepth 100000 in
set_option maxHeartbeats 8000000 in
theorem bookLines_walk (q : BkA) (b : Bk) (c : ByteArray) (w : World) (hM : BkM w q b) :
    Calls Try.prog 8 #[bkV q b, .string c] w fun e w' => e = .returned (.bool true) ∧ Below w.heap.size w w' := by
  have hK2 := (Kept.refl w).alloc (bkO q b)
  have HB := Lib.hid (BBx.new w q b)
  have HM := Lib.hid (hM.later hK2)
  have hem : b.ens.length ≤ 9223372036854775807 := by have := hM.en; unfold maxLen at this; omega
  generalize hW : w.alloc (bkO q b) = W at *
  have HW := Lib.hid hW
  have HK := Lib.hid hK2
  clear hM hW hK2
  go_enter Try.func8, Try.ntmps8
  go_wp2_with fail
  rw [HW.out]
  refine (begun_any W).mono ?_
  rintro e w1 ⟨rfl, hK1⟩
  obtain ⟨b0, b1, b2, b3⟩ := HB.out.later hK1
  go_wp2_with fail
  clear b0 b1 b2 b3
  by_cases ok : baE b c 292193 = 0
  · obtain ⟨gd, hc, _⟩ := baE_ok ok
    refine (bal_yes q b c 292193 w1 (HM.out.later hK1) ok).mono ?_
    rintro e w2 ⟨rfl, hK3⟩
    have G := Lib.hid gd
    have HC := Lib.hid hc
    have n60 := gd.many
    have EQ := Lib.hid (show balS c 292193 b.ens = allS c b.ens from bal_all fun x hx => (gd.each x hx).day.2)
    have hK4 := hK1.trans hK3
    obtain ⟨b0, b1, b2, b3⟩ := HB.out.later hK4
    have HK4 := Lib.hid hK4
    have SB := Lib.hid (fun k => allS_bd (c := c) (l := b.ens.take k) fun x hx => (G.out.each x (List.mem_of_mem_take hx)).bd)
    clear ok gd hc hK1 hK3 hK4
    rw [EQ.out]
    generalize hAll : allS c b.ens = AA at *
    have HAA := Lib.hid hAll
    clear hAll
    go_wp2
    clear b0 b1 b2 b3
    go_loopw [7, 8, 30] (fun s f i wr => ∃ k : Nat, k ≤ b.ens.length ∧ i = .int .i64 k ∧ s = .int .i64 (allS c (b.ens.take k)) ∧ f = .int .i64 (fstD (b.ens.take k)) ∧ Kept w2 wr) (fun _ _ i _ => b.ens.length - (intOf i).toNat)
    case atStart => exact ⟨0, Nat.zero_le _, rfl, rfl, rfl, Kept.refl _⟩
    case round =>
      obtain ⟨k, hk, rfl, rfl, rfl, hK⟩ := hrel
      by_cases hlt : k < b.ens.length
      · have hKK := HK4.out.trans hK
        obtain ⟨p, off, hp, hR⟩ := (HM.out.ens.later hKK).at hlt
        obtain ⟨a, cap, c0, c1, c2, h1, h2, hL⟩ := hR.at k hlt
        have plt := hR.1
        have SN := Lib.hid (allS_snoc (c := c) hlt)
        have FN := Lib.hid (show fstD (b.ens.take (k + 1)) = min (fstD (b.ens.take k)) (b.ens[k]).day by rw [ens_take hlt, fstD_snoc])
        obtain ⟨l12, LB⟩ := (G.out.each _ (List.getElem_mem hlt)).bd
        obtain ⟨s1, s2⟩ := SB.out k
        rw [List.length_take, Nat.min_eq_left hk] at s1 s2
        have hky : kyI (b.ens[k]).key b.ens < b.ens.length := kyI_lt.2 ⟨_, List.getElem_mem hlt, rfl⟩
        have hyx : b.ens[kyI (b.ens[k]).key b.ens] = b.ens[k] := G.out.key_inj (List.getElem_mem _) (List.getElem_mem hlt) (kyI_at hky)
        have GY := Lib.hid (fun V (h : BkM V q b) => (get_yes q b (b.ens[k]).key V h G.out _ rfl hky).mono fun e w' h => EtYes.y hyx h)
        have HQ := Lib.hid (show q = ⟨q.aa, q.ca, some ⟨p, off, none⟩, q.ce⟩ by cases q; simp at hp; simp [hp])
        clear hR hyx hky
        rw [hp] at *
        clear hp
        generalize b.ens[k] = x at *
        generalize allS c (b.ens.take k) = S0 at *
        generalize fstD (b.ens.take k) = F0 at *
        have LBH := Lib.hid LB
        have kE := (Kept.refl wr).alloc (.cells #[.string x.key, .int .i64 x.day, .slice a x.lns.length cap] 28)
        have HL := Lib.hid (hL.later kE)
        have HX := Lib.hid (EBx.new wr x.key x.day (.slice a x.lns.length cap) 28)
        have hK5 := hKK.trans kE
        have GYR := Lib.hid (GY.out _ (HM.out.later hK5))
        obtain ⟨b0, b1, b2, b3⟩ := HB.out.later hKK
        have K5 := Lib.hid (hK.trans kE)
        have KW5 := Lib.hid hK5
        clear hL LB hK5 GY h1 h2
        go_wp2_with fail
        refine GYR.out.mono ?_
        rintro e w6 ⟨p6, hp6, rfl, hO6, hK6⟩
        have kO := (Kept.refl w6).alloc (.cells #[.string x.key, .int .i64 x.day, .slice (some ⟨p6, 0, none⟩) x.lns.length x.lns.length] 28)
        have HO := Lib.hid (EBx.new w6 x.key x.day (.slice (some ⟨p6, 0, none⟩) x.lns.length x.lns.length) 28)
        have SA := Lib.hid (same_yes x.key x.day x.lns a (some ⟨p6, 0, none⟩) x.lns.length cap x.lns.length _ (by omega) rfl ((HL.out.later hK6).later kO) (hO6.later kO).parg)
        have HOP := Lib.hid (hO6.later kO)
        have K7 := Lib.hid (K5.out.trans (hK6.trans kO))
        have wx : wr.heap.size < w6.heap.size := (HX.out.later hK6).lt
        clear b0 b1 b2 b3 c0 c1 c2 plt
        obtain ⟨x0, x1, x2, x3⟩ := HX.out.later hK6
        have HX7 := Lib.hid (HX.out.later (hK6.trans kO))
        clear hO6 kE hKK hK
        go_wp2_with fail
        refine SA.out.mono ?_
        rintro e w8 ⟨rfl, hK8⟩
        obtain ⟨o0, o1, o2, o3⟩ := HO.out.later hK8
        have K9 := Lib.hid (K7.out.trans hK8)
        have HP9 := Lib.hid (HOP.out.later hK8)
        have HX9 := Lib.hid (HX7.out.later hK8)
        clear x0 x1 x2 x3 hK6 kO hK8
        generalize wr.heap.size = px at *
        go_wp2
        clear o0 o1 o2 o3
        go_loopw [7, 52] (fun s i wr2 => ∃ j : Nat, j ≤ x.lns.length ∧ i = .int .i64 j ∧ s = .int .i64 (S0 + codeS c (x.lns.take j)) ∧ Kept w8 wr2) (fun _ i _ => x.lns.length - (intOf i).toNat)
        case atStart => exact ⟨0, Nat.zero_le _, rfl, by simp [codeS], Kept.refl _⟩
        case round =>
          obtain ⟨j, hj, rfl, rfl, hKj⟩ := hrel
          by_cases hlj : j < x.lns.length
          · have hR2 := (HP9.out.later hKj).row
            have c0 := hR2.c0 j hlj
            have c1 := hR2.c1 j hlj
            rw [Nat.zero_add] at c0 c1
            have plt := hR2.lt
            have CS := Lib.hid (codeS_snoc (c := c) hlj)
            obtain ⟨y1, y2⟩ := LBH.out _ (List.getElem_mem hlj)
            obtain ⟨z1, z2⟩ := codeS_bd (c := c) (l := x.lns.take j) fun y hy => LBH.out y (List.mem_of_mem_take hy)
            rw [List.length_take, Nat.min_eq_left hj] at z1 z2
            clear hR2
            generalize x.lns[j] = y at *
            generalize codeS c (x.lns.take j) = S1 at *
            have hK10 := hKj.alloc (.cells #[.string y.1, .int .i64 y.2] 48)
            cases hb : isB c y
            · have NX := Lib.hid (show codeS c (x.lns.take (j + 1)) = S1 by rw [CS.out, hb]; simp)
              have hb2 : (y.1.toList == c.toList) = false := hb
              clear hb CS
              go_wp2
              go_roundw
              case rel => exact ⟨j + 1, by omega, by go_num, by rw [NX.out], hK10⟩
              case measure => simp [intOf]; omega
            · have NX := Lib.hid (show codeS c (x.lns.take (j + 1)) = S1 + y.2 by rw [CS.out, hb]; simp)
              have hb2 : (y.1.toList == c.toList) = true := hb
              have wr3 : IntKind.i64.wrap (S0 + S1 + y.2) = S0 + S1 + y.2 := IntWalk.i64_in _ (by omega)
              clear hb CS
              go_wp2
              go_roundw
              case rel => exact ⟨j + 1, by omega, by go_num, by rw [NX.out, Int.add_assoc], hK10⟩
              case measure => simp [intOf]; omega
          · obtain rfl : j = x.lns.length := by omega
            clear hlj
            obtain ⟨x0, x1, x2, x3⟩ := HX9.out.later hKj
            rw [List.take_length]
            go_wp2
            go_roundw
            case rel => exact ⟨k + 1, by omega, by go_num, by rw [SN.out], by rw [FN.out], K9.out.trans hKj⟩
            case measure => simp [intOf]; omega
      · obtain rfl : k = b.ens.length := by omega
        clear hlt
        rw [List.take_length, HAA.out]
        obtain ⟨f0, f1⟩ := fstD_bd (l := b.ens) fun x hx => (G.out.each x hx).day.1
        have FL := Lib.hid (fun x hx => fstD_le (l := b.ens) x hx)
        have hKK := HK4.out.trans hK
        obtain ⟨b0, b1, b2, b3⟩ := HB.out.later hKK
        generalize fstD b.ens = F at *
        by_cases z : F = 0
        · subst z
          go_wp2
          go_ret
          exact ⟨rfl, HK.out.trans hKK⟩
        · have z1 : (F == 0) = false := by simpa using z
          have wr1 : IntKind.i64.wrap (F - 1) = F - 1 := IntWalk.i64_in _ (by omega)
          have BZ := Lib.hid (bal_yes q b c (F - 1) wr (HM.out.later hKK) (G.out.ba HC.out ((dyB_iff _).2 (by omega))))
          rw [bal_nil (l := b.ens) (d := F - 1) fun x hx => by have := FL.out x hx; omega] at BZ
          clear z
          go_wp2_with fail
          refine BZ.out.mono ?_
          rintro e w5 ⟨rfl, hK5⟩
          go_wp2
          go_ret
          exact ⟨rfl, HK.out.trans (hKK.trans hK5)⟩
  · refine (bal_no q b c 292193 w1 (HM.out.later hK1) ok).mono ?_
    rintro e w2 ⟨rfl, hK3⟩
    have hne : (baE b c 292193 != 0) = true := by simpa using ok
    clear ok
    generalize baE b c 292193 = ek at *
    go_wp2
    go_ret
    exact ⟨rfl, HK.out.trans (hK1.trans hK3)⟩
end Go.Proofs.Ytndplbpdojbieaa
