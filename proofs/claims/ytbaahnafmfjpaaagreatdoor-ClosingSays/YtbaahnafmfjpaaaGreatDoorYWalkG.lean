/-
  What the library's pdqsort_func does to the row of entries, where the plain function says so. No condition but those that each theorem names.
-/
import Derived.Test.YtbaahnafmfjpaaaGreatDoorYWalkF
namespace Go.Proofs.YtbaahnafmfjpaaaGreatDoor
open Go.RowKit
set_option linter.unusedVariables false

theorem parL_mid {a : Nat} : ∀ (n : Nat) {d dF : Nat → Nat} {i0 j0 m : Nat}, parL a n d i0 j0 = some (dF, m) → m ≤ j0
  | 0, _, _, _, _, _, h => by cases h
  | n + 1, d, dF, i0, j0, m, h => by
    obtain ⟨k, I, J, hk, hI, hJ, hw⟩ := parL_ways h
    have b := scD_bd (d := d) (a := a) (i := I) j0
    rw [hJ] at b
    obtain rfl : n = k := by omega
    rcases hw with ⟨_, _, rfl⟩ | ⟨_, h2⟩
    · exact b
    · have := parL_mid n h2; omega
theorem parO_mid {d d' : Nat → Nat} {a b pv mid : Nat} {al : Bool} (h : parO d a b pv = some (d', mid, al)) : a < mid ∧ mid ≤ b - 1 := by
  obtain ⟨I, J, hI, hJ, hw⟩ := parO_ways h
  have b := scD_bd (d := swD d a pv) (a := a) (i := I) (b - 1)
  rw [hJ] at b
  rcases hw with ⟨_, h1, _, rfl, _⟩ | ⟨_, d2, h2, h1, _⟩
  · exact ⟨h1, b⟩
  · have := parL_mid 61 h2
    exact ⟨h1, by omega⟩
/-- The ways that a round goes. -/
theorem pdqO_ways {n : Nat} {d d' : Nat → Nat} {a b : Nat} {wb wp : Bool} (h : pdqO n d a b wb wp = some d') : ∃ k, n = k + 1 ∧
    ((b - a ≤ 12 ∧ d' = insD d a b) ∨ (12 < b - a ∧ wb = true ∧ chS d a b ≠ 12 ∧
      (((wp = true ∧ chS d a b = 0) ∧ pisO d a b = some (d', true)) ∨
       (((wp = true ∧ chS d a b = 0 ∧ pisO d a b = some (d, false)) ∨ ¬ (wp = true ∧ chS d a b = 0)) ∧ (a = 0 ∨ lsD d (a - 1) (chP d a b) = true) ∧ ∃ d2 mid al, parO d a b (chP d a b) = some (d2, mid, al) ∧
        ((mid - a < b - mid ∧ ∃ d3, pdqO k d2 a mid true true = some d3 ∧ pdqO k d3 (mid + 1) b (Nat.ble ((b - a) / 8) (mid - a)) al = some d') ∨
         (¬ mid - a < b - mid ∧ ∃ d3, pdqO k d2 (mid + 1) b true true = some d3 ∧ pdqO k d3 a mid (Nat.ble ((b - a) / 8) (b - mid)) al = some d')))))) := by
  cases n with
  | zero => cases h
  | succ k =>
    refine ⟨k, rfl, ?_⟩
    rw [pdqO] at h
    by_cases c : b - a ≤ 12
    · rw [(ble_iff _ _).2 c] at h
      exact .inl ⟨c, by simpa using h.symm⟩
    · rw [ble_no c] at h
      cases wb
      · cases h
      · by_cases s12 : chS d a b = 12
        · rw [(beq_iff _ _).2 s12] at h; cases h
        · rw [beq_no s12] at h
          refine .inr ⟨by omega, rfl, s12, ?_⟩
          have rest : ∀ o : (Nat → Nat) × Bool, o = (d, false) → (match (some o : Option ((Nat → Nat) × Bool)) with
              | none => none
              | some (d1, true) => some d1
              | some (d1, false) =>
                bif Nat.blt 0 a && !(lsD d1 (a - 1) (chP d a b)) then none else
                match parO d1 a b (chP d a b) with
                | none => none
                | some (d2, mid, al) =>
                  bif Nat.blt (mid - a) (b - mid) then
                    match pdqO k d2 a mid true true with
                    | none => none
                    | some d3 => pdqO k d3 (mid + 1) b (Nat.ble ((b - a) / 8) (mid - a)) al
                  else
                    match pdqO k d2 (mid + 1) b true true with
                    | none => none
                    | some d3 => pdqO k d3 a mid (Nat.ble ((b - a) / 8) (b - mid)) al) = some d' →
              (a = 0 ∨ lsD d (a - 1) (chP d a b) = true) ∧ ∃ d2 mid al, parO d a b (chP d a b) = some (d2, mid, al) ∧
                ((mid - a < b - mid ∧ ∃ d3, pdqO k d2 a mid true true = some d3 ∧ pdqO k d3 (mid + 1) b (Nat.ble ((b - a) / 8) (mid - a)) al = some d') ∨
                 (¬ mid - a < b - mid ∧ ∃ d3, pdqO k d2 (mid + 1) b true true = some d3 ∧ pdqO k d3 a mid (Nat.ble ((b - a) / 8) (b - mid)) al = some d')) := by
            rintro _ rfl h
            simp only [] at h
            have ha : a = 0 ∨ lsD d (a - 1) (chP d a b) = true := by
              by_cases az : a = 0
              · exact .inl az
              · right
                cases hl : lsD d (a - 1) (chP d a b)
                · rw [hl, (blt_iff 0 a).2 (by omega)] at h; cases h
                · rfl
            refine ⟨ha, ?_⟩
            have hb : (Nat.blt 0 a && !(lsD d (a - 1) (chP d a b))) = false := by
              rcases ha with az | hl
              · rw [blt_no (by omega)]; rfl
              · rw [hl]; simp
            rw [hb] at h
            simp only [cond_false] at h
            cases hp : parO d a b (chP d a b) with
            | none => rw [hp] at h; cases h
            | some r =>
              obtain ⟨d2, mid, al⟩ := r
              rw [hp] at h
              simp only [] at h
              refine ⟨d2, mid, al, rfl, ?_⟩
              by_cases q : mid - a < b - mid
              · rw [(blt_iff _ _).2 q] at h
                simp only [cond_true] at h
                cases hr : pdqO k d2 a mid true true with
                | none => rw [hr] at h; cases h
                | some d3 => rw [hr] at h; exact .inl ⟨q, d3, rfl, h⟩
              · rw [blt_no q] at h
                simp only [cond_false] at h
                cases hr : pdqO k d2 (mid + 1) b true true with
                | none => rw [hr] at h; cases h
                | some d3 => rw [hr] at h; exact .inr ⟨q, d3, rfl, h⟩
          by_cases z : wp = true ∧ chS d a b = 0
          · obtain ⟨rfl, z0⟩ := z
            rw [(beq_iff _ _).2 z0] at h
            simp only [Bool.not_true, cond_false, Bool.and_self, cond_true] at h
            cases hp : pisO d a b with
            | none => rw [hp] at h; cases h
            | some r =>
              obtain ⟨d1, ok⟩ := r
              rw [hp] at h
              cases ok
              · have e : d1 = d := by
                  rcases pisO_ways hp with ⟨_, _, q⟩ | ⟨_, _, q, _⟩ | ⟨_, _, _, _, _, _, _, q⟩
                  · cases q
                  · exact q
                  · cases q
                subst e
                exact .inr ⟨.inl ⟨rfl, z0, rfl⟩, rest _ rfl h⟩
              · simp only [] at h
                obtain rfl : d1 = d' := by simpa using h
                exact .inl ⟨⟨rfl, z0⟩, rfl⟩
          · have zb : (wp && Nat.beq (chS d a b) 0) = false := by
              cases wp
              · rfl
              · rw [beq_no (fun e => z ⟨rfl, e⟩)]; rfl
            rw [zb] at h
            simp only [Bool.not_true, cond_false] at h
            exact .inr ⟨.inr z, rest _ rfl h⟩
theorem chP_lt {N : Nat} (d : Nat → Nat) {a b : Nat} (h : 13 + a ≤ b) (hb : b ≤ N) : chP d a b < N := by
  unfold chP chI chJ chK
  exact medJ_lt d (nth3_lt d (by omega)) (nth3_lt d (by omega)) (nth3_lt d (by omega))
section
variable {B : World} {p N bx cap : Nat} {C : En} {sf : Nat} {sb : Array Value}
set_option maxRecDepth 100000 in
set_option maxHeartbeats 8000000 in
theorem pdqY_any (E : EnvY B p N bx cap C sf sb) (lim : Nat) (l0 : 0 < lim) (l9 : lim ≤ 1000) : ∀ (n a b : Nat) (d d' : Nat → Nat) (w : World) (x y : Int), x = a → y = b → a ≤ b → b ≤ N → InY N d → Sy B w p N bx cap C d → pdqO n d a b true true = some d' →
    Calls Tryz.prog 70 #[.agg #[lessW bx, swapW sf sb], .int .i64 x, .int .i64 y, .int .i64 (lim : Int)] w (fun e w' => WrY B w p N bx cap C d' e w' ∧ InY N d') := by
  intro n
  induction n using Nat.strongRecOn with
  | _ n ih =>
  intro a b d d' w x y hx hy hab hbN hI hS hp
  subst hx hy
  have hN := E.hN
  have EE := Lib.hid E
  have IH := Lib.hid ih
  have hF := FY.new (w := w) (lv := lessW bx) (sv := swapW sf sb) (t := 99)
  have hK := (Kept.refl w).alloc (.cells #[lessW bx, swapW sf sb] 99)
  have hne : w.heap.size ≠ p := by have := hS.row.lt; omega
  have hS1 := hS.later hK
  have hT1 := Lib.hid (show Turn p w (w.alloc (.cells #[lessW bx, swapW sf sb] 99)) from Turn.kept hK)
  have HF := Lib.hid hF
  have HP := Lib.hid hp
  have II := Lib.hid hI
  have lz : ((lim : Int) == 0) = false := by rw [beq_eq_false_iff_ne]; omega
  have lz2 : (lim == 0) = false := by rw [beq_eq_false_iff_ne]; omega
  clear hS hK E hI hF hp ih
  go_enter Tryz.func70, Tryz.ntmps70
  go_wp2_with fail
  generalize w.alloc (.cells #[lessW bx, swapW sf sb] 99) = w1 at *
  generalize w.heap.size = fb at *
  go_loopw [1, 2, 3, 8, 9] (fun s1 s2 s3 s8 s9 wr => ∃ (m : Nat) (d1 : Nat → Nat) (a1 b1 : Nat) (wb wp : Bool), m ≤ n ∧ s1 = .int .i64 a1 ∧ s2 = .int .i64 b1 ∧ s3 = .int .i64 lim ∧ s8 = .bool wb ∧ s9 = .bool wp ∧ Hid (pdqO m d1 a1 b1 wb wp = some d') ∧ a1 ≤ b1 ∧ b1 ≤ N ∧ Hid (InY N d1) ∧ Sy B wr p N bx cap C d1 ∧ Turn p w1 wr) (fun s1 s2 _ _ _ _ => (intOf s2 - intOf s1).toNat)
  case atStart => exact ⟨n, d, a, b, true, true, Nat.le_refl _, rfl, rfl, rfl, rfl, rfl, HP, hab, hbN, II, hS1, Turn.refl _ _⟩
  case round =>
    clear hS1 HP II hab hbN
    obtain ⟨m, d1, a1, b1, wb, wp, mn, rfl, rfl, rfl, rfl, rfl, hP, ab, bN, hI1, hO1, hK1⟩ := hrel
    obtain ⟨k, rfl, hw⟩ := pdqO_ways hP.out
    obtain ⟨L, hL⟩ : ∃ L, b1 - a1 = L := ⟨_, rfl⟩
    obtain ⟨Q8, hQ8⟩ : ∃ Q8, L / 8 = Q8 := ⟨_, rfl⟩
    have t1 : IntKind.i64.wrap ((b1 : Int) - (a1 : Int)) = (L : Int) := by rw [show (b1 : Int) - (a1 : Int) = (L : Int) by omega]; exact IntWalk.i64_in _ (by omega)
    have t2 : Int.tdiv (L : Int) 8 = (Q8 : Int) := by rw [Int.tdiv_eq_ediv_of_nonneg (by omega)]; omega
    have t3 : IntKind.i64.wrap (Q8 : Int) = (Q8 : Int) := IntWalk.i64_in _ (by omega)
    have F := HF.out.turn hK1 hne
    obtain ⟨f0, f1, f2⟩ := id F
    clear hP F
    rcases hw with ⟨c, e⟩ | ⟨c, rfl, s12, hw⟩
    · have IN := Lib.hid (insY_any EE.out a1 b1 (a1 : Int) (b1 : Int) rfl rfl ab bN hI1.out hO1)
      have c12 : (L : Int) ≤ 12 := by omega
      rw [← e] at IN
      clear e
      go_wp2_with fail
      refine IN.out.mono ?_
      rintro e w3 ⟨⟨rfl, hS3, hT3⟩, hI3⟩
      have RT := Lib.hid (hT1.out.trans (hK1.trans hT3))
      clear hT3 f0 f1 f2
      go_wp2
      exact bodyPost_ret (v := .tuple #[]) (by simp [results, Tryz.results70, go_sem]) rfl ⟨⟨rfl, hS3, RT.out⟩, hI3⟩
    · have c12 : decide ((L : Int) ≤ 12) = false := by simp; omega
      have c13 : decide (L ≤ 12) = false := by simp; omega
      have CH := Lib.hid (choose_any EE.out a1 b1 (a1 : Int) (b1 : Int) rfl rfl (by omega) bN hI1.out hO1 s12)
      have pvN := chP_lt d1 (a := a1) (b := b1) (by omega) bN
      rcases hw with ⟨⟨rfl, z0⟩, hpi⟩ | ⟨hz, hless, d2, mid, al, hpar, hnext⟩
      · rw [(beq_iff _ _).2 z0] at CH
        simp only [cond_true] at CH
        generalize chP d1 a1 b1 = pv at *
        clear s12 z0
        go_wp2_with fail
        refine CH.out.mono ?_
        rintro e w2 ⟨rfl, hS2, hT2⟩
        have HT2 := Lib.hid (hK1.trans hT2)
        have PI := Lib.hid (pisY_any EE.out a1 b1 (a1 : Int) (b1 : Int) rfl rfl (by omega) bN hI1.out hS2 hpi)
        clear f0 f1 f2 hT2 CH
        obtain ⟨f0, f1, f2⟩ := HF.out.turn HT2.out hne
        go_wp2_with fail
        refine PI.out.mono ?_
        rintro e w3 ⟨rfl, hS3, hT3, hI3⟩
        have RT := Lib.hid (hT1.out.trans (HT2.out.trans hT3))
        clear hT3 f0 f1 f2 PI
        go_wp2
        exact bodyPost_ret (v := .tuple #[]) (by simp [results, Tryz.results70, go_sem]) rfl ⟨⟨rfl, hS3, RT.out⟩, hI3⟩
      · rcases hz with ⟨rfl, z0, hpi⟩ | hz
        · rw [(beq_iff _ _).2 z0] at CH
          simp only [cond_true] at CH
          generalize chP d1 a1 b1 = pv at *
          clear s12 z0
          go_wp2_with fail
          refine CH.out.mono ?_
          rintro e w2 ⟨rfl, hS2, hT2⟩
          have HT2 := Lib.hid (hK1.trans hT2)
          have PI := Lib.hid (pisY_any EE.out a1 b1 (a1 : Int) (b1 : Int) rfl rfl (by omega) bN hI1.out hS2 hpi)
          clear f0 f1 f2 hT2 CH
          obtain ⟨f0, f1, f2⟩ := HF.out.turn HT2.out hne
          go_wp2_with fail
          refine PI.out.mono ?_
          rintro e w3 ⟨rfl, hS3, hT3, hI3⟩
          have hT3 := HT2.out.trans hT3
          clear f0 f1 f2 PI hI3
          have WT := Lib.hid hT3
          have PA := Lib.hid (parY_any EE.out a1 b1 pv (a1 : Int) (b1 : Int) (pv : Int) rfl rfl rfl (by omega) bN pvN hI1.out hS3 hpar)
          have F := HF.out.turn hT3 hne
          obtain ⟨f0, f1, f2⟩ := id F
          rcases Nat.eq_zero_or_pos a1 with az | az
          case' inl =>
            have AZ := Lib.hid az
            have ga : ¬ 0 < a1 := by omega
            have gb : decide (0 < a1) = false := by simpa using ga
            clear az
            go_wp2_with fail
            refine PA.out.mono ?_
            rintro e w5 ⟨rfl, hS5, hT5, hI5⟩
            have HT5 := Lib.hid (WT.out.trans hT5)
          case' inr =>
            have LL := Lib.hid (EE.out.less hI1.out hS3 (a1 - 1) pv ((a1 : Int) - 1) (pv : Int) (by omega) rfl (by omega) pvN)
            have u8 : IntKind.i64.wrap ((a1 : Int) - 1) = (a1 : Int) - 1 := IntWalk.i64_in _ (by omega)
            have ga : (0 : Int) < (a1 : Int) := by omega
            rw [hless.resolve_left (by omega)] at LL
            go_wp2_with fail
            refine LL.out.mono ?_
            rintro e w4 ⟨rfl, hk4⟩
            have WT4 := Lib.hid (WT.out.trans (Turn.kept hk4))
            have PA4 := Lib.hid (parY_any EE.out a1 b1 pv (a1 : Int) (b1 : Int) (pv : Int) rfl rfl rfl (by omega) bN pvN hI1.out (hS3.later hk4) hpar)
            clear f0 f1 f2 F LL
            obtain ⟨f0, f1, f2⟩ := HF.out.turn WT4.out hne
            go_wp2_with fail
            refine PA4.out.mono ?_
            rintro e w5 ⟨rfl, hS5, hT5, hI5⟩
            have HT5 := Lib.hid (WT4.out.trans hT5)
          all_goals
            clear f0 f1 f2 hT5
            obtain ⟨f0, f1, f2⟩ := HF.out.turn HT5.out hne
            obtain ⟨m1, m2⟩ := parO_mid hpar
            obtain ⟨D1, hD1⟩ : ∃ D1, mid - a1 = D1 := ⟨_, rfl⟩
            obtain ⟨D2, hD2⟩ : ∃ D2, b1 - mid = D2 := ⟨_, rfl⟩
            have v1 : IntKind.i64.wrap ((mid : Int) - (a1 : Int)) = (D1 : Int) := by rw [show (mid : Int) - (a1 : Int) = (D1 : Int) by omega]; exact IntWalk.i64_in _ (by omega)
            have v2 : IntKind.i64.wrap ((b1 : Int) - (mid : Int)) = (D2 : Int) := by rw [show (b1 : Int) - (mid : Int) = (D2 : Int) by omega]; exact IntWalk.i64_in _ (by omega)
            have v3 : IntKind.i64.wrap ((mid : Int) + 1) = (mid : Int) + 1 := IntWalk.i64_in _ (by omega)
            rcases hnext with ⟨c, d3, hR1, hR2⟩ | ⟨c, d3, hR1, hR2⟩
            · obtain ⟨wb', hwb⟩ : ∃ wb', Nat.ble Q8 D1 = wb' := ⟨_, rfl⟩
              rw [hD1, hL, hQ8, hwb] at hR2
              have g1 : (D1 : Int) < (D2 : Int) := by omega
              have g2 : decide ((Q8 : Int) ≤ (D1 : Int)) = wb' := by rw [← hwb, Bool.eq_iff_iff, ble_iff]; simp
              have g3 : decide (Q8 ≤ D1) = wb' := by rw [← hwb, Bool.eq_iff_iff, ble_iff]; simp
              have IHR := Lib.hid (IH.out k (by omega) a1 mid d2 d3 w5 (a1 : Int) (mid : Int) rfl rfl (by omega) (by omega) hI5 hS5 hR1)
              have HN := Lib.hid hR2
              clear hR1 hR2 hwb hS5 hI5
              go_wp2_with fail
              refine IHR.out.mono ?_
              rintro e w6 ⟨⟨rfl, hS9, hT9⟩, hI9⟩
              have HT9 := Lib.hid (HT5.out.trans hT9)
              have hI9 := Lib.hid hI9
              clear f0 f1 f2 hT9 IHR
              go_wp2
              go_roundw
              case rel => exact ⟨k, d3, mid + 1, b1, wb', al, by omega, by go_num, rfl, rfl, rfl, rfl, HN, by omega, by omega, hI9, hS9, HT9.out⟩
              case measure => simp [intOf]; omega
            · obtain ⟨wb', hwb⟩ : ∃ wb', Nat.ble Q8 D2 = wb' := ⟨_, rfl⟩
              rw [hD2, hL, hQ8, hwb] at hR2
              have g1 : decide ((D1 : Int) < (D2 : Int)) = false := by simp; omega
              have g4 : decide (D1 < D2) = false := by simp; omega
              have g2 : decide ((Q8 : Int) ≤ (D2 : Int)) = wb' := by rw [← hwb, Bool.eq_iff_iff, ble_iff]; simp
              have g3 : decide (Q8 ≤ D2) = wb' := by rw [← hwb, Bool.eq_iff_iff, ble_iff]; simp
              have IHR := Lib.hid (IH.out k (by omega) (mid + 1) b1 d2 d3 w5 ((mid : Int) + 1) (b1 : Int) (by omega) rfl (by omega) (by omega) hI5 hS5 hR1)
              have HN := Lib.hid hR2
              clear hR1 hR2 hwb hS5 hI5
              go_wp2_with fail
              refine IHR.out.mono ?_
              rintro e w6 ⟨⟨rfl, hS9, hT9⟩, hI9⟩
              have HT9 := Lib.hid (HT5.out.trans hT9)
              have hI9 := Lib.hid hI9
              clear f0 f1 f2 hT9 IHR
              go_wp2
              go_roundw
              case rel => exact ⟨k, d3, a1, mid, wb', al, by omega, rfl, rfl, rfl, rfl, rfl, HN, by omega, by omega, hI9, hS9, HT9.out⟩
              case measure => simp [intOf]; omega
        · by_cases z0 : chS d1 a1 b1 = 0
          · obtain rfl : wp = false := by
              cases wp
              · rfl
              · exact absurd ⟨rfl, z0⟩ hz
            rw [(beq_iff _ _).2 z0] at CH
            simp only [cond_true] at CH
            generalize chP d1 a1 b1 = pv at *
            clear s12 z0 hz
            go_wp2_with fail
            refine CH.out.mono ?_
            rintro e w3 ⟨rfl, hS3, hT3⟩
            have hT3 := hK1.trans hT3
            clear f0 f1 f2 CH
            have WT := Lib.hid hT3
            have PA := Lib.hid (parY_any EE.out a1 b1 pv (a1 : Int) (b1 : Int) (pv : Int) rfl rfl rfl (by omega) bN pvN hI1.out hS3 hpar)
            have F := HF.out.turn hT3 hne
            obtain ⟨f0, f1, f2⟩ := id F
            rcases Nat.eq_zero_or_pos a1 with az | az
            case' inl =>
              have AZ := Lib.hid az
              have ga : ¬ 0 < a1 := by omega
              have gb : decide (0 < a1) = false := by simpa using ga
              clear az
              go_wp2_with fail
              refine PA.out.mono ?_
              rintro e w5 ⟨rfl, hS5, hT5, hI5⟩
              have HT5 := Lib.hid (WT.out.trans hT5)
            case' inr =>
              have LL := Lib.hid (EE.out.less hI1.out hS3 (a1 - 1) pv ((a1 : Int) - 1) (pv : Int) (by omega) rfl (by omega) pvN)
              have u8 : IntKind.i64.wrap ((a1 : Int) - 1) = (a1 : Int) - 1 := IntWalk.i64_in _ (by omega)
              have ga : (0 : Int) < (a1 : Int) := by omega
              rw [hless.resolve_left (by omega)] at LL
              go_wp2_with fail
              refine LL.out.mono ?_
              rintro e w4 ⟨rfl, hk4⟩
              have WT4 := Lib.hid (WT.out.trans (Turn.kept hk4))
              have PA4 := Lib.hid (parY_any EE.out a1 b1 pv (a1 : Int) (b1 : Int) (pv : Int) rfl rfl rfl (by omega) bN pvN hI1.out (hS3.later hk4) hpar)
              clear f0 f1 f2 F LL
              obtain ⟨f0, f1, f2⟩ := HF.out.turn WT4.out hne
              go_wp2_with fail
              refine PA4.out.mono ?_
              rintro e w5 ⟨rfl, hS5, hT5, hI5⟩
              have HT5 := Lib.hid (WT4.out.trans hT5)
            all_goals
              clear f0 f1 f2 hT5
              obtain ⟨f0, f1, f2⟩ := HF.out.turn HT5.out hne
              obtain ⟨m1, m2⟩ := parO_mid hpar
              obtain ⟨D1, hD1⟩ : ∃ D1, mid - a1 = D1 := ⟨_, rfl⟩
              obtain ⟨D2, hD2⟩ : ∃ D2, b1 - mid = D2 := ⟨_, rfl⟩
              have v1 : IntKind.i64.wrap ((mid : Int) - (a1 : Int)) = (D1 : Int) := by rw [show (mid : Int) - (a1 : Int) = (D1 : Int) by omega]; exact IntWalk.i64_in _ (by omega)
              have v2 : IntKind.i64.wrap ((b1 : Int) - (mid : Int)) = (D2 : Int) := by rw [show (b1 : Int) - (mid : Int) = (D2 : Int) by omega]; exact IntWalk.i64_in _ (by omega)
              have v3 : IntKind.i64.wrap ((mid : Int) + 1) = (mid : Int) + 1 := IntWalk.i64_in _ (by omega)
              rcases hnext with ⟨c, d3, hR1, hR2⟩ | ⟨c, d3, hR1, hR2⟩
              · obtain ⟨wb', hwb⟩ : ∃ wb', Nat.ble Q8 D1 = wb' := ⟨_, rfl⟩
                rw [hD1, hL, hQ8, hwb] at hR2
                have g1 : (D1 : Int) < (D2 : Int) := by omega
                have g2 : decide ((Q8 : Int) ≤ (D1 : Int)) = wb' := by rw [← hwb, Bool.eq_iff_iff, ble_iff]; simp
                have g3 : decide (Q8 ≤ D1) = wb' := by rw [← hwb, Bool.eq_iff_iff, ble_iff]; simp
                have IHR := Lib.hid (IH.out k (by omega) a1 mid d2 d3 w5 (a1 : Int) (mid : Int) rfl rfl (by omega) (by omega) hI5 hS5 hR1)
                have HN := Lib.hid hR2
                clear hR1 hR2 hwb hS5 hI5
                go_wp2_with fail
                refine IHR.out.mono ?_
                rintro e w6 ⟨⟨rfl, hS9, hT9⟩, hI9⟩
                have HT9 := Lib.hid (HT5.out.trans hT9)
                have hI9 := Lib.hid hI9
                clear f0 f1 f2 hT9 IHR
                go_wp2
                go_roundw
                case rel => exact ⟨k, d3, mid + 1, b1, wb', al, by omega, by go_num, rfl, rfl, rfl, rfl, HN, by omega, by omega, hI9, hS9, HT9.out⟩
                case measure => simp [intOf]; omega
              · obtain ⟨wb', hwb⟩ : ∃ wb', Nat.ble Q8 D2 = wb' := ⟨_, rfl⟩
                rw [hD2, hL, hQ8, hwb] at hR2
                have g1 : decide ((D1 : Int) < (D2 : Int)) = false := by simp; omega
                have g4 : decide (D1 < D2) = false := by simp; omega
                have g2 : decide ((Q8 : Int) ≤ (D2 : Int)) = wb' := by rw [← hwb, Bool.eq_iff_iff, ble_iff]; simp
                have g3 : decide (Q8 ≤ D2) = wb' := by rw [← hwb, Bool.eq_iff_iff, ble_iff]; simp
                have IHR := Lib.hid (IH.out k (by omega) (mid + 1) b1 d2 d3 w5 ((mid : Int) + 1) (b1 : Int) (by omega) rfl (by omega) (by omega) hI5 hS5 hR1)
                have HN := Lib.hid hR2
                clear hR1 hR2 hwb hS5 hI5
                go_wp2_with fail
                refine IHR.out.mono ?_
                rintro e w6 ⟨⟨rfl, hS9, hT9⟩, hI9⟩
                have HT9 := Lib.hid (HT5.out.trans hT9)
                have hI9 := Lib.hid hI9
                clear f0 f1 f2 hT9 IHR
                go_wp2
                go_roundw
                case rel => exact ⟨k, d3, a1, mid, wb', al, by omega, rfl, rfl, rfl, rfl, rfl, HN, by omega, by omega, hI9, hS9, HT9.out⟩
                case measure => simp [intOf]; omega
          · rw [beq_no z0] at CH
            simp only [cond_false] at CH
            generalize chP d1 a1 b1 = pv at *
            clear s12 z0 hz
            go_wp2_with fail
            refine CH.out.mono ?_
            rintro e w3 ⟨rfl, hS3, hT3⟩
            have hT3 := hK1.trans hT3
            clear f0 f1 f2 CH
            cases wp
            all_goals
              have WT := Lib.hid hT3
              have PA := Lib.hid (parY_any EE.out a1 b1 pv (a1 : Int) (b1 : Int) (pv : Int) rfl rfl rfl (by omega) bN pvN hI1.out hS3 hpar)
              have F := HF.out.turn hT3 hne
              obtain ⟨f0, f1, f2⟩ := id F
              rcases Nat.eq_zero_or_pos a1 with az | az
              case' inl =>
                have AZ := Lib.hid az
                have ga : ¬ 0 < a1 := by omega
                have gb : decide (0 < a1) = false := by simpa using ga
                clear az
                go_wp2_with fail
                refine PA.out.mono ?_
                rintro e w5 ⟨rfl, hS5, hT5, hI5⟩
                have HT5 := Lib.hid (WT.out.trans hT5)
              case' inr =>
                have LL := Lib.hid (EE.out.less hI1.out hS3 (a1 - 1) pv ((a1 : Int) - 1) (pv : Int) (by omega) rfl (by omega) pvN)
                have u8 : IntKind.i64.wrap ((a1 : Int) - 1) = (a1 : Int) - 1 := IntWalk.i64_in _ (by omega)
                have ga : (0 : Int) < (a1 : Int) := by omega
                rw [hless.resolve_left (by omega)] at LL
                go_wp2_with fail
                refine LL.out.mono ?_
                rintro e w4 ⟨rfl, hk4⟩
                have WT4 := Lib.hid (WT.out.trans (Turn.kept hk4))
                have PA4 := Lib.hid (parY_any EE.out a1 b1 pv (a1 : Int) (b1 : Int) (pv : Int) rfl rfl rfl (by omega) bN pvN hI1.out (hS3.later hk4) hpar)
                clear f0 f1 f2 F LL
                obtain ⟨f0, f1, f2⟩ := HF.out.turn WT4.out hne
                go_wp2_with fail
                refine PA4.out.mono ?_
                rintro e w5 ⟨rfl, hS5, hT5, hI5⟩
                have HT5 := Lib.hid (WT4.out.trans hT5)
              all_goals
                clear f0 f1 f2 hT5
                obtain ⟨f0, f1, f2⟩ := HF.out.turn HT5.out hne
                obtain ⟨m1, m2⟩ := parO_mid hpar
                obtain ⟨D1, hD1⟩ : ∃ D1, mid - a1 = D1 := ⟨_, rfl⟩
                obtain ⟨D2, hD2⟩ : ∃ D2, b1 - mid = D2 := ⟨_, rfl⟩
                have v1 : IntKind.i64.wrap ((mid : Int) - (a1 : Int)) = (D1 : Int) := by rw [show (mid : Int) - (a1 : Int) = (D1 : Int) by omega]; exact IntWalk.i64_in _ (by omega)
                have v2 : IntKind.i64.wrap ((b1 : Int) - (mid : Int)) = (D2 : Int) := by rw [show (b1 : Int) - (mid : Int) = (D2 : Int) by omega]; exact IntWalk.i64_in _ (by omega)
                have v3 : IntKind.i64.wrap ((mid : Int) + 1) = (mid : Int) + 1 := IntWalk.i64_in _ (by omega)
                rcases hnext with ⟨c, d3, hR1, hR2⟩ | ⟨c, d3, hR1, hR2⟩
                · obtain ⟨wb', hwb⟩ : ∃ wb', Nat.ble Q8 D1 = wb' := ⟨_, rfl⟩
                  rw [hD1, hL, hQ8, hwb] at hR2
                  have g1 : (D1 : Int) < (D2 : Int) := by omega
                  have g2 : decide ((Q8 : Int) ≤ (D1 : Int)) = wb' := by rw [← hwb, Bool.eq_iff_iff, ble_iff]; simp
                  have g3 : decide (Q8 ≤ D1) = wb' := by rw [← hwb, Bool.eq_iff_iff, ble_iff]; simp
                  have IHR := Lib.hid (IH.out k (by omega) a1 mid d2 d3 w5 (a1 : Int) (mid : Int) rfl rfl (by omega) (by omega) hI5 hS5 hR1)
                  have HN := Lib.hid hR2
                  clear hR1 hR2 hwb hS5 hI5
                  go_wp2_with fail
                  refine IHR.out.mono ?_
                  rintro e w6 ⟨⟨rfl, hS9, hT9⟩, hI9⟩
                  have HT9 := Lib.hid (HT5.out.trans hT9)
                  have hI9 := Lib.hid hI9
                  clear f0 f1 f2 hT9 IHR
                  go_wp2
                  go_roundw
                  case rel => exact ⟨k, d3, mid + 1, b1, wb', al, by omega, by go_num, rfl, rfl, rfl, rfl, HN, by omega, by omega, hI9, hS9, HT9.out⟩
                  case measure => simp [intOf]; omega
                · obtain ⟨wb', hwb⟩ : ∃ wb', Nat.ble Q8 D2 = wb' := ⟨_, rfl⟩
                  rw [hD2, hL, hQ8, hwb] at hR2
                  have g1 : decide ((D1 : Int) < (D2 : Int)) = false := by simp; omega
                  have g4 : decide (D1 < D2) = false := by simp; omega
                  have g2 : decide ((Q8 : Int) ≤ (D2 : Int)) = wb' := by rw [← hwb, Bool.eq_iff_iff, ble_iff]; simp
                  have g3 : decide (Q8 ≤ D2) = wb' := by rw [← hwb, Bool.eq_iff_iff, ble_iff]; simp
                  have IHR := Lib.hid (IH.out k (by omega) (mid + 1) b1 d2 d3 w5 ((mid : Int) + 1) (b1 : Int) (by omega) rfl (by omega) (by omega) hI5 hS5 hR1)
                  have HN := Lib.hid hR2
                  clear hR1 hR2 hwb hS5 hI5
                  go_wp2_with fail
                  refine IHR.out.mono ?_
                  rintro e w6 ⟨⟨rfl, hS9, hT9⟩, hI9⟩
                  have HT9 := Lib.hid (HT5.out.trans hT9)
                  have hI9 := Lib.hid hI9
                  clear f0 f1 f2 hT9 IHR
                  go_wp2
                  go_roundw
                  case rel => exact ⟨k, d3, a1, mid, wb', al, by omega, rfl, rfl, rfl, rfl, rfl, HN, by omega, by omega, hI9, hS9, HT9.out⟩
                  case measure => simp [intOf]; omega
end
end Go.Proofs.YtbaahnafmfjpaaaGreatDoor
