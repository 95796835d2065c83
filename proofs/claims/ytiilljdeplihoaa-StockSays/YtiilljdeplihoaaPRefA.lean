/-
  What the reference says of moves, and of means. No condition but those that each theorem names.
-/
import Derived.Test.YtiilljdeplihoaaPRefM
namespace Go.Proofs.Ytiilljdeplihoaa
open Go.RowKit
set_option linter.unusedVariables false

def inR (x a b : Int) : Bool := decide (a ≤ x) && decide (x ≤ b)
set_option maxHeartbeats 2000000 in
theorem skwi_any (x a b : Int) (w : World) :
    Calls Try.prog 29 #[.int .i64 x, .int .i64 a, .int .i64 b] w fun e w' => e = .returned (.bool (inR x a b)) ∧ w = w' := by
  by_cases h : a ≤ x
  · by_cases g : x ≤ b
    · go_enter Try.func29, Try.ntmps29
      go_wp2
      go_ret
      exact ⟨by simp [inR, h, g], rfl⟩
    · have g' : b < x := by omega
      go_enter Try.func29, Try.ntmps29
      go_wp2
      go_ret
      exact ⟨by simp [inR, g'], rfl⟩
  · have h' : x < a := by omega
    go_enter Try.func29, Try.ntmps29
    go_wp2
    go_ret
    exact ⟨by simp [inR]; omega, rfl⟩
theorem inR_yes {x a b : Int} (h1 : a ≤ x) (h2 : x ≤ b) : inR x a b = true := by simp [inR, h1, h2]
theorem inR_no {x a b : Int} (h : ¬ (a ≤ x ∧ x ≤ b)) : inR x a b = false := by
  unfold inR
  by_cases h1 : a ≤ x
  · have : ¬ x ≤ b := fun h2 => h ⟨h1, h2⟩
    simp [this]
  · simp [h1]
set_option maxHeartbeats 4000000 in
theorem rmoves_large (a : Option Addr) (l : List Mv) (cap : Nat) (w : World) (h : 40 < l.length) (hn : l.length ≤ maxLen) :
    Calls Try.prog 11 #[.slice a l.length cap] w fun e w' => e = .returned (.int .i64 (skE l)) ∧ Kept w w' := by
  rw [skE_large h]
  unfold maxLen at hn
  go_enter Try.func11, Try.ntmps11
  go_wp2
  go_ret
  exact ⟨rfl, Kept.refl _⟩
set_option maxHeartbeats 8000000 in
theorem rmoves_in (a : Option Addr) (l : List Mv) (cap : Nat) (w : World) (h : l.length ≤ 40) (hA : JArg eP w a l) :
    Calls Try.prog 11 #[.slice a l.length cap] w fun e w' => e = .returned (.int .i64 (skE l)) ∧ Kept w w' := by
  have HA := Lib.hid hA
  have SE := Lib.hid (show skE l = if ckL l = 0 then ckS 0 l else ckL l by unfold skE; rw [if_neg (by omega)])
  clear hA
  go_enter Try.func11, Try.ntmps11
  go_wp2
  go_loopw [13] (fun i wr => ∃ (k : Nat), k ≤ l.length ∧ i = .int .i64 k ∧ Hid (ckL l = ckL (l.drop k)) ∧ Kept w wr) (fun i _ => l.length - (intOf i).toNat)
  case atStart => exact ⟨0, Nat.zero_le _, rfl, Lib.hid rfl, Kept.refl _⟩
  case round =>
    obtain ⟨k, hk, rfl, HE, hK⟩ := hrel
    by_cases hlt : k < l.length
    · obtain ⟨p, off, rfl, hR⟩ := HA.out.at hlt
      have hR := hR.later hK
      have c0 := hR.c0 k hlt
      have c1 := hR.c1 k hlt
      have plt := hR.lt
      have HD := Lib.hid (drop_atP l k hlt)
      clear hR
      generalize l[k] = x at *
      have kA := hK.alloc (.cells #[.int .i64 x.1, .int .i64 x.2] 40)
      have one : ckM x = 1 → Hid (skE l = 1) := fun e => Lib.hid (by
        have h1 : ckL l = 1 := by rw [HE.out, HD.out, ckL, if_neg (by rw [e]; decide), e]
        rw [SE.out, if_neg (by rw [h1]; decide), h1])
      by_cases z : x.1 = 0
      · have HX := one (by unfold ckM; rw [if_pos (.inl z)])
        clear one hK
        go_wp2
        go_ret
        exact ⟨ret_int HX.out.symm, by rw [z] at kA; exact kA⟩
      · have zf : (x.1 == 0) = false := by simpa using z
        by_cases r1 : -1000000 ≤ x.1 ∧ x.1 ≤ 1000000
        · have I1 := Lib.hid (inR_yes r1.1 r1.2)
          by_cases r2 : 0 ≤ x.2 ∧ x.2 ≤ 1000000000000
          · have I2 := Lib.hid (inR_yes r2.1 r2.2)
            have r20 := r2.1
            by_cases neg : x.1 < 0
            · by_cases pos : 0 < x.2
              · have e : ckM x = 3 := by unfold ckM; rw [if_neg (by omega), if_neg (by omega), if_pos ⟨neg, by omega⟩]
                have HX := Lib.hid (show skE l = 3 by
                  have h1 : ckL l = 3 := by rw [HE.out, HD.out, ckL, if_neg (by rw [e]; decide), e]
                  rw [SE.out, if_neg (by rw [h1]; decide), h1])
                clear one hK r1 r2 e
                go_wp2_with fail
                refine (skwi_any _ _ _ _).mono ?_
                rintro e w1 ⟨rfl, rfl⟩
                rw [I1.out]
                go_wp2_with fail
                refine (skwi_any _ _ _ _).mono ?_
                rintro e w1 ⟨rfl, rfl⟩
                rw [I2.out]
                go_wp2
                go_ret
                exact ⟨ret_int HX.out.symm, kA⟩
              · have e : ckM x = 0 := ckM_of z r1.1 r1.2 r2.1 r2.2 (fun _ => by omega)
                have HX := Lib.hid (show ckL (x :: l.drop (k + 1)) = ckL (l.drop (k + 1)) by rw [ckL, if_pos e])
                clear one hK r1 r2 e
                go_wp2_with fail
                refine (skwi_any _ _ _ _).mono ?_
                rintro e w1 ⟨rfl, rfl⟩
                rw [I1.out]
                go_wp2_with fail
                refine (skwi_any _ _ _ _).mono ?_
                rintro e w1 ⟨rfl, rfl⟩
                rw [I2.out]
                go_wp2
                go_roundw
                case rel => exact ⟨k + 1, by omega, by go_num, Lib.hid (by rw [HE.out, HD.out, HX.out]), kA⟩
                case measure => simp [intOf]; omega
            · have e : ckM x = 0 := ckM_of z r1.1 r1.2 r2.1 r2.2 (fun h => absurd h neg)
              have HX := Lib.hid (show ckL (x :: l.drop (k + 1)) = ckL (l.drop (k + 1)) by rw [ckL, if_pos e])
              clear one hK r1 r2 e
              go_wp2_with fail
              refine (skwi_any _ _ _ _).mono ?_
              rintro e w1 ⟨rfl, rfl⟩
              rw [I1.out]
              go_wp2_with fail
              refine (skwi_any _ _ _ _).mono ?_
              rintro e w1 ⟨rfl, rfl⟩
              rw [I2.out]
              go_wp2
              go_roundw
              case rel => exact ⟨k + 1, by omega, by go_num, Lib.hid (by rw [HE.out, HD.out, HX.out]), kA⟩
              case measure => simp [intOf]; omega
          · have I2 := Lib.hid (inR_no r2)
            have HX := one (by unfold ckM; rw [if_neg (by omega), if_pos (by omega)])
            clear one hK r1 r2
            go_wp2_with fail
            refine (skwi_any _ _ _ _).mono ?_
            rintro e w1 ⟨rfl, rfl⟩
            rw [I1.out]
            go_wp2_with fail
            refine (skwi_any _ _ _ _).mono ?_
            rintro e w1 ⟨rfl, rfl⟩
            rw [I2.out]
            go_wp2
            go_ret
            exact ⟨ret_int HX.out.symm, kA⟩
        · have I1 := Lib.hid (inR_no r1)
          have HX := one (by unfold ckM; rw [if_pos (by omega)])
          clear one hK r1
          go_wp2_with fail
          refine (skwi_any _ _ _ _).mono ?_
          rintro e w1 ⟨rfl, rfl⟩
          rw [I1.out]
          go_wp2
          go_ret
          exact ⟨ret_int HX.out.symm, kA⟩
    · obtain rfl : k = l.length := by omega
      have Z : ckL l = 0 := by rw [HE.out, List.drop_length]; rfl
      have SC := Lib.hid (cnt_small Z)
      have SE2 := Lib.hid (show skE l = ckS 0 l by rw [SE.out, if_pos Z])
      clear hlt HE SE Z
      go_wp2
      go_loopw [5, 43] (fun c i wr => ∃ (k : Nat), k ≤ l.length ∧ i = .int .i64 k ∧ c = .int .i64 (cnt (l.take k)) ∧ Hid (skE l = ckS (cnt (l.take k)) (l.drop k)) ∧ Kept w wr) (fun _ i _ => l.length - (intOf i).toNat)
      case atStart => exact ⟨0, Nat.zero_le _, rfl, rfl, Lib.hid (by rw [SE2.out]; rfl), hK⟩
      case round =>
        clear hK
        obtain ⟨k, hk, rfl, rfl, HE, hK⟩ := hrel
        by_cases hlt : k < l.length
        · obtain ⟨p, off, rfl, hR⟩ := HA.out.at hlt
          have hR := hR.later hK
          have c0 := hR.c0 k hlt
          have c1 := hR.c1 k hlt
          have plt := hR.lt
          have HD := Lib.hid (drop_atP l k hlt)
          have cn : cnt (l.take (k + 1)) = cnt (l.take k) + (l[k]).1 := by rw [take_snocP l k hlt, cnt_app, cnt, cnt]; omega
          have b1 := SC.out k hk
          have b2 := SC.out (k + 1) hlt
          have CN := Lib.hid cn
          clear hR
          generalize l[k] = x at *
          rw [cn] at b2
          clear cn
          generalize cnt (l.take k) = c at *
          have kA := hK.alloc (.cells #[.int .i64 x.1, .int .i64 x.2] 40)
          have wr1 : IntKind.i64.wrap (c + x.1) = c + x.1 := IntWalk.i64_in _ (by omega)
          clear b1 b2
          by_cases ng : c + x.1 < 0
          · have HX := Lib.hid (show skE l = 8 by rw [HE.out, HD.out, ckS, if_pos ng])
            clear hK
            go_wp2
            go_ret
            exact ⟨ret_int HX.out.symm, kA⟩
          · have HX := Lib.hid (show skE l = ckS (cnt (l.take (k + 1))) (l.drop (k + 1)) by rw [HE.out, HD.out, ckS, if_neg ng, CN.out])
            clear hK
            go_wp2
            go_roundw
            case rel => exact ⟨k + 1, by omega, by go_num, by rw [CN.out], HX, kA⟩
            case measure => simp [intOf]; omega
        · obtain rfl : k = l.length := by omega
          have HX := Lib.hid (show skE l = 0 by rw [HE.out, List.drop_length]; rfl)
          clear hlt HE
          go_wp2
          go_ret
          exact ⟨ret_int HX.out.symm, hK⟩
theorem rmoves_any (a : Option Addr) (l : List Mv) (cap : Nat) (w : World) (hn : l.length ≤ maxLen) (hA : JArg eP w a l) :
    Calls Try.prog 11 #[.slice a l.length cap] w fun e w' => e = .returned (.int .i64 (skE l)) ∧ Kept w w' := by
  by_cases h : 40 < l.length
  · exact rmoves_large a l cap w h hn
  · exact rmoves_in a l cap w (by omega) hA
end Go.Proofs.Ytiilljdeplihoaa
