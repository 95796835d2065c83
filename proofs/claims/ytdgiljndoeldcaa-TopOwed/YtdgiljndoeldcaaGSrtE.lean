/-
  What the library's symMergeCmpFunc does to two sorted parts of a row: they are merged in order. No condition but those that each theorem names.
-/
import Derived.Test.YtdgiljndoeldcaaGSrtD
namespace Go.Proofs.Ytdgiljndoeldcaa
open Go.RowKit Go.Sort
set_option linter.unusedVariables false
variable {C : Int → Mv} {cap : Nat}

/-- The row behind the rotation, and what is known there. -/
def IRotCut (B : World) (p N : Nat) (T : Nat → Int) (s18 : Value) (mid : Nat) (wx : World) : Prop := s18 = .int .i64 mid ∧ IOw C wx p N T ∧ Kept B wx
theorem irotate_at (p N a m b : Nat) (x y z : Int) (d : Nat → Int) (F : Value) (B w : World) (hx : x = a) (hy : y = m) (hz : z = b) (hN : N ≤ 1000) (h1 : a < m) (h2 : m < b) (h3 : b ≤ N) (hO : IOw C w p N d) (hp : B.heap.size ≤ p) (hK : Kept B w) :
    Calls Try.prog 99 #[.slice (some ⟨p, 0, none⟩) N cap, .int .i64 x, .int .i64 y, .int .i64 z, F] w (IWrote C B p N (rot d a m b)) := by
  subst hx hy hz
  exact irotate_any p N a m b d F B w hN h1 h2 h3 hO hp hK
theorem rot_same (d : Nat → Int) (s m e : Nat) (h : s = m ∨ m = e) (h1 : s ≤ m) (h2 : m ≤ e) : rot d s m e = d := by
  funext q; unfold rot; repeat' split
  all_goals first | rfl | (exfalso; omega) | (congr 1; omega)
/-- What is asked of a call within. -/
def IIH (C : Int → Mv) (cap : Nat) (p N : Nat) (k : Int → Int) (B : World) (n : Nat) : Prop :=
  ∀ (a m b : Nat) (x y z : Int) (d : Nat → Int) (w : World), x = a → y = m → z = b → b - a ≤ n → IMergePre C B w p N a m b k d →
    Calls Try.prog 90 #[.slice (some ⟨p, 0, none⟩) N cap, .int .i64 x, .int .i64 y, .int .i64 z, iordF] w (ISortedPost C B p N k d a b)

set_option maxRecDepth 100000 in
set_option maxHeartbeats 8000000 in
theorem imerge_main (p N a m b n : Nat) (k : Int → Int) (d : Nat → Int) (B w : World) (hm1 : a + 1 < m) (hm2 : m + 1 < b) (hn : b - a ≤ n + 1) (hM : IMergePre C B w p N a m b k d) (ih : IIH C cap p N k B n) :
    Calls Try.prog 90 #[.slice (some ⟨p, 0, none⟩) N cap, .int .i64 (a : Int), .int .i64 (m : Int), .int .i64 (b : Int), iordF] w (ISortedPost C B p N k d a b) := by
  obtain ⟨hN, h1, h2, h3, hI, hs, ht, hc, hC, hO, hp, hK⟩ := hM
  have m0 : ((m : Int) - (a : Int) == 1) = false := by rw [beq_eq_false_iff_ne]; omega
  have m1 : ((b : Int) - (m : Int) == 1) = false := by rw [beq_eq_false_iff_ne]; omega
  obtain ⟨mid, hmid, hme⟩ := mid_nat a b
  have HM := Lib.hid hmid
  have HE := Lib.hid hme
  have y1 : a < mid := by omega
  have y2 : mid < b := by omega
  clear hmid hme
  obtain ⟨lo, hi, hlh⟩ : ∃ lo hi : Nat, (m ≤ mid ∧ lo = a ∧ hi = m ∨ mid < m ∧ lo = mid + m - b ∧ hi = mid) := by
    by_cases c : m ≤ mid
    · exact ⟨a, m, .inl ⟨c, rfl, rfl⟩⟩
    · exact ⟨mid + m - b, mid, .inr ⟨by omega, rfl, rfl⟩⟩
  have LH := Lib.hid hlh
  have z1 : lo ≤ hi := by have := HE.out; omega
  have z2 : a ≤ lo := by have := HE.out; omega
  have z3 : hi ≤ m := by omega
  have z4 : mid + m - b ≤ lo := by have := HE.out; omega
  have z5 : hi ≤ mid := by omega
  have z6 : b ≤ mid + m ∨ lo = a := by omega
  by_cases c : mid < m
  · have cb : decide (((a : Int) + (b : Int)) / 2 < (m : Int)) = true := by rw [HM.out]; simp; omega
    go_enter Try.func90, Try.ntmps90
    go_wp2_with fail
    rw [HM.out]
    clear cb m0 m1
    go_loopw [20, 21] (fun s t wr => ∃ i j : Nat, lo ≤ i ∧ i ≤ j ∧ j ≤ hi ∧ s = .int .i64 i ∧ t = .int .i64 j ∧ (i = lo ∨ k (d (mid + m - 1 - (i - 1))) ≤ k (d (i - 1))) ∧ (j = hi ∨ k (d j) < k (d (mid + m - 1 - j))) ∧ IOw C wr p N d ∧ Kept B wr) (fun s t _ => (intOf t - intOf s).toNat)
    case atStart => exact ⟨lo, hi, by omega, by omega, by omega, by congr 1; have := LH.out; have := HE.out; omega, by congr 1; have := LH.out; have := HE.out; omega, .inl rfl, .inl rfl, hO, hK⟩
    case round =>
      obtain ⟨i, j, i0, ij, jb, rfl, rfl, hl, hr, hOr, hKr⟩ := hrel
      have HL := Lib.hid hl
      have HR := Lib.hid hr
      clear hl hr
      by_cases hlt : i < j
      · obtain ⟨h, hh, he⟩ := mid_nat i j
        have HH := Lib.hid hh
        have x1 : i ≤ h := by omega
        have x2 : h < j := by omega
        clear hh he
        obtain ⟨g, hg⟩ : ∃ g : Nat, g = mid + m - 1 - h := ⟨_, rfl⟩
        have HG := Lib.hid (show ((mid : Int) + (m : Int) - 1 - (h : Int)) = (g : Int) by omega)
        have g1 : g < N := by have := LH.out; omega
        have HQ := Lib.hid hg
        clear hg
        have rh := hI h (by omega)
        have rg := hI g g1
        have hc1 := fun (n : Nat) (os : Array Obj) => (hOr.later (kept_grown (Kept.refl wr) n os)).c0 h (by omega)
        have hc1' := fun (n : Nat) (os : Array Obj) => (hOr.later (kept_grown (Kept.refl wr) n os)).c1 h (by omega)
        have hc2 := fun (n : Nat) (os : Array Obj) => (hOr.later (kept_grown (Kept.refl wr) n os)).c0 g (by omega)
        have hc2' := fun (n : Nat) (os : Array Obj) => (hOr.later (kept_grown (Kept.refl wr) n os)).c1 g (by omega)
        have CV := Lib.hid (cmpV_neg (k (d h)) (k (d g)))
        have CO := Lib.hid (fun (n : Nat) (os : Array Obj) => hC (d g) (d h) (grow (wr.drewN n) os))
        have e1 : (h : Int) < (N : Int) := by omega
        have e2 : (mid : Int) + (m : Int) - 1 - (h : Int) < (N : Int) := by rw [HG.out]; omega
        have e3 : 0 ≤ (mid : Int) + (m : Int) - 1 - (h : Int) := by rw [HG.out]; omega
        have e3' : (h : Int) ≤ (mid : Int) + (m : Int) - 1 := by have := HG.out; omega
        have e4 : ((mid : Int) + (m : Int) - 1 - (h : Int)).toNat = g := by rw [HG.out]; omega
        have e5 : IntKind.i64.wrap ((mid : Int) + (m : Int) - 1 - (h : Int)) = (mid : Int) + (m : Int) - 1 - (h : Int) := IntWalk.i64_in _ (by omega)
        go_wp2_with fail
        rw [HH.out]
        have mixed := mixedP
        go_quiet_grown (first | (go_at_call 38; refine Calls.grown_of (CO.out _ _)))
        have KQ := kept_grown hKr nq osq
        have hOq := hOr.later (kept_grown (Kept.refl wr) nq osq)
        clear hc1 hc1' hc2 hc2' CO hOr hKr
        generalize grow (wr.drewN nq) osq = wq at *
        clear e5
        by_cases hk : k (d h) < k (d g)
        · have cb : decide (cmpV (k (d h)) (k (d g)) < 0) = true := by rw [decide_eq_true_iff, CV.out]; exact hk
          have HK := Lib.hid hk
          rw [cb]
          clear cb hk
          go_wp2
          go_roundw
          case rel => exact ⟨i, h, by omega, by omega, by omega, rfl, rfl, HL.out, .inr (by rw [← HQ.out]; exact HK.out), hOq, KQ⟩
          case measure => simp [intOf]; omega
        · have cb : decide (cmpV (k (d h)) (k (d g)) < 0) = false := by rw [decide_eq_false_iff_not, CV.out]; exact hk
          have HK := Lib.hid (Int.not_lt.1 hk)
          rw [cb]
          clear cb hk
          go_wp2
          go_roundw
          case rel => exact ⟨h + 1, j, by omega, by omega, by omega, by go_num, rfl, .inr (by rw [show h + 1 - 1 = h by omega, ← HQ.out]; exact HK.out), HR.out, hOq, KQ⟩
          case measure => simp [intOf]; omega
      · obtain rfl : i = j := by omega
        obtain ⟨hcut, hmd, hsm, hme⟩ := cut_main (k := k) (d := d) h1 h2 HE.out LH.out i0 jb hs ht hc (HL.out.imp id Int.not_lt.2) HR.out
        obtain ⟨e, he⟩ : ∃ e : Nat, e = mid + m - i := ⟨_, rfl⟩
        rw [← he] at hcut hmd hme
        have HD := Lib.hid hmd
        have HX := Lib.hid (show ((mid : Int) + (m : Int) - (i : Int)) = (e : Int) by omega)
        have q1 := hcut.h0
        have q2 := hcut.h1
        have q3 := hcut.h2
        have q4 := hcut.h3
        have LT := Lib.hid (hcut.lt hs ht)
        have S1 := Lib.hid (hcut.s1 hs)
        have S2 := Lib.hid (hcut.s2 ht)
        have S3 := Lib.hid (hcut.s3 hs)
        have S4 := Lib.hid (hcut.s4 ht)
        have C1 := Lib.hid (hcut.c1 hc)
        have C2 := Lib.hid (hcut.c2 hc)
        have RP := Lib.hid (SegPerm.rot d i m e q1 q2 q3 q4)
        have RS := Lib.hid (fun h => rot_same d i m e h q2 q3)
        have he' : mid + m = e + i := by omega
        have HE2 := Lib.hid he'
        clear hlt HL HR he he' hcut hmd
        generalize hT : rot d i m e = T at *
        have HT := Lib.hid hT
        clear hT
        have IHH := Lib.hid ih
        by_cases z1 : i < m ∧ m < e
        · obtain ⟨z2, z3⟩ := z1
          have b1 : (i : Int) < (m : Int) := by omega
          have b2 : (m : Int) < (mid : Int) + (m : Int) - (i : Int) := by rw [HX.out]; omega
          go_wp2_with fail
          refine (irotate_at p N i m e _ _ _ d _ B _ rfl rfl HX.out hN z2 z3 (by omega) hOr hp hKr).mono ?_
          rintro e7 w4 ⟨rfl, hOT, hKT⟩
          rw [HT.out] at hOT
          by_cases y1 : a < i ∧ i < mid
          · obtain ⟨y2, y3⟩ := y1
            have a1 : (a : Int) < (i : Int) := by omega
            have a2 : (i : Int) < (mid : Int) := by omega
            go_wp2_with fail
            refine (IHH.out a i mid _ _ _ T _ rfl rfl rfl (by omega) ⟨hN, y2, y3, by omega, (RP.out.inR h3 hI), S1.out, by rw [← HD.out]; exact S2.out, by have := C1.out; rw [HD.out] at this; exact this, hC, hOT, hp, hKT⟩).mono ?_
            rintro e9 w5 ⟨E, rfl, hOE, hKE, hPE, hSE⟩
            have HPE := Lib.hid hPE
            have HSE := Lib.hid hSE
            clear hPE hSE
            by_cases x1 : mid < e ∧ e < b
            · obtain ⟨x2, x3⟩ := x1
              have a3 : (mid : Int) < (mid : Int) + (m : Int) - (i : Int) := by rw [HX.out]; omega
              have a4 : (mid : Int) + (m : Int) - (i : Int) < (b : Int) := by rw [HX.out]; omega
              have agree : ∀ q, mid ≤ q → E q = T q := fun q hq => (HPE.out : SegPerm a mid T E).out q (.inr hq)
              have AG := Lib.hid agree
              clear agree
              have s3 : Sorted k E mid e := fun u v u0 uv v1 => by rw [AG.out u u0, AG.out v (by omega)]; exact S3.out u v (by rw [HD.out]; exact u0) uv v1
              have s4 : Sorted k E e b := fun u v u0 uv v1 => by rw [AG.out u (by omega), AG.out v (by omega)]; exact S4.out u v u0 uv v1
              have c2 : Cross k E mid e b := fun u v u0 u1 v0 v1 => by rw [AG.out u u0, AG.out v (by omega)]; exact C2.out u v (by rw [HD.out]; exact u0) u1 v0 v1
              have iR : InR N E := (HPE.out : SegPerm a mid T E).inR (by omega) (RP.out.inR h3 hI)
              have MP := Lib.hid (And.intro s3 (And.intro s4 (And.intro c2 iR)))
              clear s3 s4 c2 iR
              go_wp2_with fail
              refine (IHH.out mid e b _ _ _ E _ rfl HX.out rfl (by omega) ⟨hN, x2, x3, h3, MP.out.2.2.2, MP.out.1, MP.out.2.1, MP.out.2.2.1, hC, hOE, hp, hKE⟩).mono ?_
              rintro e8 w6 ⟨D, rfl, hOD, hKD, hPD, hSD⟩
              have FIN := Lib.hid (halves (k := k) (T := T) (D := D) (a := a) (mid := mid) (b := b) (by omega) (by omega) (fun u v u0 u1 v0 v1 => LT.out u v u0 (by rw [HD.out]; exact u1) (by rw [HD.out]; exact v0) v1) HPE.out hPD HSE.out hSD)
              clear hPD hSD
              go_wp2
              go_end0
              exact ⟨D, rfl, hOD, hKD, RP.out.trans FIN.out.2, FIN.out.1⟩
            · have gb3 : decide ((mid : Int) < (mid : Int) + (m : Int) - (i : Int)) = false ∨ (decide ((mid : Int) < (mid : Int) + (m : Int) - (i : Int)) = true ∧ decide ((mid : Int) + (m : Int) - (i : Int) < (b : Int)) = false) := by rw [HX.out]; simp; omega
              have HSD := Lib.hid (show Sorted k E mid b from fun u v u0 uv v1 => by
                rw [(HPE.out : SegPerm a mid T E).out u (.inr u0), (HPE.out : SegPerm a mid T E).out v (.inr (by omega))]
                by_cases z : mid < e
                · exact S3.out u v (by rw [HD.out]; exact u0) uv (by omega)
                · exact S4.out u v (by omega) uv v1)
              have FIN := Lib.hid (halves (k := k) (T := T) (D := E) (a := a) (mid := mid) (b := b) (by omega) (by omega) (fun u v u0 u1 v0 v1 => LT.out u v u0 (by rw [HD.out]; exact u1) (by rw [HD.out]; exact v0) v1) HPE.out (SegPerm.refl mid b E) HSE.out HSD.out)
              clear HSD
              rcases gb3 with f3 | ⟨f3, f4⟩
              all_goals
                go_wp2
                go_end0
                exact ⟨E, rfl, hOE, hKE, RP.out.trans FIN.out.2, FIN.out.1⟩
          · have gb : decide ((a : Int) < (i : Int)) = false ∨ (decide ((a : Int) < (i : Int)) = true ∧ decide ((i : Int) < (mid : Int)) = false) := by simp; omega
            have gn : decide (a < i) = false ∨ (decide (a < i) = true ∧ decide (i < mid) = false) := by simp; omega
            have HSE := Lib.hid (show Sorted k T a mid by
              by_cases z : a < i
              · obtain rfl : i = mid := by omega
                exact S1.out
              · obtain rfl : i = a := by omega
                rw [← HD.out]; exact S2.out)
            rcases gn with g1 | ⟨g1, g2⟩
            all_goals rcases gb with f1 | ⟨f1, f2⟩
            all_goals try (exfalso; simp at *; omega)
            all_goals
              by_cases x1 : mid < e ∧ e < b
              · obtain ⟨x2, x3⟩ := x1
                have a3 : (mid : Int) < (mid : Int) + (m : Int) - (i : Int) := by rw [HX.out]; omega
                have a4 : (mid : Int) + (m : Int) - (i : Int) < (b : Int) := by rw [HX.out]; omega
                have agree : ∀ q, mid ≤ q → T q = T q := fun q hq => ((SegPerm.refl a mid T) : SegPerm a mid T T).out q (.inr hq)
                have AG := Lib.hid agree
                clear agree
                have s3 : Sorted k T mid e := fun u v u0 uv v1 => by rw [AG.out u u0, AG.out v (by omega)]; exact S3.out u v (by rw [HD.out]; exact u0) uv v1
                have s4 : Sorted k T e b := fun u v u0 uv v1 => by rw [AG.out u (by omega), AG.out v (by omega)]; exact S4.out u v u0 uv v1
                have c2 : Cross k T mid e b := fun u v u0 u1 v0 v1 => by rw [AG.out u u0, AG.out v (by omega)]; exact C2.out u v (by rw [HD.out]; exact u0) u1 v0 v1
                have iR : InR N T := ((SegPerm.refl a mid T) : SegPerm a mid T T).inR (by omega) (RP.out.inR h3 hI)
                have MP := Lib.hid (And.intro s3 (And.intro s4 (And.intro c2 iR)))
                clear s3 s4 c2 iR
                go_wp2_with fail
                refine (IHH.out mid e b _ _ _ T _ rfl HX.out rfl (by omega) ⟨hN, x2, x3, h3, MP.out.2.2.2, MP.out.1, MP.out.2.1, MP.out.2.2.1, hC, hOT, hp, hKT⟩).mono ?_
                rintro e8 w6 ⟨D, rfl, hOD, hKD, hPD, hSD⟩
                have FIN := Lib.hid (halves (k := k) (T := T) (D := D) (a := a) (mid := mid) (b := b) (by omega) (by omega) (fun u v u0 u1 v0 v1 => LT.out u v u0 (by rw [HD.out]; exact u1) (by rw [HD.out]; exact v0) v1) (SegPerm.refl a mid T) hPD HSE.out hSD)
                clear hPD hSD
                go_wp2
                go_end0
                exact ⟨D, rfl, hOD, hKD, RP.out.trans FIN.out.2, FIN.out.1⟩
              · have gb3 : decide ((mid : Int) < (mid : Int) + (m : Int) - (i : Int)) = false ∨ (decide ((mid : Int) < (mid : Int) + (m : Int) - (i : Int)) = true ∧ decide ((mid : Int) + (m : Int) - (i : Int) < (b : Int)) = false) := by rw [HX.out]; simp; omega
                have HSD := Lib.hid (show Sorted k T mid b from fun u v u0 uv v1 => by
                  rw [((SegPerm.refl a mid T) : SegPerm a mid T T).out u (.inr u0), ((SegPerm.refl a mid T) : SegPerm a mid T T).out v (.inr (by omega))]
                  by_cases z : mid < e
                  · exact S3.out u v (by rw [HD.out]; exact u0) uv (by omega)
                  · exact S4.out u v (by omega) uv v1)
                have FIN := Lib.hid (halves (k := k) (T := T) (D := T) (a := a) (mid := mid) (b := b) (by omega) (by omega) (fun u v u0 u1 v0 v1 => LT.out u v u0 (by rw [HD.out]; exact u1) (by rw [HD.out]; exact v0) v1) (SegPerm.refl a mid T) (SegPerm.refl mid b T) HSE.out HSD.out)
                clear HSD
                rcases gb3 with f3 | ⟨f3, f4⟩
                all_goals
                  go_wp2
                  go_end0
                  exact ⟨T, rfl, hOT, hKT, RP.out.trans FIN.out.2, FIN.out.1⟩
        · have hOT : IOw C wr p N T := by rw [RS.out (by omega)]; exact hOr
          have gb : decide ((i : Int) < (m : Int)) = false ∨ (decide ((i : Int) < (m : Int)) = true ∧ decide ((m : Int) < (mid : Int) + (m : Int) - (i : Int)) = false) := by rw [HX.out]; simp; omega
          have gn : decide (i < m) = false ∨ decide (i < m) = true := by cases decide (i < m) <;> simp
          rcases gb with k1 | ⟨k1, k2⟩
          all_goals rcases gn with k3 | k3
          all_goals try (exfalso; simp at *; omega)
          all_goals
            by_cases y1 : a < i ∧ i < mid
            · obtain ⟨y2, y3⟩ := y1
              have a1 : (a : Int) < (i : Int) := by omega
              have a2 : (i : Int) < (mid : Int) := by omega
              go_wp2_with fail
              refine (IHH.out a i mid _ _ _ T _ rfl rfl rfl (by omega) ⟨hN, y2, y3, by omega, (RP.out.inR h3 hI), S1.out, by rw [← HD.out]; exact S2.out, by have := C1.out; rw [HD.out] at this; exact this, hC, hOT, hp, hKr⟩).mono ?_
              rintro e9 w5 ⟨E, rfl, hOE, hKE, hPE, hSE⟩
              have HPE := Lib.hid hPE
              have HSE := Lib.hid hSE
              clear hPE hSE
              by_cases x1 : mid < e ∧ e < b
              · obtain ⟨x2, x3⟩ := x1
                have a3 : (mid : Int) < (mid : Int) + (m : Int) - (i : Int) := by rw [HX.out]; omega
                have a4 : (mid : Int) + (m : Int) - (i : Int) < (b : Int) := by rw [HX.out]; omega
                have agree : ∀ q, mid ≤ q → E q = T q := fun q hq => (HPE.out : SegPerm a mid T E).out q (.inr hq)
                have AG := Lib.hid agree
                clear agree
                have s3 : Sorted k E mid e := fun u v u0 uv v1 => by rw [AG.out u u0, AG.out v (by omega)]; exact S3.out u v (by rw [HD.out]; exact u0) uv v1
                have s4 : Sorted k E e b := fun u v u0 uv v1 => by rw [AG.out u (by omega), AG.out v (by omega)]; exact S4.out u v u0 uv v1
                have c2 : Cross k E mid e b := fun u v u0 u1 v0 v1 => by rw [AG.out u u0, AG.out v (by omega)]; exact C2.out u v (by rw [HD.out]; exact u0) u1 v0 v1
                have iR : InR N E := (HPE.out : SegPerm a mid T E).inR (by omega) (RP.out.inR h3 hI)
                have MP := Lib.hid (And.intro s3 (And.intro s4 (And.intro c2 iR)))
                clear s3 s4 c2 iR
                go_wp2_with fail
                refine (IHH.out mid e b _ _ _ E _ rfl HX.out rfl (by omega) ⟨hN, x2, x3, h3, MP.out.2.2.2, MP.out.1, MP.out.2.1, MP.out.2.2.1, hC, hOE, hp, hKE⟩).mono ?_
                rintro e8 w6 ⟨D, rfl, hOD, hKD, hPD, hSD⟩
                have FIN := Lib.hid (halves (k := k) (T := T) (D := D) (a := a) (mid := mid) (b := b) (by omega) (by omega) (fun u v u0 u1 v0 v1 => LT.out u v u0 (by rw [HD.out]; exact u1) (by rw [HD.out]; exact v0) v1) HPE.out hPD HSE.out hSD)
                clear hPD hSD
                go_wp2
                go_end0
                exact ⟨D, rfl, hOD, hKD, RP.out.trans FIN.out.2, FIN.out.1⟩
              · have gb3 : decide ((mid : Int) < (mid : Int) + (m : Int) - (i : Int)) = false ∨ (decide ((mid : Int) < (mid : Int) + (m : Int) - (i : Int)) = true ∧ decide ((mid : Int) + (m : Int) - (i : Int) < (b : Int)) = false) := by rw [HX.out]; simp; omega
                have HSD := Lib.hid (show Sorted k E mid b from fun u v u0 uv v1 => by
                  rw [(HPE.out : SegPerm a mid T E).out u (.inr u0), (HPE.out : SegPerm a mid T E).out v (.inr (by omega))]
                  by_cases z : mid < e
                  · exact S3.out u v (by rw [HD.out]; exact u0) uv (by omega)
                  · exact S4.out u v (by omega) uv v1)
                have FIN := Lib.hid (halves (k := k) (T := T) (D := E) (a := a) (mid := mid) (b := b) (by omega) (by omega) (fun u v u0 u1 v0 v1 => LT.out u v u0 (by rw [HD.out]; exact u1) (by rw [HD.out]; exact v0) v1) HPE.out (SegPerm.refl mid b E) HSE.out HSD.out)
                clear HSD
                rcases gb3 with f3 | ⟨f3, f4⟩
                all_goals
                  go_wp2
                  go_end0
                  exact ⟨E, rfl, hOE, hKE, RP.out.trans FIN.out.2, FIN.out.1⟩
            · have gb : decide ((a : Int) < (i : Int)) = false ∨ (decide ((a : Int) < (i : Int)) = true ∧ decide ((i : Int) < (mid : Int)) = false) := by simp; omega
              have gn : decide (a < i) = false ∨ (decide (a < i) = true ∧ decide (i < mid) = false) := by simp; omega
              have HSE := Lib.hid (show Sorted k T a mid by
                by_cases z : a < i
                · obtain rfl : i = mid := by omega
                  exact S1.out
                · obtain rfl : i = a := by omega
                  rw [← HD.out]; exact S2.out)
              rcases gn with g1 | ⟨g1, g2⟩
              all_goals rcases gb with f1 | ⟨f1, f2⟩
              all_goals try (exfalso; simp at *; omega)
              all_goals
                by_cases x1 : mid < e ∧ e < b
                · obtain ⟨x2, x3⟩ := x1
                  have a3 : (mid : Int) < (mid : Int) + (m : Int) - (i : Int) := by rw [HX.out]; omega
                  have a4 : (mid : Int) + (m : Int) - (i : Int) < (b : Int) := by rw [HX.out]; omega
                  have agree : ∀ q, mid ≤ q → T q = T q := fun q hq => ((SegPerm.refl a mid T) : SegPerm a mid T T).out q (.inr hq)
                  have AG := Lib.hid agree
                  clear agree
                  have s3 : Sorted k T mid e := fun u v u0 uv v1 => by rw [AG.out u u0, AG.out v (by omega)]; exact S3.out u v (by rw [HD.out]; exact u0) uv v1
                  have s4 : Sorted k T e b := fun u v u0 uv v1 => by rw [AG.out u (by omega), AG.out v (by omega)]; exact S4.out u v u0 uv v1
                  have c2 : Cross k T mid e b := fun u v u0 u1 v0 v1 => by rw [AG.out u u0, AG.out v (by omega)]; exact C2.out u v (by rw [HD.out]; exact u0) u1 v0 v1
                  have iR : InR N T := ((SegPerm.refl a mid T) : SegPerm a mid T T).inR (by omega) (RP.out.inR h3 hI)
                  have MP := Lib.hid (And.intro s3 (And.intro s4 (And.intro c2 iR)))
                  clear s3 s4 c2 iR
                  go_wp2_with fail
                  refine (IHH.out mid e b _ _ _ T _ rfl HX.out rfl (by omega) ⟨hN, x2, x3, h3, MP.out.2.2.2, MP.out.1, MP.out.2.1, MP.out.2.2.1, hC, hOT, hp, hKr⟩).mono ?_
                  rintro e8 w6 ⟨D, rfl, hOD, hKD, hPD, hSD⟩
                  have FIN := Lib.hid (halves (k := k) (T := T) (D := D) (a := a) (mid := mid) (b := b) (by omega) (by omega) (fun u v u0 u1 v0 v1 => LT.out u v u0 (by rw [HD.out]; exact u1) (by rw [HD.out]; exact v0) v1) (SegPerm.refl a mid T) hPD HSE.out hSD)
                  clear hPD hSD
                  go_wp2
                  go_end0
                  exact ⟨D, rfl, hOD, hKD, RP.out.trans FIN.out.2, FIN.out.1⟩
                · have gb3 : decide ((mid : Int) < (mid : Int) + (m : Int) - (i : Int)) = false ∨ (decide ((mid : Int) < (mid : Int) + (m : Int) - (i : Int)) = true ∧ decide ((mid : Int) + (m : Int) - (i : Int) < (b : Int)) = false) := by rw [HX.out]; simp; omega
                  have HSD := Lib.hid (show Sorted k T mid b from fun u v u0 uv v1 => by
                    rw [((SegPerm.refl a mid T) : SegPerm a mid T T).out u (.inr u0), ((SegPerm.refl a mid T) : SegPerm a mid T T).out v (.inr (by omega))]
                    by_cases z : mid < e
                    · exact S3.out u v (by rw [HD.out]; exact u0) uv (by omega)
                    · exact S4.out u v (by omega) uv v1)
                  have FIN := Lib.hid (halves (k := k) (T := T) (D := T) (a := a) (mid := mid) (b := b) (by omega) (by omega) (fun u v u0 u1 v0 v1 => LT.out u v u0 (by rw [HD.out]; exact u1) (by rw [HD.out]; exact v0) v1) (SegPerm.refl a mid T) (SegPerm.refl mid b T) HSE.out HSD.out)
                  clear HSD
                  rcases gb3 with f3 | ⟨f3, f4⟩
                  all_goals
                    go_wp2
                    go_end0
                    exact ⟨T, rfl, hOT, hKr, RP.out.trans FIN.out.2, FIN.out.1⟩
  · have cb : decide (((a : Int) + (b : Int)) / 2 < (m : Int)) = false := by rw [HM.out]; simp; omega
    go_enter Try.func90, Try.ntmps90
    go_wp2_with fail
    rw [HM.out]
    clear cb m0 m1
    go_loopw [20, 21] (fun s t wr => ∃ i j : Nat, lo ≤ i ∧ i ≤ j ∧ j ≤ hi ∧ s = .int .i64 i ∧ t = .int .i64 j ∧ (i = lo ∨ k (d (mid + m - 1 - (i - 1))) ≤ k (d (i - 1))) ∧ (j = hi ∨ k (d j) < k (d (mid + m - 1 - j))) ∧ IOw C wr p N d ∧ Kept B wr) (fun s t _ => (intOf t - intOf s).toNat)
    case atStart => exact ⟨lo, hi, by omega, by omega, by omega, by congr 1; have := LH.out; have := HE.out; omega, by congr 1; have := LH.out; have := HE.out; omega, .inl rfl, .inl rfl, hO, hK⟩
    case round =>
      obtain ⟨i, j, i0, ij, jb, rfl, rfl, hl, hr, hOr, hKr⟩ := hrel
      have HL := Lib.hid hl
      have HR := Lib.hid hr
      clear hl hr
      by_cases hlt : i < j
      · obtain ⟨h, hh, he⟩ := mid_nat i j
        have HH := Lib.hid hh
        have x1 : i ≤ h := by omega
        have x2 : h < j := by omega
        clear hh he
        obtain ⟨g, hg⟩ : ∃ g : Nat, g = mid + m - 1 - h := ⟨_, rfl⟩
        have HG := Lib.hid (show ((mid : Int) + (m : Int) - 1 - (h : Int)) = (g : Int) by omega)
        have g1 : g < N := by have := LH.out; omega
        have HQ := Lib.hid hg
        clear hg
        have rh := hI h (by omega)
        have rg := hI g g1
        have hc1 := fun (n : Nat) (os : Array Obj) => (hOr.later (kept_grown (Kept.refl wr) n os)).c0 h (by omega)
        have hc1' := fun (n : Nat) (os : Array Obj) => (hOr.later (kept_grown (Kept.refl wr) n os)).c1 h (by omega)
        have hc2 := fun (n : Nat) (os : Array Obj) => (hOr.later (kept_grown (Kept.refl wr) n os)).c0 g (by omega)
        have hc2' := fun (n : Nat) (os : Array Obj) => (hOr.later (kept_grown (Kept.refl wr) n os)).c1 g (by omega)
        have CV := Lib.hid (cmpV_neg (k (d h)) (k (d g)))
        have CO := Lib.hid (fun (n : Nat) (os : Array Obj) => hC (d g) (d h) (grow (wr.drewN n) os))
        have e1 : (h : Int) < (N : Int) := by omega
        have e2 : (mid : Int) + (m : Int) - 1 - (h : Int) < (N : Int) := by rw [HG.out]; omega
        have e3 : 0 ≤ (mid : Int) + (m : Int) - 1 - (h : Int) := by rw [HG.out]; omega
        have e3' : (h : Int) ≤ (mid : Int) + (m : Int) - 1 := by have := HG.out; omega
        have e4 : ((mid : Int) + (m : Int) - 1 - (h : Int)).toNat = g := by rw [HG.out]; omega
        have e5 : IntKind.i64.wrap ((mid : Int) + (m : Int) - 1 - (h : Int)) = (mid : Int) + (m : Int) - 1 - (h : Int) := IntWalk.i64_in _ (by omega)
        go_wp2_with fail
        rw [HH.out]
        have mixed := mixedP
        go_quiet_grown (first | (go_at_call 38; refine Calls.grown_of (CO.out _ _)))
        have KQ := kept_grown hKr nq osq
        have hOq := hOr.later (kept_grown (Kept.refl wr) nq osq)
        clear hc1 hc1' hc2 hc2' CO hOr hKr
        generalize grow (wr.drewN nq) osq = wq at *
        clear e5
        by_cases hk : k (d h) < k (d g)
        · have cb : decide (cmpV (k (d h)) (k (d g)) < 0) = true := by rw [decide_eq_true_iff, CV.out]; exact hk
          have HK := Lib.hid hk
          rw [cb]
          clear cb hk
          go_wp2
          go_roundw
          case rel => exact ⟨i, h, by omega, by omega, by omega, rfl, rfl, HL.out, .inr (by rw [← HQ.out]; exact HK.out), hOq, KQ⟩
          case measure => simp [intOf]; omega
        · have cb : decide (cmpV (k (d h)) (k (d g)) < 0) = false := by rw [decide_eq_false_iff_not, CV.out]; exact hk
          have HK := Lib.hid (Int.not_lt.1 hk)
          rw [cb]
          clear cb hk
          go_wp2
          go_roundw
          case rel => exact ⟨h + 1, j, by omega, by omega, by omega, by go_num, rfl, .inr (by rw [show h + 1 - 1 = h by omega, ← HQ.out]; exact HK.out), HR.out, hOq, KQ⟩
          case measure => simp [intOf]; omega
      · obtain rfl : i = j := by omega
        obtain ⟨hcut, hmd, hsm, hme⟩ := cut_main (k := k) (d := d) h1 h2 HE.out LH.out i0 jb hs ht hc (HL.out.imp id Int.not_lt.2) HR.out
        obtain ⟨e, he⟩ : ∃ e : Nat, e = mid + m - i := ⟨_, rfl⟩
        rw [← he] at hcut hmd hme
        have HD := Lib.hid hmd
        have HX := Lib.hid (show ((mid : Int) + (m : Int) - (i : Int)) = (e : Int) by omega)
        have q1 := hcut.h0
        have q2 := hcut.h1
        have q3 := hcut.h2
        have q4 := hcut.h3
        have LT := Lib.hid (hcut.lt hs ht)
        have S1 := Lib.hid (hcut.s1 hs)
        have S2 := Lib.hid (hcut.s2 ht)
        have S3 := Lib.hid (hcut.s3 hs)
        have S4 := Lib.hid (hcut.s4 ht)
        have C1 := Lib.hid (hcut.c1 hc)
        have C2 := Lib.hid (hcut.c2 hc)
        have RP := Lib.hid (SegPerm.rot d i m e q1 q2 q3 q4)
        have RS := Lib.hid (fun h => rot_same d i m e h q2 q3)
        have he' : mid + m = e + i := by omega
        have HE2 := Lib.hid he'
        clear hlt HL HR he he' hcut hmd
        generalize hT : rot d i m e = T at *
        have HT := Lib.hid hT
        clear hT
        have IHH := Lib.hid ih
        by_cases z1 : i < m ∧ m < e
        · obtain ⟨z2, z3⟩ := z1
          have b1 : (i : Int) < (m : Int) := by omega
          have b2 : (m : Int) < (mid : Int) + (m : Int) - (i : Int) := by rw [HX.out]; omega
          go_wp2_with fail
          refine (irotate_at p N i m e _ _ _ d _ B _ rfl rfl HX.out hN z2 z3 (by omega) hOr hp hKr).mono ?_
          rintro e7 w4 ⟨rfl, hOT, hKT⟩
          rw [HT.out] at hOT
          by_cases y1 : a < i ∧ i < mid
          · obtain ⟨y2, y3⟩ := y1
            have a1 : (a : Int) < (i : Int) := by omega
            have a2 : (i : Int) < (mid : Int) := by omega
            go_wp2_with fail
            refine (IHH.out a i mid _ _ _ T _ rfl rfl rfl (by omega) ⟨hN, y2, y3, by omega, (RP.out.inR h3 hI), S1.out, by rw [← HD.out]; exact S2.out, by have := C1.out; rw [HD.out] at this; exact this, hC, hOT, hp, hKT⟩).mono ?_
            rintro e9 w5 ⟨E, rfl, hOE, hKE, hPE, hSE⟩
            have HPE := Lib.hid hPE
            have HSE := Lib.hid hSE
            clear hPE hSE
            by_cases x1 : mid < e ∧ e < b
            · obtain ⟨x2, x3⟩ := x1
              have a3 : (mid : Int) < (mid : Int) + (m : Int) - (i : Int) := by rw [HX.out]; omega
              have a4 : (mid : Int) + (m : Int) - (i : Int) < (b : Int) := by rw [HX.out]; omega
              have agree : ∀ q, mid ≤ q → E q = T q := fun q hq => (HPE.out : SegPerm a mid T E).out q (.inr hq)
              have AG := Lib.hid agree
              clear agree
              have s3 : Sorted k E mid e := fun u v u0 uv v1 => by rw [AG.out u u0, AG.out v (by omega)]; exact S3.out u v (by rw [HD.out]; exact u0) uv v1
              have s4 : Sorted k E e b := fun u v u0 uv v1 => by rw [AG.out u (by omega), AG.out v (by omega)]; exact S4.out u v u0 uv v1
              have c2 : Cross k E mid e b := fun u v u0 u1 v0 v1 => by rw [AG.out u u0, AG.out v (by omega)]; exact C2.out u v (by rw [HD.out]; exact u0) u1 v0 v1
              have iR : InR N E := (HPE.out : SegPerm a mid T E).inR (by omega) (RP.out.inR h3 hI)
              have MP := Lib.hid (And.intro s3 (And.intro s4 (And.intro c2 iR)))
              clear s3 s4 c2 iR
              go_wp2_with fail
              refine (IHH.out mid e b _ _ _ E _ rfl HX.out rfl (by omega) ⟨hN, x2, x3, h3, MP.out.2.2.2, MP.out.1, MP.out.2.1, MP.out.2.2.1, hC, hOE, hp, hKE⟩).mono ?_
              rintro e8 w6 ⟨D, rfl, hOD, hKD, hPD, hSD⟩
              have FIN := Lib.hid (halves (k := k) (T := T) (D := D) (a := a) (mid := mid) (b := b) (by omega) (by omega) (fun u v u0 u1 v0 v1 => LT.out u v u0 (by rw [HD.out]; exact u1) (by rw [HD.out]; exact v0) v1) HPE.out hPD HSE.out hSD)
              clear hPD hSD
              go_wp2
              go_end0
              exact ⟨D, rfl, hOD, hKD, RP.out.trans FIN.out.2, FIN.out.1⟩
            · have gb3 : decide ((mid : Int) < (mid : Int) + (m : Int) - (i : Int)) = false ∨ (decide ((mid : Int) < (mid : Int) + (m : Int) - (i : Int)) = true ∧ decide ((mid : Int) + (m : Int) - (i : Int) < (b : Int)) = false) := by rw [HX.out]; simp; omega
              have HSD := Lib.hid (show Sorted k E mid b from fun u v u0 uv v1 => by
                rw [(HPE.out : SegPerm a mid T E).out u (.inr u0), (HPE.out : SegPerm a mid T E).out v (.inr (by omega))]
                by_cases z : mid < e
                · exact S3.out u v (by rw [HD.out]; exact u0) uv (by omega)
                · exact S4.out u v (by omega) uv v1)
              have FIN := Lib.hid (halves (k := k) (T := T) (D := E) (a := a) (mid := mid) (b := b) (by omega) (by omega) (fun u v u0 u1 v0 v1 => LT.out u v u0 (by rw [HD.out]; exact u1) (by rw [HD.out]; exact v0) v1) HPE.out (SegPerm.refl mid b E) HSE.out HSD.out)
              clear HSD
              rcases gb3 with f3 | ⟨f3, f4⟩
              all_goals
                go_wp2
                go_end0
                exact ⟨E, rfl, hOE, hKE, RP.out.trans FIN.out.2, FIN.out.1⟩
          · have gb : decide ((a : Int) < (i : Int)) = false ∨ (decide ((a : Int) < (i : Int)) = true ∧ decide ((i : Int) < (mid : Int)) = false) := by simp; omega
            have gn : decide (a < i) = false ∨ (decide (a < i) = true ∧ decide (i < mid) = false) := by simp; omega
            have HSE := Lib.hid (show Sorted k T a mid by
              by_cases z : a < i
              · obtain rfl : i = mid := by omega
                exact S1.out
              · obtain rfl : i = a := by omega
                rw [← HD.out]; exact S2.out)
            rcases gn with g1 | ⟨g1, g2⟩
            all_goals rcases gb with f1 | ⟨f1, f2⟩
            all_goals try (exfalso; simp at *; omega)
            all_goals
              by_cases x1 : mid < e ∧ e < b
              · obtain ⟨x2, x3⟩ := x1
                have a3 : (mid : Int) < (mid : Int) + (m : Int) - (i : Int) := by rw [HX.out]; omega
                have a4 : (mid : Int) + (m : Int) - (i : Int) < (b : Int) := by rw [HX.out]; omega
                have agree : ∀ q, mid ≤ q → T q = T q := fun q hq => ((SegPerm.refl a mid T) : SegPerm a mid T T).out q (.inr hq)
                have AG := Lib.hid agree
                clear agree
                have s3 : Sorted k T mid e := fun u v u0 uv v1 => by rw [AG.out u u0, AG.out v (by omega)]; exact S3.out u v (by rw [HD.out]; exact u0) uv v1
                have s4 : Sorted k T e b := fun u v u0 uv v1 => by rw [AG.out u (by omega), AG.out v (by omega)]; exact S4.out u v u0 uv v1
                have c2 : Cross k T mid e b := fun u v u0 u1 v0 v1 => by rw [AG.out u u0, AG.out v (by omega)]; exact C2.out u v (by rw [HD.out]; exact u0) u1 v0 v1
                have iR : InR N T := ((SegPerm.refl a mid T) : SegPerm a mid T T).inR (by omega) (RP.out.inR h3 hI)
                have MP := Lib.hid (And.intro s3 (And.intro s4 (And.intro c2 iR)))
                clear s3 s4 c2 iR
                go_wp2_with fail
                refine (IHH.out mid e b _ _ _ T _ rfl HX.out rfl (by omega) ⟨hN, x2, x3, h3, MP.out.2.2.2, MP.out.1, MP.out.2.1, MP.out.2.2.1, hC, hOT, hp, hKT⟩).mono ?_
                rintro e8 w6 ⟨D, rfl, hOD, hKD, hPD, hSD⟩
                have FIN := Lib.hid (halves (k := k) (T := T) (D := D) (a := a) (mid := mid) (b := b) (by omega) (by omega) (fun u v u0 u1 v0 v1 => LT.out u v u0 (by rw [HD.out]; exact u1) (by rw [HD.out]; exact v0) v1) (SegPerm.refl a mid T) hPD HSE.out hSD)
                clear hPD hSD
                go_wp2
                go_end0
                exact ⟨D, rfl, hOD, hKD, RP.out.trans FIN.out.2, FIN.out.1⟩
              · have gb3 : decide ((mid : Int) < (mid : Int) + (m : Int) - (i : Int)) = false ∨ (decide ((mid : Int) < (mid : Int) + (m : Int) - (i : Int)) = true ∧ decide ((mid : Int) + (m : Int) - (i : Int) < (b : Int)) = false) := by rw [HX.out]; simp; omega
                have HSD := Lib.hid (show Sorted k T mid b from fun u v u0 uv v1 => by
                  rw [((SegPerm.refl a mid T) : SegPerm a mid T T).out u (.inr u0), ((SegPerm.refl a mid T) : SegPerm a mid T T).out v (.inr (by omega))]
                  by_cases z : mid < e
                  · exact S3.out u v (by rw [HD.out]; exact u0) uv (by omega)
                  · exact S4.out u v (by omega) uv v1)
                have FIN := Lib.hid (halves (k := k) (T := T) (D := T) (a := a) (mid := mid) (b := b) (by omega) (by omega) (fun u v u0 u1 v0 v1 => LT.out u v u0 (by rw [HD.out]; exact u1) (by rw [HD.out]; exact v0) v1) (SegPerm.refl a mid T) (SegPerm.refl mid b T) HSE.out HSD.out)
                clear HSD
                rcases gb3 with f3 | ⟨f3, f4⟩
                all_goals
                  go_wp2
                  go_end0
                  exact ⟨T, rfl, hOT, hKT, RP.out.trans FIN.out.2, FIN.out.1⟩
        · have hOT : IOw C wr p N T := by rw [RS.out (by omega)]; exact hOr
          have gb : decide ((i : Int) < (m : Int)) = false ∨ (decide ((i : Int) < (m : Int)) = true ∧ decide ((m : Int) < (mid : Int) + (m : Int) - (i : Int)) = false) := by rw [HX.out]; simp; omega
          have gn : decide (i < m) = false ∨ decide (i < m) = true := by cases decide (i < m) <;> simp
          rcases gb with k1 | ⟨k1, k2⟩
          all_goals rcases gn with k3 | k3
          all_goals try (exfalso; simp at *; omega)
          all_goals
            by_cases y1 : a < i ∧ i < mid
            · obtain ⟨y2, y3⟩ := y1
              have a1 : (a : Int) < (i : Int) := by omega
              have a2 : (i : Int) < (mid : Int) := by omega
              go_wp2_with fail
              refine (IHH.out a i mid _ _ _ T _ rfl rfl rfl (by omega) ⟨hN, y2, y3, by omega, (RP.out.inR h3 hI), S1.out, by rw [← HD.out]; exact S2.out, by have := C1.out; rw [HD.out] at this; exact this, hC, hOT, hp, hKr⟩).mono ?_
              rintro e9 w5 ⟨E, rfl, hOE, hKE, hPE, hSE⟩
              have HPE := Lib.hid hPE
              have HSE := Lib.hid hSE
              clear hPE hSE
              by_cases x1 : mid < e ∧ e < b
              · obtain ⟨x2, x3⟩ := x1
                have a3 : (mid : Int) < (mid : Int) + (m : Int) - (i : Int) := by rw [HX.out]; omega
                have a4 : (mid : Int) + (m : Int) - (i : Int) < (b : Int) := by rw [HX.out]; omega
                have agree : ∀ q, mid ≤ q → E q = T q := fun q hq => (HPE.out : SegPerm a mid T E).out q (.inr hq)
                have AG := Lib.hid agree
                clear agree
                have s3 : Sorted k E mid e := fun u v u0 uv v1 => by rw [AG.out u u0, AG.out v (by omega)]; exact S3.out u v (by rw [HD.out]; exact u0) uv v1
                have s4 : Sorted k E e b := fun u v u0 uv v1 => by rw [AG.out u (by omega), AG.out v (by omega)]; exact S4.out u v u0 uv v1
                have c2 : Cross k E mid e b := fun u v u0 u1 v0 v1 => by rw [AG.out u u0, AG.out v (by omega)]; exact C2.out u v (by rw [HD.out]; exact u0) u1 v0 v1
                have iR : InR N E := (HPE.out : SegPerm a mid T E).inR (by omega) (RP.out.inR h3 hI)
                have MP := Lib.hid (And.intro s3 (And.intro s4 (And.intro c2 iR)))
                clear s3 s4 c2 iR
                go_wp2_with fail
                refine (IHH.out mid e b _ _ _ E _ rfl HX.out rfl (by omega) ⟨hN, x2, x3, h3, MP.out.2.2.2, MP.out.1, MP.out.2.1, MP.out.2.2.1, hC, hOE, hp, hKE⟩).mono ?_
                rintro e8 w6 ⟨D, rfl, hOD, hKD, hPD, hSD⟩
                have FIN := Lib.hid (halves (k := k) (T := T) (D := D) (a := a) (mid := mid) (b := b) (by omega) (by omega) (fun u v u0 u1 v0 v1 => LT.out u v u0 (by rw [HD.out]; exact u1) (by rw [HD.out]; exact v0) v1) HPE.out hPD HSE.out hSD)
                clear hPD hSD
                go_wp2
                go_end0
                exact ⟨D, rfl, hOD, hKD, RP.out.trans FIN.out.2, FIN.out.1⟩
              · have gb3 : decide ((mid : Int) < (mid : Int) + (m : Int) - (i : Int)) = false ∨ (decide ((mid : Int) < (mid : Int) + (m : Int) - (i : Int)) = true ∧ decide ((mid : Int) + (m : Int) - (i : Int) < (b : Int)) = false) := by rw [HX.out]; simp; omega
                have HSD := Lib.hid (show Sorted k E mid b from fun u v u0 uv v1 => by
                  rw [(HPE.out : SegPerm a mid T E).out u (.inr u0), (HPE.out : SegPerm a mid T E).out v (.inr (by omega))]
                  by_cases z : mid < e
                  · exact S3.out u v (by rw [HD.out]; exact u0) uv (by omega)
                  · exact S4.out u v (by omega) uv v1)
                have FIN := Lib.hid (halves (k := k) (T := T) (D := E) (a := a) (mid := mid) (b := b) (by omega) (by omega) (fun u v u0 u1 v0 v1 => LT.out u v u0 (by rw [HD.out]; exact u1) (by rw [HD.out]; exact v0) v1) HPE.out (SegPerm.refl mid b E) HSE.out HSD.out)
                clear HSD
                rcases gb3 with f3 | ⟨f3, f4⟩
                all_goals
                  go_wp2
                  go_end0
                  exact ⟨E, rfl, hOE, hKE, RP.out.trans FIN.out.2, FIN.out.1⟩
            · have gb : decide ((a : Int) < (i : Int)) = false ∨ (decide ((a : Int) < (i : Int)) = true ∧ decide ((i : Int) < (mid : Int)) = false) := by simp; omega
              have gn : decide (a < i) = false ∨ (decide (a < i) = true ∧ decide (i < mid) = false) := by simp; omega
              have HSE := Lib.hid (show Sorted k T a mid by
                by_cases z : a < i
                · obtain rfl : i = mid := by omega
                  exact S1.out
                · obtain rfl : i = a := by omega
                  rw [← HD.out]; exact S2.out)
              rcases gn with g1 | ⟨g1, g2⟩
              all_goals rcases gb with f1 | ⟨f1, f2⟩
              all_goals try (exfalso; simp at *; omega)
              all_goals
                by_cases x1 : mid < e ∧ e < b
                · obtain ⟨x2, x3⟩ := x1
                  have a3 : (mid : Int) < (mid : Int) + (m : Int) - (i : Int) := by rw [HX.out]; omega
                  have a4 : (mid : Int) + (m : Int) - (i : Int) < (b : Int) := by rw [HX.out]; omega
                  have agree : ∀ q, mid ≤ q → T q = T q := fun q hq => ((SegPerm.refl a mid T) : SegPerm a mid T T).out q (.inr hq)
                  have AG := Lib.hid agree
                  clear agree
                  have s3 : Sorted k T mid e := fun u v u0 uv v1 => by rw [AG.out u u0, AG.out v (by omega)]; exact S3.out u v (by rw [HD.out]; exact u0) uv v1
                  have s4 : Sorted k T e b := fun u v u0 uv v1 => by rw [AG.out u (by omega), AG.out v (by omega)]; exact S4.out u v u0 uv v1
                  have c2 : Cross k T mid e b := fun u v u0 u1 v0 v1 => by rw [AG.out u u0, AG.out v (by omega)]; exact C2.out u v (by rw [HD.out]; exact u0) u1 v0 v1
                  have iR : InR N T := ((SegPerm.refl a mid T) : SegPerm a mid T T).inR (by omega) (RP.out.inR h3 hI)
                  have MP := Lib.hid (And.intro s3 (And.intro s4 (And.intro c2 iR)))
                  clear s3 s4 c2 iR
                  go_wp2_with fail
                  refine (IHH.out mid e b _ _ _ T _ rfl HX.out rfl (by omega) ⟨hN, x2, x3, h3, MP.out.2.2.2, MP.out.1, MP.out.2.1, MP.out.2.2.1, hC, hOT, hp, hKr⟩).mono ?_
                  rintro e8 w6 ⟨D, rfl, hOD, hKD, hPD, hSD⟩
                  have FIN := Lib.hid (halves (k := k) (T := T) (D := D) (a := a) (mid := mid) (b := b) (by omega) (by omega) (fun u v u0 u1 v0 v1 => LT.out u v u0 (by rw [HD.out]; exact u1) (by rw [HD.out]; exact v0) v1) (SegPerm.refl a mid T) hPD HSE.out hSD)
                  clear hPD hSD
                  go_wp2
                  go_end0
                  exact ⟨D, rfl, hOD, hKD, RP.out.trans FIN.out.2, FIN.out.1⟩
                · have gb3 : decide ((mid : Int) < (mid : Int) + (m : Int) - (i : Int)) = false ∨ (decide ((mid : Int) < (mid : Int) + (m : Int) - (i : Int)) = true ∧ decide ((mid : Int) + (m : Int) - (i : Int) < (b : Int)) = false) := by rw [HX.out]; simp; omega
                  have HSD := Lib.hid (show Sorted k T mid b from fun u v u0 uv v1 => by
                    rw [((SegPerm.refl a mid T) : SegPerm a mid T T).out u (.inr u0), ((SegPerm.refl a mid T) : SegPerm a mid T T).out v (.inr (by omega))]
                    by_cases z : mid < e
                    · exact S3.out u v (by rw [HD.out]; exact u0) uv (by omega)
                    · exact S4.out u v (by omega) uv v1)
                  have FIN := Lib.hid (halves (k := k) (T := T) (D := T) (a := a) (mid := mid) (b := b) (by omega) (by omega) (fun u v u0 u1 v0 v1 => LT.out u v u0 (by rw [HD.out]; exact u1) (by rw [HD.out]; exact v0) v1) (SegPerm.refl a mid T) (SegPerm.refl mid b T) HSE.out HSD.out)
                  clear HSD
                  rcases gb3 with f3 | ⟨f3, f4⟩
                  all_goals
                    go_wp2
                    go_end0
                    exact ⟨T, rfl, hOT, hKr, RP.out.trans FIN.out.2, FIN.out.1⟩

end Go.Proofs.Ytdgiljndoeldcaa
