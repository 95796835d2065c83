/-
  What the library's slices.SortStableFunc does to the places 0 .. n-1 in a row of the call's own (n at most 40), by an order that the caller hands in: they come from the greatest key down, equal ones as they were. No condition but those that each theorem names.
-/
import Derived.Test.YtdgiljndoeldcaaGSrtE
namespace Go.Proofs.Ytdgiljndoeldcaa
open Go.RowKit Go.Sort
set_option linter.unusedVariables false
variable {C : Int → Mv} {cap : Nat}

theorem imerge_any (p N : Nat) (k : Int → Int) (B : World) (n : Nat) : IIH C cap p N k B n := by
  induction n with
  | zero =>
    intro a m b x y z d w hx hy hz hn hM
    have := hM.h1; have := hM.h2; omega
  | succ n ih =>
    intro a m b x y z d w hx hy hz hn hM
    subst hx hy hz
    have h1 := hM.h1
    have h2 := hM.h2
    by_cases c1 : m = a + 1
    · subst c1
      rw [show (((a + 1 : Nat)) : Int) = (a : Int) + 1 by omega]
      exact imerge_left p N a b k d B w hM
    · by_cases c2 : b = m + 1
      · subst c2
        rw [show (((m + 1 : Nat)) : Int) = (m : Int) + 1 by omega]
        exact imerge_right p N a m k d B w (by omega) hM
      · exact imerge_main p N a m b n k d B w (by omega) (by omega) hn hM ih

/-- The places themselves. -/
def idn : Nat → Int := fun q => (q : Int)
/-- So many blocks of twenty are sorted, each by itself. -/
structure Blk (k : Int → Int) (n t : Nat) (d : Nat → Int) : Prop where
  pm : SegPerm 0 n idn d
  idt : ∀ q, 20 * t ≤ q → q < n → d q = q
  blk : ∀ q, q < n → 20 * ((q / 20 : Nat) : Int) ≤ d q ∧ d q < 20 * ((q / 20 : Nat) : Int) + 20
  srt : ∀ i j, i < j → j < 20 * t → j < n → i / 20 = j / 20 → L k (d i) (d j)
theorem Blk.start (k : Int → Int) (n : Nat) : Blk k n 0 idn :=
  ⟨SegPerm.refl _ _ _, fun q _ _ => rfl, fun q _ => by unfold idn; omega, fun i j _ h => by omega⟩
theorem Blk.inR {k : Int → Int} {n t : Nat} {d : Nat → Int} (h : Blk k n t d) : InR n d := h.pm.inR (Nat.le_refl _) (fun q hq => by unfold idn; omega)
theorem Blk.outer {k : Int → Int} {n t : Nat} {d : Nat → Int} (h : Blk k n t d) (b : Nat) (hb : b ≤ n) : Outer k d (20 * t) b (20 * t + 1) :=
  ⟨fun i j i0 ij j1 => by omega, fun p q p0 pq qb _ _ => by rw [h.idt p p0 (by omega), h.idt q (by omega) (by omega)]; omega⟩
theorem Blk.step {k : Int → Int} {n t : Nat} {d e : Nat → Int} (h : Blk k n t d) (b : Nat) (hb : b = 20 * t + 20 ∧ b ≤ n ∨ b = n ∧ 20 * t ≤ n ∧ n < 20 * t + 20) (hp : SegPerm (20 * t) b d e) (hs : Sorted k e (20 * t) b) : Blk k n (t + 1) e := by
  refine ⟨h.pm.trans (hp.mono (Nat.zero_le _) (by omega)), fun q q0 q1 => ?_, fun q q1 => ?_, fun i j ij j0 j1 hij => ?_⟩
  · rw [hp.out q (by omega)]; exact h.idt q (by omega) q1
  · by_cases c : 20 * t ≤ q ∧ q < b
    · obtain ⟨r, r0, r1, hr⟩ := hp.src q c.1 c.2
      have := h.blk r (by omega)
      rw [hr]; omega
    · rw [hp.out q (by omega)]; exact h.blk q q1
  · by_cases c : j < 20 * t
    · rw [hp.out i (by omega), hp.out j (by omega)]; exact h.srt i j ij c j1 hij
    · exact hs i j (by omega) ij (by omega)
/-- The places in order. -/
def Ordered (k : Int → Int) (n : Nat) (d : Nat → Int) : Prop := SegPerm 0 n idn d ∧ Sorted k d 0 n
theorem Blk.few {k : Int → Int} {n t : Nat} {d : Nat → Int} (h : Blk k n t d) (ht : n ≤ 20 * t) (hn : n ≤ 20) : Ordered k n d :=
  ⟨h.pm, fun i j _ ij jn => h.srt i j ij (by omega) jn (by omega)⟩
theorem Blk.ipre {k : Int → Int} {n t p : Nat} {d : Nat → Int} {B w : World} (h : Blk k n t d) (ht : n ≤ 20 * t) (hn : 20 < n) (hn2 : n ≤ 40) (hC : ICmpOk C B n k) (hO : IOw C w p n d) (hp : B.heap.size ≤ p) (hK : Kept B w) :
    IMergePre C B w p n 0 20 n k d :=
  ⟨by omega, by omega, hn, Nat.le_refl _, h.inR, fun i j _ ij j1 => h.srt i j ij (by omega) (by omega) (by omega), fun i j i0 ij j1 => h.srt i j ij (by omega) (by omega) (by omega),
    fun i j _ i1 j0 j1 _ => by have := h.blk i (by omega); have := h.blk j j1; omega, hC, hO, hp, hK⟩
theorem iinsertion_at (p N a b : Nat) (x y : Int) (k : Int → Int) (d : Nat → Int) (B w : World) (hx : x = a) (hy : y = b) (hN : N ≤ 1000) (h1 : a ≤ b) (h2 : b ≤ N) (hI : InR N d) (hU : Outer k d a b (a + 1)) (hC : ICmpOk C B N k) (hO : IOw C w p N d) (hp : B.heap.size ≤ p) (hK : Kept B w) :
    Calls Try.prog 89 #[.slice (some ⟨p, 0, none⟩) N cap, .int .i64 x, .int .i64 y, iordF] w (ISortedPost C B p N k d a b) := by
  subst hx hy
  exact iinsertion_any p N a b k d B w hN h1 h2 hI hU hC hO hp hK
/-- What the sort leaves. -/
def IStablePost (C : Int → Mv) (B : World) (p n : Nat) (k : Int → Int) (e : Ending) (w' : World) : Prop := ∃ d, e = .returned (.tuple #[]) ∧ IOw C w' p n d ∧ Kept B w' ∧ Ordered k n d

set_option maxRecDepth 100000 in
set_option maxHeartbeats 4000000 in
theorem istable_any (p n : Nat) (k : Int → Int) (B w : World) (hn : n ≤ 40) (hC : ICmpOk C B n k) (hO : IOw C w p n idn) (hp : B.heap.size ≤ p) (hK : Kept B w) :
    Calls Try.prog 69 #[.slice (some ⟨p, 0, none⟩) n cap, .int .i64 (n : Int), iordF] w (IStablePost C B p n k) := by
  go_enter Try.func69, Try.ntmps69
  go_wp2
  go_loopw [7, 8] (fun s u wr => ∃ (t : Nat) (d : Nat → Int), 20 * t ≤ n ∧ s = .int .i64 ((20 * t : Nat) : Int) ∧ u = .int .i64 ((20 * t + 20 : Nat) : Int) ∧ Blk k n t d ∧ IOw C wr p n d ∧ Kept B wr) (fun s _ _ => (n - intOf s).toNat)
  case atStart => exact ⟨0, idn, by omega, rfl, rfl, Blk.start k n, hO, hK⟩
  case round =>
    obtain ⟨t, d, t0, rfl, rfl, hB, hOr, hKr⟩ := hrel
    by_cases hlt : 20 * t + 20 ≤ n
    · have lb : decide (((20 * t + 20 : Nat) : Int) ≤ (n : Int)) = true := by simp; omega
      go_wp2_with fail
      refine (iinsertion_at p n (20 * t) (20 * t + 20) _ _ k d B _ (by omega) (by omega) (by omega) (by omega) hlt hB.inR (hB.outer _ hlt) hC hOr hp hKr).mono ?_
      rintro e w1 ⟨e1, rfl, hO1, hK1, hP1, hS1⟩
      have HB := Lib.hid (hB.step _ (.inl ⟨rfl, hlt⟩) hP1 hS1)
      clear hB hP1 hS1
      go_wp2
      go_roundw
      case rel => exact ⟨t + 1, e1, by omega, by go_num, by go_num, HB.out, hO1, hK1⟩
      case measure => simp [intOf]; omega
    · have lb : decide (((20 * t + 20 : Nat) : Int) ≤ (n : Int)) = false := by simp; omega
      have lc : decide (20 * t + 20 ≤ n) = false := by simp; omega
      go_wp2_with fail
      refine (iinsertion_at p n (20 * t) n _ _ k d B _ (by omega) (by omega) (by omega) t0 (Nat.le_refl _) hB.inR (hB.outer _ (Nat.le_refl _)) hC hOr hp hKr).mono ?_
      rintro e w1 ⟨e1, rfl, hO1, hK1, hP1, hS1⟩
      have HB := Lib.hid (hB.step _ (.inr ⟨rfl, t0, by omega⟩) hP1 hS1)
      have T1 : n ≤ 20 * (t + 1) := by omega
      clear hB hP1 hS1 lb lc
      by_cases few : n ≤ 20
      · have fb : decide ((20 : Int) < (n : Int)) = false := by simp; omega
        have fc : decide (20 < n) = false := by simp; omega
        have OR := Lib.hid (HB.out.few T1 few)
        go_wp2
        go_loopw [6] (fun s wr => s = .int .i64 20 ∧ IOw C wr p n e1 ∧ Kept B wr) (fun _ _ => 0)
        case atStart => exact ⟨rfl, hO1, hK1⟩
        case round =>
          obtain ⟨rfl, hO2, hK2⟩ := hrel
          go_wp2
          go_end0
          exact ⟨e1, rfl, hO2, hK2, OR.out⟩
      · go_wp2
        go_loopw [6] (fun s wr => ∃ f, (s = .int .i64 20 ∧ Blk k n (t + 1) f ∨ s = .int .i64 40 ∧ Ordered k n f) ∧ IOw C wr p n f ∧ Kept B wr) (fun s _ => (60 - intOf s).toNat)
        case atStart => exact ⟨e1, .inl ⟨rfl, HB.out⟩, hO1, hK1⟩
        case round =>
          clear hO1 hK1 HB
          obtain ⟨f, hst, hO2, hK2⟩ := hrel
          rcases hst with ⟨rfl, hB2⟩ | ⟨rfl, hR⟩
          · have fb : decide ((20 : Int) < (n : Int)) = true := by simp; omega
            have fc : decide (20 < n) = true := by simp; omega
            by_cases c40 : n = 40
            · have d1 : decide ((40 : Int) ≤ (n : Int)) = true := by simp; omega
              have d2 : decide (40 ≤ n) = true := by simp; omega
              have d3 : decide ((80 : Int) ≤ (n : Int)) = false := by simp; omega
              have d4 : decide (80 ≤ n) = false := by simp; omega
              have d5 : decide ((60 : Int) < (n : Int)) = false := by simp; omega
              have d6 : decide (60 < n) = false := by simp; omega
              have C40 := Lib.hid c40
              clear c40
              go_wp2
              go_loopw [7, 8] (fun s u wr => ∃ g, (s = .int .i64 0 ∧ u = .int .i64 40 ∧ Blk k n (t + 1) g ∨ s = .int .i64 40 ∧ u = .int .i64 80 ∧ Ordered k n g) ∧ IOw C wr p n g ∧ Kept B wr) (fun s _ _ => (60 - intOf s).toNat)
              case atStart => exact ⟨f, .inl ⟨rfl, rfl, hB2⟩, hO2, hK2⟩
              case round =>
                clear hO2 hK2 hB2
                obtain ⟨g, hst, hO3, hK3⟩ := hrel
                rcases hst with ⟨rfl, rfl, hB3⟩ | ⟨rfl, rfl, hR⟩
                · go_wp2_with fail
                  refine (imerge_any p n k B 40 0 20 n _ _ _ g _ (by omega) (by omega) (by have := C40.out; omega) (by omega) (hB3.ipre T1 (by omega) hn hC hO3 hp hK3)).mono ?_
                  rintro e w4 ⟨h, rfl, hO4, hK4, hP4, hS4⟩
                  have OR := Lib.hid (show Ordered k n h from ⟨hB3.pm.trans hP4, hS4⟩)
                  clear hB3 hP4 hS4
                  go_wp2
                  go_roundw
                  case rel => exact ⟨h, .inr ⟨rfl, rfl, OR.out⟩, hO4, hK4⟩
                  case measure => simp [intOf]
                · have OR := Lib.hid hR
                  clear hR
                  go_wp2
                  go_roundw
                  case rel => exact ⟨g, .inr ⟨rfl, OR.out⟩, hO3, hK3⟩
                  case measure => simp [intOf]
            · have d1 : decide ((40 : Int) ≤ (n : Int)) = false := by simp; omega
              have d2 : decide (40 ≤ n) = false := by simp; omega
              go_wp2
              go_loopw [7, 8] (fun s u wr => s = .int .i64 0 ∧ u = .int .i64 40 ∧ IOw C wr p n f ∧ Kept B wr) (fun _ _ _ => 0)
              case atStart => exact ⟨rfl, rfl, hO2, hK2⟩
              case round =>
                clear hO2 hK2
                obtain ⟨rfl, rfl, hO3, hK3⟩ := hrel
                go_wp2_with fail
                refine (imerge_any p n k B 40 0 20 n _ _ _ f _ (by omega) (by omega) (by omega) (by omega) (hB2.ipre T1 (by omega) hn hC hO3 hp hK3)).mono ?_
                rintro e w4 ⟨h, rfl, hO4, hK4, hP4, hS4⟩
                have OR := Lib.hid (show Ordered k n h from ⟨hB2.pm.trans hP4, hS4⟩)
                clear hB2 hP4 hS4
                go_wp2
                go_roundw
                case rel => exact ⟨h, .inr ⟨rfl, OR.out⟩, hO4, hK4⟩
                case measure => simp [intOf]
          · have fb : decide ((40 : Int) < (n : Int)) = false := by simp; omega
            have fc : decide (40 < n) = false := by simp; omega
            have OR := Lib.hid hR
            clear hR
            go_wp2
            go_end0
            exact ⟨f, rfl, hO2, hK2, OR.out⟩

set_option maxHeartbeats 1000000 in
theorem isortStable_any (p n : Nat) (k : Int → Int) (B w : World) (hn : n ≤ 40) (hC : ICmpOk C B n k) (hO : IOw C w p n idn) (hp : B.heap.size ≤ p) (hK : Kept B w) :
    Calls Try.prog 37 #[.slice (some ⟨p, 0, none⟩) n cap, iordF] w (IStablePost C B p n k) := by
  go_enter Try.func37, Try.ntmps37
  go_wp2_with fail
  refine (istable_any p n k B _ hn hC hO hp hK).mono ?_
  rintro e w1 ⟨d, rfl, hO1, hK1, hR⟩
  go_wp2
  go_end0
  exact ⟨d, rfl, hO1, hK1, hR⟩

end Go.Proofs.Ytdgiljndoeldcaa
