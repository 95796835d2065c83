/-
  What package stock's takeOldest returns. No condition but those that each theorem names.
-/
import Derived.Test.YtiilljdeplihoaaPWalkA
namespace Go.Proofs.Ytiilljdeplihoaa
open Go.RowKit
set_option linter.unusedVariables false

theorem grownBy_drew {w w' : World} {r : Option Nat} (h : w.grownBy w' r) : w.grownBy w'.drew r := ⟨h.os, h.tape, h.output, h.size, h.block⟩
theorem grownBy_drewN {w w' : World} {r : Option Nat} (h : w.grownBy w' r) (n : Nat) : w.grownBy (w'.drewN n) r := ⟨h.os, h.tape, h.output, h.size, h.block⟩
theorem grownBy_rfl (w : World) (r : Option Nat) : w.grownBy w r := ⟨rfl, rfl, rfl, Nat.le_refl _, fun _ _ _ => rfl⟩
theorem QMem.drewN {α : Type} {E : Jec α} {w : World} {p off c : Nat} {l : List α} (h : QMem E w p off c l) (n : Nat) : QMem E (w.drewN n) p off c l := ⟨⟨h.row.lt, h.row.c⟩, h.room⟩
theorem cat_set0 (x : Mv) (r : List Mv) (z : Int) : eP.cat ((z, x.2) :: r) = (eP.cat (x :: r)).set 0 (.int .i64 z) := rfl
theorem cat_set1 (x : Mv) (r : List Mv) (z : Int) : eP.cat ((x.1, z) :: r) = (eP.cat (x :: r)).set 1 (.int .i64 z) := rfl
/-- Both numbers of the first element written. -/
theorem QMem.two {w : World} {p off c : Nat} {x : Mv} {r : List Mv} (h : QMem eP w p off c (x :: r)) (a b : Int) : QMem eP ((w.setCell ⟨p, off, none⟩ (.int .i64 a)).setCell ⟨p, off + 1, none⟩ (.int .i64 b)) p off c ((a, b) :: r) := by
  have h1 := h.setAt (m := (a, x.2) :: r) 0 (.int .i64 a) (cat_set0 x r a) (by rw [eP.cat_len, List.length_cons]; show 0 < (r.length + 1) * 2; omega)
  rw [Nat.add_zero] at h1
  exact h1.setAt (m := (a, b) :: r) 1 (.int .i64 b) (cat_set1 (a, x.2) r b) (by rw [eP.cat_len, List.length_cons]; show 1 < (r.length + 1) * 2; omega)
theorem QMem.head {w : World} {p off c : Nat} {x : Mv} {r : List Mv} (h : QMem eP w p off c (x :: r)) (hc : 1 ≤ c) : w.cell? ⟨p, off, none⟩ = some (.int .i64 x.1) ∧ w.cell? ⟨p, off + 1, none⟩ = some (.int .i64 x.2) ∧ w.frozen? ⟨p, off, none⟩ = false ∧ w.frozen? ⟨p, off + 1, none⟩ = false := by
  have e : c * eP.k = 2 * c := by simp [eP]; omega
  have c0 := h.row.c0 0 (by simp)
  have c1 := h.row.c1 0 (by simp)
  have f0 := (h.room 0 (by omega)).2
  have f1 := (h.room 1 (by omega)).2
  simp only [Nat.zero_mul, Nat.add_zero, List.getElem_cons_zero] at c0 c1 f0
  exact ⟨c0, c1, f0, f1⟩
/-- The first lot of a row left out. -/
theorem QRow.cut {B : Nat} {w : World} {p off c : Nat} {x : Mv} {r : List Mv} (h : QMem eP w p off c (x :: r)) (hb : B ≤ p) (h1 : (x :: r).length ≤ c) (h2 : c ≤ maxLen) :
    QRow eP B w (.slice (if c = 1 then some ⟨p, off, none⟩ else some ⟨p, off + 2, none⟩) r.length (c - 1)) r := by
  rw [List.length_cons] at h1
  by_cases e : c = 1
  · subst e
    obtain rfl : r = [] := List.eq_nil_of_length_eq_zero (by omega)
    rw [if_pos rfl]
    exact ⟨_, 0, rfl, Nat.le_refl _, by decide, .inr ⟨p, off, rfl, hb, ⟨⟨h.row.lt, fun j u hj => by simp [Jec.cat] at hj⟩, fun j hj => by omega⟩⟩⟩
  · rw [if_neg e]
    exact ⟨_, c - 1, rfl, by omega, by omega, .inr ⟨p, off + 2, rfl, hb, h.drop1 (by omega)⟩⟩
/-- What takeOldest leaves: a cost, and the lots that remain, where they lay. -/
def TakePost (w : World) (B : Nat) (v : Value) (l : List Mv) (n : Int) (e : Ending) (w' : World) : Prop :=
  ∃ v', e = .returned (.tuple #[.int .i64 (tkC l n), v']) ∧ QRow eP B w' v' (tkL l n) ∧ v'.ownBlock = v.ownBlock ∧ w.grownBy w' v.ownBlock
set_option maxHeartbeats 8000000 in
theorem take_any (v : Value) (l : List Mv) (n : Int) (B : Nat) (w : World) (hQ : QRow eP B w v l) (hL : LotsOk l) (h0 : 0 ≤ n) (hn : n ≤ cnt l) (hl : l.length ≤ 40) :
    Calls Try.prog 27 #[v, .int .i64 n] w (TakePost w B v l n) := by
  have TL := Lib.hid (hL.cnt0)
  obtain ⟨av, cv, hv, _⟩ := id hQ.is
  subst hv
  generalize hvv : Value.slice av l.length cv = v at *
  go_enter Try.func27, Try.ntmps27
  go_wp2
  go_loopw [0, 1, 6] (fun u k c wr => ∃ (m : List Mv) (kk cc : Int), k = .int .i64 kk ∧ c = .int .i64 cc ∧ QRow eP B wr u m ∧ u.ownBlock = v.ownBlock ∧ LotsOk m ∧ 0 ≤ kk ∧ kk ≤ cnt m ∧ m.length ≤ 40 ∧ 0 ≤ cc ∧ cc + csm m ≤ 1000000000000 * 40 ∧ Hid (tkL m kk = tkL l n ∧ cc + tkC m kk = tkC l n) ∧ w.grownBy wr v.ownBlock) (fun _ k _ _ => (intOf k).toNat)
  case atStart =>
    have := TL.out
    exact ⟨l, n, 0, rfl, rfl, hQ, rfl, hL, h0, hn, hl, Int.le_refl _, by omega, Lib.hid ⟨rfl, by omega⟩, grownBy_rfl _ _⟩
  case round =>
    clear hQ hL h0 hn hl hvv
    obtain ⟨m, k, c, rfl, rfl, hQ, hO, hL, k0, kn, ml, c0, cb, HE, hG⟩ := hrel
    by_cases kz : 0 < k
    · cases m with
      | nil => simp [cnt] at kn; omega
      | cons x r =>
        obtain ⟨a, cap, rfl, h1, h2, h3⟩ := hQ.is
        rcases h3 with ⟨_, h3⟩ | ⟨p, off, rfl, hp, hM⟩
        · simp at h1; omega
        · rw [List.length_cons] at h1
          obtain ⟨x0, x1, f0, f1⟩ := hM.head (by omega)
          obtain ⟨a1, a2, a3, a4⟩ := hL.head
          obtain ⟨t1, t2, t3, t4⟩ := hL.tail.cnt0
          rw [List.length_cons] at ml
          simp only [csm, cnt] at kn cb
          have plt := hM.row.lt
          have hcap : ¬ cap = 0 := by omega
          have hB := hQ.lt
          clear hQ
          rcases Int.lt_trichotomy k x.1 with g | g | g
          · obtain ⟨e1, e2⟩ := tk_part (x := x) (r := r) (n := k) (by omega) g
            rw [e1, e2] at HE
            obtain ⟨p0, p1⟩ := part_bd a3 (by omega : 0 ≤ k) (by omega : k ≤ x.1) (by omega)
            have bb : x.2 * k ≤ 1000000000000 * 1000000 := Int.mul_le_mul a4 (by omega) (by omega) (by omega)
            have bb0 : 0 ≤ x.2 * k := Int.mul_nonneg a3 (by omega)
            have td : (x.2 * k).tdiv x.1 = x.2 * k / x.1 := Int.tdiv_eq_ediv_of_nonneg bb0
            have w1 : IntKind.i64.wrap (x.2 * k) = x.2 * k := IntWalk.i64_in _ (by omega)
            have w2 : IntKind.i64.wrap (x.2 * k / x.1) = x.2 * k / x.1 := IntWalk.i64_in _ (by omega)
            have mn : min k x.1 = k := by omega
            have z1 : (x.1 == 0) = false := by rw [beq_eq_false_iff_ne]; omega
            have z2 : (x.1 - k == 0) = false := by rw [beq_eq_false_iff_ne]; omega
            have w3 : IntKind.i64.wrap (x.1 - k) = x.1 - k := IntWalk.i64_in _ (by omega)
            have LO := Lib.hid (show LotsOk ((x.1 - k, x.2 - x.2 * k / x.1) :: r) from fun y hy => by
              rcases List.mem_cons.1 hy with rfl | hy
              · exact ⟨by simp only; omega, by simp only; omega, by simp only; omega, by simp only; omega⟩
              · exact hL.tail y hy)
            have HM2 := Lib.hid (fun n => (hM.drewN n).two (x.1 - k) (x.2 - x.2 * k / x.1))
            clear hM hL bb bb0
            generalize hP : x.2 * k / x.1 = P at *
            clear hP
            have w4 : IntKind.i64.wrap (x.2 - P) = x.2 - P := IntWalk.i64_in _ (by omega)
            have w5 : IntKind.i64.wrap (c + P) = c + P := IntWalk.i64_in _ (by omega)
            go_wp2
            go_quiet (fail)
            go_wp2
            go_roundw
            case rel =>
              refine ⟨(x.1 - k, x.2 - P) :: r, 0, c + P, by go_num, rfl, ⟨_, cap, rfl, by simp only [List.length_cons]; omega, h2, .inr ⟨p, off, rfl, hp, HM2.out _⟩⟩, hO, LO.out, Int.le_refl _, ?_, by simp only [List.length_cons]; omega, by omega, by simp only [csm]; omega, Lib.hid ?_, ?_⟩
              · have := LO.out.cnt0; omega
              · obtain ⟨q1, q2⟩ := HE.out
                have Z := tk_zero ((x.1 - k, x.2 - P) :: r) (Int.le_refl 0)
                rw [Z.1, Z.2]
                exact ⟨q1, by omega⟩
              · rw [← hO] at hG ⊢
                exact grownBy_trans (grownBy_trans (grownBy_drewN hG _) (grownBy_setAt _ _ _ _)) (grownBy_setAt _ _ _ _)
            case measure => simp [intOf]; omega
          · obtain ⟨e1, e2⟩ := tk_all (x := x) (r := r) (n := k) (by omega) (by omega)
            rw [e1, e2] at HE
            have td : (x.2 * k).tdiv x.1 = x.2 := by rw [g]; exact Int.mul_tdiv_cancel _ (by omega)
            have bb : x.2 * k ≤ 1000000000000 * 1000000 := Int.mul_le_mul a4 (by omega) (by omega) (by omega)
            have bb0 : 0 ≤ x.2 * k := Int.mul_nonneg a3 (by omega)
            have w1 : IntKind.i64.wrap (x.2 * k) = x.2 * k := IntWalk.i64_in _ (by omega)
            have mn : min k x.1 = k := by omega
            have z1 : (x.1 == 0) = false := by rw [beq_eq_false_iff_ne]; omega
            have z2 : (x.1 - k == 0) = true := by rw [beq_iff_eq]; omega
            have w3 : IntKind.i64.wrap (x.1 - k) = x.1 - k := IntWalk.i64_in _ (by omega)
            have w2 : IntKind.i64.wrap x.2 = x.2 := IntWalk.i64_in _ (by omega)
            have w5 : IntKind.i64.wrap (c + x.2) = c + x.2 := IntWalk.i64_in _ (by omega)
            have HL := Lib.hid hL.tail
            have HM2 := Lib.hid (fun n => QRow.cut ((hM.drewN n).two (x.1 - k) 0) hp (by rw [List.length_cons]; omega) h2)
            clear hM hL bb bb0
            have hg := g
            have GG := Lib.hid g
            clear g hg
            go_wp2
            go_quiet (fail)
            go_wp2
            go_roundw
            case rel =>
              refine ⟨r, 0, c + x.2, rfl, rfl, HM2.out _, ?_, HL.out, Int.le_refl _, t1, by omega, by omega, by omega, Lib.hid ?_, ?_⟩
              · rw [← hO]; split <;> rfl
              · obtain ⟨q1, q2⟩ := HE.out
                have e0 : k - x.1 = 0 := by have := GG.out; omega
                rw [e0] at q1 q2
                exact ⟨q1, by omega⟩
              · rw [← hO] at hG ⊢
                exact grownBy_trans (grownBy_trans (grownBy_drewN hG _) (grownBy_setAt _ _ _ _)) (grownBy_setAt _ _ _ _)
            case measure => simp [intOf]; omega
          · obtain ⟨e1, e2⟩ := tk_all (x := x) (r := r) (n := k) (by omega) (by omega)
            rw [e1, e2] at HE
            have td : (x.2 * x.1).tdiv x.1 = x.2 := Int.mul_tdiv_cancel _ (by omega)
            have bb : x.2 * x.1 ≤ 1000000000000 * 1000000 := Int.mul_le_mul a4 (by omega) (by omega) (by omega)
            have bb0 : 0 ≤ x.2 * x.1 := Int.mul_nonneg a3 (by omega)
            have w1 : IntKind.i64.wrap (x.2 * x.1) = x.2 * x.1 := IntWalk.i64_in _ (by omega)
            have mn : min k x.1 = x.1 := by omega
            have z1 : (x.1 == 0) = false := by rw [beq_eq_false_iff_ne]; omega
            have w3 : IntKind.i64.wrap (k - x.1) = k - x.1 := IntWalk.i64_in _ (by have := t4; omega)
            have w2 : IntKind.i64.wrap x.2 = x.2 := IntWalk.i64_in _ (by omega)
            have w5 : IntKind.i64.wrap (c + x.2) = c + x.2 := IntWalk.i64_in _ (by omega)
            have HL := Lib.hid hL.tail
            have c1 : ¬ cap = 1 := by omega
            have HM2 := Lib.hid (fun n a b => show QRow eP B _ (.slice (some ⟨p, off + 2, none⟩) r.length (cap - 1)) r from by
              have := QRow.cut ((hM.drewN n).two a b) hp (by rw [List.length_cons]; omega) h2
              rwa [if_neg c1] at this)
            have ng : ¬ k < x.1 := by omega
            clear hM hL bb bb0
            go_wp2
            go_quiet (fail)
            go_wp2
            go_roundw
            case rel =>
              refine ⟨r, k - x.1, c + x.2, rfl, rfl, HM2.out _ _ _, ?_, HL.out, by omega, by omega, by omega, by omega, by omega, Lib.hid ?_, ?_⟩
              · rw [← hO]; rfl
              · obtain ⟨q1, q2⟩ := HE.out
                exact ⟨q1, by omega⟩
              · rw [← hO] at hG ⊢
                exact grownBy_trans (grownBy_trans (grownBy_drewN hG _) (grownBy_setAt _ _ _ _)) (grownBy_setAt _ _ _ _)
            case measure => simp [intOf]; omega
    · obtain rfl : k = 0 := by omega
      have Z := tk_zero m (Int.le_refl 0)
      rw [Z.1, Z.2] at HE
      have ec : c = tkC l n := by have := HE.out.2; omega
      have em : m = tkL l n := HE.out.1
      clear kz
      go_wp2
      go_ret2
      exact ⟨_, by rw [ec]; rfl, by rw [← em]; exact hQ, hO, hG⟩
end Go.Proofs.Ytiilljdeplihoaa
