import Derived.Test.YtjfflnkocajkeaaMWalkA
import Derived.StillTailTactics
/-
  Sums by kinds of accounts: what lines of a kind come to, in entries of some days. No condition but those that each theorem names.
-/
namespace Go.Proofs.Ytjfflnkocajkeaa
set_option linter.unusedVariables false

/-- An account's kind. -/
def kiV (acs : List Pr) (c : ByteArray) : Int := kdV (acs.filter (isB c))
/-- What lines of a kind come to. -/
def kinL (acs : List Pr) (k : Int) : List Pr → Int
  | [] => 0
  | x :: r => (if kiV acs x.1 = k then x.2 else 0) + kinL acs k r
theorem kinL_append (acs : List Pr) (k : Int) : ∀ l m : List Pr, kinL acs k (l ++ m) = kinL acs k l + kinL acs k m
  | [], m => by simp [kinL]
  | x :: r, m => by rw [List.cons_append, kinL, kinL, kinL_append acs k r m]; omega
theorem kinL_snoc {acs : List Pr} {k : Int} {l : List Pr} {j : Nat} (h : j < l.length) : kinL acs k (l.take (j + 1)) = kinL acs k (l.take j) + (if kiV acs (l[j]).1 = k then (l[j]).2 else 0) := by
  rw [List.take_succ_eq_append_getElem h, kinL_append]; simp [kinL]
theorem kinL_bd {acs : List Pr} {k : Int} : ∀ {l : List Pr}, (∀ x ∈ l, -1000000000000 ≤ x.2 ∧ x.2 ≤ 1000000000000) → -1000000000000 * (l.length : Int) ≤ kinL acs k l ∧ kinL acs k l ≤ 1000000000000 * (l.length : Int)
  | [], _ => by simp [kinL]
  | x :: r, h => by
    obtain ⟨a, b⟩ := kinL_bd (acs := acs) (k := k) (l := r) fun y hy => h y (by simp [hy])
    obtain ⟨d, e⟩ := h x (by simp)
    rw [kinL, List.length_cons]
    split <;> constructor <;> omega
/-- .. all of them in entries. -/
def kinE (acs : List Pr) (k : Int) : List Et → Int
  | [] => 0
  | e :: r => kinL acs k e.lns + kinE acs k r
theorem kinE_append (acs : List Pr) (k : Int) : ∀ l m : List Et, kinE acs k (l ++ m) = kinE acs k l + kinE acs k m
  | [], m => by simp [kinE]
  | x :: r, m => by rw [List.cons_append, kinE, kinE, kinE_append acs k r m]; omega
theorem kinE_bd {acs : List Pr} {k : Int} : ∀ {l : List Et}, (∀ x ∈ l, x.lns.length ≤ 12 ∧ ∀ y ∈ x.lns, -1000000000000 ≤ y.2 ∧ y.2 ≤ 1000000000000) → -12000000000000 * (l.length : Int) ≤ kinE acs k l ∧ kinE acs k l ≤ 12000000000000 * (l.length : Int)
  | [], _ => by simp [kinE]
  | x :: r, h => by
    obtain ⟨a, b⟩ := kinE_bd (acs := acs) (k := k) (l := r) fun y hy => h y (by simp [hy])
    obtain ⟨d, e⟩ := h x (by simp)
    obtain ⟨f, g⟩ := kinL_bd (acs := acs) (k := k) e
    rw [kinE, List.length_cons]
    constructor <;> omega
theorem kinE_perm {acs : List Pr} {k : Int} {l m : List Et} (h : l.Perm m) : kinE acs k l = kinE acs k m := by
  induction h with
  | nil => rfl
  | cons x _ ih => rw [kinE, kinE, ih]
  | swap x y l => rw [kinE, kinE, kinE, kinE]; omega
  | trans _ _ a b => exact a.trans b
/-- Is an entry of these days? -/
def inD (f t : Int) (e : Et) : Bool := decide (f ≤ e.day) && decide (e.day ≤ t)
theorem inD_iff {f t : Int} {e : Et} : inD f t e = true ↔ f ≤ e.day ∧ e.day ≤ t := by unfold inD; simp
/-- What lines of a kind come to, in entries of some days. -/
def kinS (acs : List Pr) (k f t : Int) (l : List Et) : Int := kinE acs k (l.filter (inD f t))
theorem kinS_snoc {acs : List Pr} {k f t : Int} {l : List Et} {j : Nat} (h : j < l.length) : kinS acs k f t (l.take (j + 1)) = kinS acs k f t (l.take j) + (if inD f t l[j] = true then kinL acs k (l[j]).lns else 0) := by
  unfold kinS
  rw [List.take_succ_eq_append_getElem h, List.filter_append, kinE_append]
  cases e : inD f t l[j] <;> simp [e, kinE]
theorem kinS_bd {acs : List Pr} {k f t : Int} {l : List Et} (hn : l.length ≤ 60) (h : ∀ x ∈ l, x.lns.length ≤ 12 ∧ ∀ y ∈ x.lns, -1000000000000 ≤ y.2 ∧ y.2 ≤ 1000000000000) : -720000000000000 ≤ kinS acs k f t l ∧ kinS acs k f t l ≤ 720000000000000 := by
  have h1 := kinE_bd (acs := acs) (k := k) (l := l.filter (inD f t)) fun x hx => h x (List.mem_filter.1 hx).1
  have h2 : (l.filter (inD f t)).length ≤ 60 := Nat.le_trans (List.length_filter_le _ _) hn
  unfold kinS
  omega
theorem kinS_perm {acs : List Pr} {k f t : Int} {l m : List Et} (h : l.Perm m) : kinS acs k f t l = kinS acs k f t m := kinE_perm (h.filter _)
/-- Two periods, one behind the other. -/
theorem kinS_parts {acs : List Pr} {k f m t : Int} (h1 : f ≤ m + 1) (h2 : m ≤ t) : ∀ l : List Et, kinS acs k f m l + kinS acs k (m + 1) t l = kinS acs k f t l
  | [] => rfl
  | x :: r => by
    have ih := kinS_parts (acs := acs) (k := k) h1 h2 r
    unfold kinS at *
    rw [List.filter_cons, List.filter_cons, List.filter_cons]
    by_cases a : f ≤ x.day
    · by_cases c : x.day ≤ m
      · have e1 : inD f m x = true := inD_iff.2 ⟨a, c⟩
        have e2 : inD (m + 1) t x = false := by unfold inD; simp; omega
        have e3 : inD f t x = true := inD_iff.2 ⟨a, by omega⟩
        rw [e1, e2, e3, if_pos rfl, if_neg (by simp), if_pos rfl, kinE, kinE]; omega
      · have e1 : inD f m x = false := by unfold inD; simp; omega
        by_cases d : x.day ≤ t
        · have e2 : inD (m + 1) t x = true := inD_iff.2 ⟨by omega, d⟩
          have e3 : inD f t x = true := inD_iff.2 ⟨a, d⟩
          rw [e1, e2, e3, if_neg (by simp), if_pos rfl, if_pos rfl, kinE, kinE]; omega
        · have e2 : inD (m + 1) t x = false := by unfold inD; simp; omega
          have e3 : inD f t x = false := by unfold inD; simp; omega
          rw [e1, e2, e3, if_neg (by simp), if_neg (by simp), if_neg (by simp)]; exact ih
    · have e1 : inD f m x = false := by unfold inD; simp; omega
      have e2 : inD (m + 1) t x = false := by unfold inD; simp; omega
      have e3 : inD f t x = false := by unfold inD; simp; omega
      rw [e1, e2, e3, if_neg (by simp), if_neg (by simp), if_neg (by simp)]; exact ih
/-- The kinds of a good book's accounts. -/
theorem kiV_bd {acs : List Pr} (h : acE acs = 0) {c : ByteArray} (hc : hasB c acs = true) : 0 ≤ kiV acs c ∧ kiV acs c ≤ 4 := by
  obtain ⟨y, hy, e⟩ := hasB_iff.1 hc
  unfold kiV
  have hm : y ∈ acs.filter (isB c) := List.mem_filter.2 ⟨hy, isB_iff.2 e⟩
  cases hf : acs.filter (isB c) with
  | nil => rw [hf] at hm; cases hm
  | cons z r =>
    have hz : z ∈ acs.filter (isB c) := by rw [hf]; simp
    exact ((acE_inc h).2 z (List.mem_filter.1 hz).1).2
theorem kiV_at {acs : List Pr} (hn : (acs.map Prod.fst).Nodup) : ∀ a ∈ acs, kiV acs a.1 = a.2 := by
  intro a ha
  unfold kiV
  induction acs with
  | nil => cases ha
  | cons x r ih =>
    rw [List.map_cons, List.nodup_cons] at hn
    rw [List.filter_cons]
    rcases List.mem_cons.1 ha with rfl | ha
    · rw [if_pos (isB_iff.2 rfl)]; rfl
    · rw [if_neg (fun h => hn.1 (List.mem_map.2 ⟨a, ha, (isB_iff.1 h).symm⟩))]
      exact ih hn.2 ha
/-- All kinds together. -/
theorem kin_all {acs : List Pr} : ∀ {l : List Pr}, (∀ x ∈ l, 0 ≤ kiV acs x.1 ∧ kiV acs x.1 ≤ 4) → kinL acs 0 l + kinL acs 1 l + kinL acs 2 l + kinL acs 3 l + kinL acs 4 l = sumL l
  | [], _ => rfl
  | x :: r, h => by
    have ih := kin_all (acs := acs) (l := r) fun y hy => h y (by simp [hy])
    obtain ⟨h0, h4⟩ := h x (by simp)
    rw [kinL, kinL, kinL, kinL, kinL, sumL]
    generalize kiV acs x.1 = k at *
    rcases (by omega : k = 0 ∨ k = 1 ∨ k = 2 ∨ k = 3 ∨ k = 4) with rfl | rfl | rfl | rfl | rfl <;> simp <;> omega
theorem kinE_all {acs : List Pr} (ha : acE acs = 0) : ∀ {l : List Et}, (∀ e ∈ l, OkE acs e) → kinE acs 0 l + kinE acs 1 l + kinE acs 2 l + kinE acs 3 l + kinE acs 4 l = 0
  | [], _ => rfl
  | e :: r, h => by
    have ih := kinE_all ha (l := r) fun y hy => h y (by simp [hy])
    obtain ⟨ok, hs⟩ := h e (by simp)
    have h1 := kin_all (acs := acs) (l := e.lns) fun x hx => kiV_bd ha (hs x hx)
    rw [(enE_ok ok).2.2.2.2] at h1
    rw [kinE, kinE, kinE, kinE, kinE]
    omega
theorem Good.kin0 {b : Bk} (g : Good b) (f t : Int) : kinS b.acs 0 f t b.ens + kinS b.acs 1 f t b.ens + kinS b.acs 2 f t b.ens + kinS b.acs 3 f t b.ens + kinS b.acs 4 f t b.ens = 0 :=
  kinE_all g.acs fun e he => g.each e (List.mem_filter.1 he).1
theorem Good.kbd {b : Bk} (g : Good b) (k f t : Int) : -720000000000000 ≤ kinS b.acs k f t b.ens ∧ kinS b.acs k f t b.ens ≤ 720000000000000 :=
  kinS_bd g.many fun x hx => (g.each x hx).bd
/-- P39 to P41: the error of a period. -/
def tcE (b : Bk) (f t : Int) : Int := if bkE b = 0 then (if 0 ≤ f ∧ f ≤ t ∧ t ≤ 292193 then 0 else 1) else bkE b
theorem tcE_ok {b : Bk} {f t : Int} (h : tcE b f t = 0) : Good b ∧ 0 ≤ f ∧ f ≤ t ∧ t ≤ 292193 := by
  unfold tcE at h
  by_cases h1 : bkE b = 0
  · rw [if_pos h1] at h
    by_cases h2 : 0 ≤ f ∧ f ≤ t ∧ t ≤ 292193
    · exact ⟨bkE_iff.1 h1, h2⟩
    · rw [if_neg h2] at h; omega
  · rw [if_neg h1] at h; exact absurd h h1
theorem tcE_of {b : Bk} {f t : Int} (g : Good b) (h : 0 ≤ f ∧ f ≤ t ∧ t ≤ 292193) : tcE b f t = 0 := by unfold tcE; rw [if_pos (bkE_iff.2 g), if_pos h]
/-- Sums of what is above 0, and of what is below. -/
def upS (f : ByteArray → Int) : List Pr → Int
  | [] => 0
  | a :: r => max (f a.1) 0 + upS f r
def dnS (f : ByteArray → Int) : List Pr → Int
  | [] => 0
  | a :: r => max (-(f a.1)) 0 + dnS f r
theorem upS_snoc (f : ByteArray → Int) : ∀ (l : List Pr) (x : Pr), upS f (l ++ [x]) = upS f l + max (f x.1) 0
  | [], x => by simp [upS]
  | a :: r, x => by rw [List.cons_append, upS, upS, upS_snoc f r x]; omega
theorem dnS_snoc (f : ByteArray → Int) : ∀ (l : List Pr) (x : Pr), dnS f (l ++ [x]) = dnS f l + max (-(f x.1)) 0
  | [], x => by simp [dnS]
  | a :: r, x => by rw [List.cons_append, dnS, dnS, dnS_snoc f r x]; omega
theorem ud_sum (f : ByteArray → Int) : ∀ l : List Pr, upS f l - dnS f l = sumF f l ∧ 0 ≤ upS f l ∧ 0 ≤ dnS f l
  | [] => by simp [upS, dnS, sumF]
  | a :: r => by
    have := ud_sum f r
    rw [upS, dnS, sumF]; omega
theorem ud_bd {f : ByteArray → Int} (h : ∀ c, -720000000000000 ≤ f c ∧ f c ≤ 720000000000000) : ∀ l : List Pr, upS f l ≤ 720000000000000 * (l.length : Int) ∧ dnS f l ≤ 720000000000000 * (l.length : Int)
  | [] => by simp [upS, dnS]
  | a :: r => by
    have := ud_bd h r
    have := h a.1
    rw [upS, dnS, List.length_cons]
    constructor <;> omega
/-- .. of a good book's balances. -/
theorem Good.ud {b : Bk} (g : Good b) (d : Int) : upS (fun k => balS k d b.ens) b.acs = dnS (fun k => balS k d b.ens) b.acs := by
  have h := (ud_sum (fun k => balS k d b.ens) b.acs).1
  rw [book_zero g d] at h; omega
end Go.Proofs.Ytjfflnkocajkeaa

/-
  What package trial's check and totals return. No condition but those that each theorem names.
-/
namespace Go.Proofs.Ytjfflnkocajkeaa
open Go.RowKit
set_option linter.unusedVariables false

set_option maxHeartbeats 2000000 in
theorem tcheck_any (q : BkA) (b : Bk) (f t : Int) (w : World) (hM : BkM w q b) :
    Calls Try.prog 61 #[bkV q b, .int .i64 f, .int .i64 t] w fun e w' => e = .returned (.int .i64 (tcE b f t)) ∧ Kept w w' := by
  have hK2 := (Kept.refl w).alloc (bkO q b)
  have HB := Lib.hid (BBx.new w q b)
  have CK := Lib.hid (check_any q b _ (hM.later hK2))
  generalize hW : w.alloc (bkO q b) = W at HB CK hK2
  have HW := Lib.hid hW
  have HK := Lib.hid hK2
  clear hM hW hK2
  obtain ⟨b0, b1, b2, b3⟩ := HB.out
  by_cases h1 : bkE b = 0
  · rw [h1] at CK
    have TE := Lib.hid (show ∀ r : Int, (if 0 ≤ f ∧ f ≤ t ∧ t ≤ 292193 then (0 : Int) else 1) = r → tcE b f t = r from fun r h => by unfold tcE; rw [if_pos h1, h])
    clear h1
    by_cases g1 : f < 0
    · have FIN := Lib.hid (TE.out 1 (if_neg (by omega)))
      clear TE
      go_enter Try.func61, Try.ntmps61
      go_wp2_with fail
      rw [HW.out]
      refine CK.out.mono ?_
      rintro e w1 ⟨rfl, hK1⟩
      go_wp2
      go_ret
      exact ⟨ret_int FIN.out.symm, HK.out.trans hK1⟩
    · by_cases g2 : t < f
      · have FIN := Lib.hid (TE.out 1 (if_neg (by omega)))
        clear TE
        go_enter Try.func61, Try.ntmps61
        go_wp2_with fail
        rw [HW.out]
        refine CK.out.mono ?_
        rintro e w1 ⟨rfl, hK1⟩
        go_wp2
        go_ret
        exact ⟨ret_int FIN.out.symm, HK.out.trans hK1⟩
      · by_cases g3 : 292193 < t
        · have FIN := Lib.hid (TE.out 1 (if_neg (by omega)))
          clear TE
          go_enter Try.func61, Try.ntmps61
          go_wp2_with fail
          rw [HW.out]
          refine CK.out.mono ?_
          rintro e w1 ⟨rfl, hK1⟩
          go_wp2
          go_ret
          exact ⟨ret_int FIN.out.symm, HK.out.trans hK1⟩
        · have FIN := Lib.hid (TE.out 0 (if_pos (by omega)))
          clear TE
          go_enter Try.func61, Try.ntmps61
          go_wp2_with fail
          rw [HW.out]
          refine CK.out.mono ?_
          rintro e w1 ⟨rfl, hK1⟩
          go_wp2
          go_ret
          exact ⟨ret_int FIN.out.symm, HK.out.trans hK1⟩
  · have FIN := Lib.hid (show tcE b f t = bkE b by unfold tcE; rw [if_neg h1])
    have h2 : (bkE b != 0) = true := by simpa using h1
    clear h1
    generalize bkE b = ek at *
    go_enter Try.func61, Try.ntmps61
    go_wp2_with fail
    rw [HW.out]
    refine CK.out.mono ?_
    rintro e w1 ⟨rfl, hK1⟩
    go_wp2
    go_ret
    exact ⟨ret_int FIN.out.symm, HK.out.trans hK1⟩
/-- Five numbers. -/
def five (g : Int → Int) : List Int := [g 0, g 1, g 2, g 3, g 4]
theorem five_len (g : Int → Int) : (five g).length = 5 := rfl
theorem five_at (g : Int → Int) {n : Nat} (h : n < 5) (h' : n < (five g).length) : (five g)[n] = g n := by
  match n, h with
  | 0, _ => rfl
  | 1, _ => rfl
  | 2, _ => rfl
  | 3, _ => rfl
  | 4, _ => rfl
theorem five_set (g h : Int → Int) {v : Int} {n : Nat} (hn : n < 5) (h1 : ∀ k : Int, h k = g k + (if (n : Int) = k then v else 0)) : (five g).set n (g n + v) = five h := by
  unfold five
  rw [h1 0, h1 1, h1 2, h1 3, h1 4]
  match n, hn with
  | 0, _ => simp
  | 1, _ => simp
  | 2, _ => simp
  | 3, _ => simp
  | 4, _ => simp
abbrev fiveV (g : Int → Int) : Value := .agg #[.int .i64 (g 0), .int .i64 (g 1), .int .i64 (g 2), .int .i64 (g 3), .int .i64 (g 4)]
abbrev fiveO (g : Int → Int) : Obj := .cells #[.int .i64 (g 0), .int .i64 (g 1), .int .i64 (g 2), .int .i64 (g 3), .int .i64 (g 4)] 96
theorem Own.c5 {w : World} {p : Nat} {g : Int → Int} (h : Own w p (five g)) : w.cell? ⟨p, 0, none⟩ = some (.int .i64 (g 0)) ∧ w.cell? ⟨p, 1, none⟩ = some (.int .i64 (g 1)) ∧ w.cell? ⟨p, 2, none⟩ = some (.int .i64 (g 2)) ∧ w.cell? ⟨p, 3, none⟩ = some (.int .i64 (g 3)) ∧ w.cell? ⟨p, 4, none⟩ = some (.int .i64 (g 4)) :=
  ⟨h.cell 0 (show 0 < 5 by decide), h.cell 1 (show 1 < 5 by decide), h.cell 2 (show 2 < 5 by decide), h.cell 3 (show 3 < 5 by decide), h.cell 4 (show 4 < 5 by decide)⟩
theorem Own.f5 {w : World} {p : Nat} {g : Int → Int} (h : Own w p (five g)) : w.frozen? ⟨p, 0, none⟩ = false ∧ w.frozen? ⟨p, 1, none⟩ = false ∧ w.frozen? ⟨p, 2, none⟩ = false ∧ w.frozen? ⟨p, 3, none⟩ = false ∧ w.frozen? ⟨p, 4, none⟩ = false :=
  ⟨h.free 0 (show 0 < 5 by decide), h.free 1 (show 1 < 5 by decide), h.free 2 (show 2 < 5 by decide), h.free 3 (show 3 < 5 by decide), h.free 4 (show 4 < 5 by decide)⟩
theorem Own.new5 {w : World} {p : Nat} (g : Int → Int) (hp : w.heap.size = p) : Own (w.alloc (fiveO g)) p (five g) := Own.lit (l := five g) hp
end Go.Proofs.Ytjfflnkocajkeaa

/-
  What package trial's totals returns. No condition but those that each theorem names.
-/
namespace Go.Proofs.Ytjfflnkocajkeaa
open Go.RowKit
set_option linter.unusedVariables false

abbrev zeroO : Obj := .cells #[.int .i64 0, .int .i64 0, .int .i64 0, .int .i64 0, .int .i64 0] 96
theorem Own.zero5 {w : World} {p : Nat} (hp : w.heap.size = p) : Own (w.alloc zeroO) p (five fun _ => 0) := Own.new5 (fun _ => 0) hp
/-- So much of each kind of accounts. -/
def TotPost (w : World) (k0 k1 k2 k3 k4 : Int) (e : Ending) (w' : World) : Prop := e = .returned (.agg #[.int .i64 k0, .int .i64 k1, .int .i64 k2, .int .i64 k3, .int .i64 k4]) ∧ Kept w w'
/-- What they come to ahead of a line, and behind it. -/
theorem kin_next {acs : List Pr} {g : Int → Int} {l : List Pr} {j n : Nat} (h : j < l.length) (hn : n < 5) (hk : kiV acs (l[j]).1 = n) :
    (five fun k => g k + kinL acs k (l.take j)).set n (g n + kinL acs n (l.take j) + (l[j]).2) = five fun k => g k + kinL acs k (l.take (j + 1)) := by
  refine five_set (fun k => g k + kinL acs k (l.take j)) _ hn fun k => ?_
  rw [kinL_snoc h, hk]; omega
theorem five_eq {g h : Int → Int} (e : ∀ k, g k = h k) : five g = five h := by rw [show g = h from funext e]
set_option maxRecDepth 100000 in
set_option maxHeartbeats 4000000 in
theorem totals_any (q : BkA) (b : Bk) (f t : Int) (w : World) (hM : BkM w q b) (gd : Good b) :
    Calls Try.prog 62 #[bkV q b, .int .i64 f, .int .i64 t] w (TotPost w (kinS b.acs 0 f t b.ens) (kinS b.acs 1 f t b.ens) (kinS b.acs 2 f t b.ens) (kinS b.acs 3 f t b.ens) (kinS b.acs 4 f t b.ens)) := by
  have k1 := ((Kept.refl w).alloc (bkO q b)).alloc zeroO
  have k2 := k1.alloc zeroO
  have hB := (BBx.new w q b).later ((Kept.refl (w.alloc (bkO q b))).alloc zeroO)
  have hR := Own.zero5 (w := w.alloc (bkO q b)) (p := w.heap.size + 1) (by simp)
  have hS := Own.zero5 (w := (w.alloc (bkO q b)).alloc zeroO) (p := w.heap.size + 1 + 1) (by simp)
  have hs1 : ((w.alloc (bkO q b)).alloc zeroO).heap.size = w.heap.size + 1 + 1 := by simp
  have kU := (Kept.refl ((w.alloc (bkO q b)).alloc zeroO)).alloc zeroO
  have HM := Lib.hid (hM.later k1)
  have G := Lib.hid gd
  have n60 := gd.many
  generalize hW : (w.alloc (bkO q b)).alloc zeroO = W at *
  generalize hV : W.alloc zeroO = V at *
  have HW := Lib.hid hW
  have HV := Lib.hid hV
  have HB := Lib.hid hB
  have HR := Lib.hid hR
  have HS := Lib.hid hS
  have HK := Lib.hid k1
  have KU := Lib.hid kU
  have hWs : W.heap.size ≤ w.heap.size + 1 + 1 := by omega
  clear hM gd hB hR hS k1 k2 kU hW hV hs1
  have EB := Lib.hid (fun k (hk : k < b.ens.length) => (G.out.each _ (List.getElem_mem hk)))
  have SB := Lib.hid (fun k j => kinS_bd (acs := b.acs) (k := k) (f := f) (t := t) (l := b.ens.take j) (by rw [List.length_take]; omega) fun x hx => (G.out.each x (List.mem_of_mem_take hx)).bd)
  have AC := Lib.hid G.out.acs
  have HV0 := Lib.hid (HB.out.later KU.out)
  obtain ⟨b0, b1, b2, b3⟩ := HV0.out
  go_enter Try.func62, Try.ntmps62
  go_wp2_with (with_reducible rw [HW.out]; with_reducible rw [HV.out])
  clear b0 b1 b2 b3
  have HS0 := Lib.hid (show Own V (w.heap.size + 1 + 1) (five fun k => kinS b.acs k f t (b.ens.take 0)) from HS.out)
  generalize w.heap.size + 1 + 1 = ps at *
  go_loopw [17] (fun i wr => ∃ k : Nat, k ≤ b.ens.length ∧ i = .int .i64 k ∧ Own wr ps (five fun n => kinS b.acs n f t (b.ens.take k)) ∧ Kept W wr) (fun i _ => b.ens.length - (intOf i).toNat)
  case atStart => exact ⟨0, Nat.zero_le _, rfl, HS0.out, KU.out⟩
  case round =>
    obtain ⟨k, hk, rfl, hO, hK⟩ := hrel
    by_cases hlt : k < b.ens.length
    · obtain ⟨p, off, hp, hR⟩ := HM.out.ens.at hlt
      obtain ⟨a, cap, c0', c1', c2', h1, h2, hL⟩ := hR.at k hlt
      have c0 := (hK.rd.1 _ _ hR.1).trans c0'
      have c1 := (hK.rd.1 _ _ hR.1).trans c1'
      have c2 := (hK.rd.1 _ _ hR.1).trans c2'
      have plt := Nat.lt_of_lt_of_le hR.1 hK.le
      clear c0' c1' c2'
      have SN := Lib.hid (fun n => kinS_snoc (acs := b.acs) (k := n) (f := f) (t := t) hlt)
      have SBK := Lib.hid (fun n => SB.out n k)
      have OKX := EB.out k hlt
      obtain ⟨l12, LB⟩ := OKX.bd
      have LBH := Lib.hid LB
      have KX := Lib.hid (fun y hy => kiV_bd AC.out (OKX.2 y hy))
      have HQ := Lib.hid (show q = ⟨q.aa, q.ca, some ⟨p, off, none⟩, q.ce⟩ by cases q; simp at hp; simp [hp])
      clear hR LB OKX
      rw [hp] at *
      clear hp
      generalize b.ens[k] = x at *
      have kE := (Kept.refl wr).alloc (.cells #[.string x.key, .int .i64 x.day, .slice a x.lns.length cap] 31)
      have HL := Lib.hid hL
      have HX := Lib.hid (EBx.new wr x.key x.day (.slice a x.lns.length cap) 31)
      have HO1 := Lib.hid (hO.later kE)
      have HK1 := Lib.hid (hK.trans kE)
      obtain ⟨x0, x1, x2, x3⟩ := HX.out
      clear hL h1 h2 hO hK kE
      by_cases d1 : x.day < f
      · have SK := Lib.hid (show five (fun n => kinS b.acs n f t (b.ens.take (k + 1))) = five (fun n => kinS b.acs n f t (b.ens.take k)) from five_eq fun n => by rw [SN.out, if_neg (by unfold inD; simp; omega)]; omega)
        clear SN
        go_wp2
        go_roundw
        case rel => exact ⟨k + 1, by omega, by go_num, by rw [SK.out]; exact HO1.out, HK1.out⟩
        case measure => simp [intOf]; omega
      · by_cases d2 : t < x.day
        · have SK := Lib.hid (show five (fun n => kinS b.acs n f t (b.ens.take (k + 1))) = five (fun n => kinS b.acs n f t (b.ens.take k)) from five_eq fun n => by rw [SN.out, if_neg (by unfold inD; simp; omega)]; omega)
          clear SN
          go_wp2
          go_roundw
          case rel => exact ⟨k + 1, by omega, by go_num, by rw [SK.out]; exact HO1.out, HK1.out⟩
          case measure => simp [intOf]; omega
        · have SK := Lib.hid (show five (fun n => kinS b.acs n f t (b.ens.take (k + 1))) = five (fun n => kinS b.acs n f t (b.ens.take k) + kinL b.acs n x.lns) from five_eq fun n => by rw [SN.out, if_pos (inD_iff.2 ⟨by omega, by omega⟩)])
          have HO2 := Lib.hid (show Own _ ps (five fun n => kinS b.acs n f t (b.ens.take k) + kinL b.acs n (x.lns.take 0)) from (by
            have e : five (fun n => kinS b.acs n f t (b.ens.take k) + kinL b.acs n (x.lns.take 0)) = five (fun n => kinS b.acs n f t (b.ens.take k)) := five_eq fun n => by simp [kinL]
            rw [e]; exact HO1.out))
          clear SN HO1
          go_wp2
          clear x0 x1 x2 x3 c0 c1 c2 plt d1 d2
          generalize wr.heap.size = sz at *
          generalize wr.alloc (.cells #[.string x.key, .int .i64 x.day, .slice a x.lns.length cap] 31) = w6 at *
          go_loopw [34] (fun i wr2 => ∃ j : Nat, j ≤ x.lns.length ∧ i = .int .i64 j ∧ Own wr2 ps (five fun n => kinS b.acs n f t (b.ens.take k) + kinL b.acs n (x.lns.take j)) ∧ Kept W wr2) (fun i _ => x.lns.length - (intOf i).toNat)
          case atStart => exact ⟨0, Nat.zero_le _, rfl, HO2.out, HK1.out⟩
          case round =>
            obtain ⟨j, hj, rfl, hO, hK⟩ := hrel
            by_cases hlj : j < x.lns.length
            · obtain ⟨p2, off2, rfl, hR2⟩ := (HL.out.later hK).at hlj
              have c0 := hR2.c0 j hlj
              have c1 := hR2.c1 j hlj
              have plt := hR2.lt
              obtain ⟨y1, y2⟩ := LBH.out _ (List.getElem_mem hlj)
              obtain ⟨kk0, kk4⟩ := KX.out _ (List.getElem_mem hlj)
              have KB := Lib.hid (fun n => kinL_bd (acs := b.acs) (k := n) (l := x.lns.take j) fun y hy => LBH.out y (List.mem_of_mem_take hy))
              have KN := Lib.hid (fun (n : Nat) (hn : n < 5) e => kin_next (acs := b.acs) (g := fun n => kinS b.acs n f t (b.ens.take k)) (n := n) hlj hn e)
              clear hR2
              generalize x.lns[j] = y at *
              obtain ⟨n, hn⟩ : ∃ n : Nat, kiV b.acs y.1 = n := ⟨(kiV b.acs y.1).toNat, by omega⟩
              have hn5 : n < 5 := by omega
              have KV := Lib.hid (show kdV (b.acs.filter (isB y.1)) = n from hn)
              have NX := Lib.hid (KN.out n hn5 hn)
              obtain ⟨s1, s2⟩ := SBK.out n
              obtain ⟨z1, z2⟩ := KB.out n
              rw [List.length_take, Nat.min_eq_left hj] at z1 z2
              have kL := (Kept.refl wr).alloc (.cells #[.string y.1, .int .i64 y.2] 51)
              have hK3 := hK.trans kL
              have HK3 := Lib.hid hK3
              have HO3 := Lib.hid (hO.later kL)
              have HM3 := Lib.hid (HM.out.later hK3)
              obtain ⟨b0, b1, b2, b3⟩ := HB.out.later hK
              have lx : wr.heap.size < (wr.alloc (.cells #[.string y.1, .int .i64 y.2] 51)).heap.size := by simp
              have HLX := Lib.hid (PBx.new wr y 51)
              have KY := Lib.hid (kind_yes q.aa b.acs q.ca y.1 (wr.alloc (.cells #[.string y.1, .int .i64 y.2] 51)) HM3.out.acs HM3.out.sha HM3.out.an AC.out)
              rw [KV.out] at KY
              clear kk0 kk4 KB KN hn KV hO hK hK3 kL
              generalize kdE (b.acs.filter (isB y.1)) = ke at *
              go_wp2_with fail
              refine KY.out.mono ?_
              rintro e w7 ⟨rfl, hK4⟩
              have hO4 := HO3.out.later hK4
              have hX4 := HLX.out.later hK4
              have HK4 := Lib.hid (HK3.out.trans hK4)
              have hc := hO4.cell n (by rw [five_len]; omega)
              rw [five_at _ hn5] at hc
              have hf := hO4.free n (by rw [five_len]; omega)
              have pl := hO4.lt
              obtain ⟨l0, l1, l2⟩ := hX4
              have HO4 := Lib.hid hO4
              have i0 : (0 : Int) ≤ (n : Int) := by omega
              have i1 : (n : Int) < 5 := by omega
              have w1 : IntKind.i64.wrap (kinS b.acs n f t (b.ens.take k) + kinL b.acs n (x.lns.take j) + y.2) = kinS b.acs n f t (b.ens.take k) + kinL b.acs n (x.lns.take j) + y.2 := IntWalk.i64_in _ (by omega)
              clear hO4 hK4 c0 c1 plt lx b0 b1 b2 b3
              go_wp2_with fail
              go_still_tail 7, (by kernel_rfl)
              change wpList _ _ _ _ _ w7.drew
              have FO := Lib.hid (show Own (w7.setCell ⟨ps, n, none⟩ (.int .i64 (kinS b.acs n f t (b.ens.take k) + kinL b.acs n (x.lns.take j) + y.2))) ps (five fun m => kinS b.acs m f t (b.ens.take k) + kinL b.acs m (x.lns.take (j + 1))) from (by
                have h := HO4.out.set n (kinS b.acs n f t (b.ens.take k) + kinL b.acs n (x.lns.take j) + y.2) (by rw [five_len]; omega)
                have e := NX.out
                rw [e] at h
                exact h))
              have FK := Lib.hid (HK4.out.setAt (b := ps) (i := n) (by omega) (.int .i64 (kinS b.acs n f t (b.ens.take k) + kinL b.acs n (x.lns.take j) + y.2)))
              go_wp2
              go_roundw
              case rel => exact ⟨j + 1, by omega, by go_num, FO.out.drew, FK.out.drew⟩
              case measure => simp [intOf]; omega
            · obtain rfl : j = x.lns.length := by omega
              clear hlj
              rw [List.take_length] at hO
              go_wp2
              go_roundw
              case rel => exact ⟨k + 1, by omega, by go_num, by rw [SK.out]; exact hO, hK⟩
              case measure => simp [intOf]; omega
    · obtain rfl : k = b.ens.length := by omega
      clear hlt
      rw [List.take_length] at hO
      obtain ⟨s0, s1, s2, s3, s4⟩ := hO.c5
      obtain ⟨r0, r1, r2, r3, r4⟩ := (HR.out.later hK).c5
      obtain ⟨f0, f1, f2, f3, f4⟩ := (HR.out.later hK).f5
      have sl := hO.lt
      have rl := (HR.out.later hK).lt
      have FK := Lib.hid (((((HK.out.trans hK).setAt (b := w.heap.size + 1) (i := 0) (by omega) (.int .i64 (kinS b.acs 0 f t b.ens))).setAt (b := w.heap.size + 1) (i := 1) (by omega) (.int .i64 (kinS b.acs 1 f t b.ens))).setAt (b := w.heap.size + 1) (i := 2) (by omega) (.int .i64 (kinS b.acs 2 f t b.ens))).setAt (b := w.heap.size + 1) (i := 3) (by omega) (.int .i64 (kinS b.acs 3 f t b.ens)) |>.setAt (b := w.heap.size + 1) (i := 4) (by omega) (.int .i64 (kinS b.acs 4 f t b.ens)))
      clear hO hK
      go_wp2
      exact bodyPost_ret (v := .agg #[.int .i64 (kinS b.acs 0 f t b.ens), .int .i64 (kinS b.acs 1 f t b.ens), .int .i64 (kinS b.acs 2 f t b.ens), .int .i64 (kinS b.acs 3 f t b.ens), .int .i64 (kinS b.acs 4 f t b.ens)]) (by simp [results, Try.results62, go_sem, r0, r1, r2, r3, r4]) rfl ⟨rfl, FK.out⟩
end Go.Proofs.Ytjfflnkocajkeaa
