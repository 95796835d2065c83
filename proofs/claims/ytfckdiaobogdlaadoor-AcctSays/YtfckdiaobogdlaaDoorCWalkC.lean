/-
  What package acct's Kind returns; a row of texts that grows by append. No condition but those that each theorem names.
-/
import Derived.Test.YtfckdiaobogdlaaDoorCWalkB
import Derived.Test.YtfckdiaobogdlaaDoorAWalkC
namespace Go.Proofs.YtfckdiaobogdlaaDoor
open Go.RowKit Go.WideShapes
set_option linter.unusedVariables false

/-- The row of texts that grows. -/
structure TGr (B : Nat) (w : World) (v : Value) (l : List ByteArray) : Prop where
  own : w.ownsRow B 9 1 v l.length (tcs l)
theorem TGr.nil (B : Nat) (w : World) : TGr B w (.slice none 0 0) [] := ⟨World.ownsRow_nil _ _ _ _⟩
theorem TGr.later {B : Nat} {w w' : World} {v : Value} {l : List ByteArray} (a : TGr B w v l) (k : Kept w w') : TGr B w' v l := by
  refine ⟨a.own.1, ?_⟩
  rcases a.own.2 with h | ⟨b, cap, cur, rfl, hb, hh, hr⟩
  · exact .inl h
  · exact .inr ⟨b, cap, cur, rfl, hb, (k.block b (Array.getElem?_eq_some_iff.1 hh).1).trans hh, hr⟩
theorem TGr.below {A w w' : World} {B : Nat} {v : Value} {l : List ByteArray} (a : TGr B w v l) (hB : A.heap.size ≤ B) (k : Kept A w) (hg : w.grownBy w' v.ownBlock) : Kept A w' :=
  Below.grown k hg k.size (fun j e => by have := a.own.lt j e; omega)
theorem TGr.form {B : Nat} {w : World} {v : Value} {l : List ByteArray} (h : TGr B w v l) : ∃ a c, v = .slice a l.length c ∧ l.length ≤ c ∧ c ≤ maxLen := by
  rcases h.own.2 with ⟨e, h0⟩ | ⟨q, c, _, e, _, _, h1, h2, _⟩
  · exact ⟨none, 0, by rw [e, h0], by omega, by decide⟩
  · exact ⟨_, c, e, h1, h2⟩
theorem TGr.arg {B c : Nat} {w : World} {a : Option Addr} {l : List ByteArray} (h : TGr B w (.slice a l.length c) l) : TArg w a l := by
  rcases h.own.2 with ⟨e, h0⟩ | ⟨q, c', cur, e, hb, hh, _⟩
  · exact .inl (List.eq_nil_of_length_eq_zero h0)
  · obtain ⟨rfl, _⟩ : a = some ⟨q, 0, none⟩ ∧ c = c' := by simpa using e
    have own := h.own
    refine .inr ⟨q, 0, rfl, (Array.getElem?_eq_some_iff.1 hh).1, fun j hj => ?_⟩
    rw [Nat.zero_add, own.cellAt j (by omega)]
    simp [tcs, hj]
theorem run_append_tx (w : World) {B hb : Nat} {v : Value} {l : List ByteArray} {x : ByteArray} (ty : TypeId) (a : TGr B w v l) (c0 : w.cell? ⟨hb, 0, none⟩ = some (.string x)) (hn : l.length + 1 ≤ 1000000) (hB : B ≤ w.heap.size) :
    ∃ v' w', (Builtin.append_ #[26, 26] ty #[v, .slice (some ⟨hb, 0, none⟩) 1 1]).run Tryd.prog w = .ok v' w' ∧ TGr B w' v' (l ++ [x]) ∧ w.grownBy w' v.ownBlock := by
  obtain ⟨i0, hi, hz0, hz1, hz2⟩ := info_parts infoStr
  have h63 : l.length + 1 ≤ maxLen := by unfold maxLen; omega
  have hnews : ∀ (j : Nat) (u : Value), [Value.string x][j]? = some u → w.cell? ((⟨hb, 0, none⟩ : Addr).add j) = some u := by
    intro j u hj
    match j, hj with
    | 0, hj => simp at hj; subst hj; simpa [Addr.add] using c0
  have h1 : ∀ u ∈ [Value.string x], u.oneCell' = true := by intro u hu; simp at hu; subst hu; rfl
  obtain ⟨v', w', hr, h2, h3, h4⟩ := run_append_own (P := Tryd.prog) w B 26 ty 9 i0 _ 1 16 Tryd.underlying26 hi hz0 hz1 hz2 rfl (by decide) v l.length _ a.own ⟨hb, 0, none⟩ 1 1 [.string x] rfl hnews h1 h63 (by omega) hB
  refine ⟨v', w', hr, ⟨?_⟩, h3⟩
  rw [List.length_append, List.length_singleton, show tcs (l ++ [x]) = tcs l ++ [.string x] by simp [tcs]]
  exact h2
/-- One text appended. -/
theorem app_tx {w : World} {ops : Array Oper} {rest : List Oper} {o : Oper} {a : Act} {Q : Exit → Act → World → Prop} (hgd : o.guard = none) (s x : Operand)
    (ho : o.op = .call { callee := .builtin .append, args := #[s, x], argTypes := #[26, 26] }) {B hb : Nat} {v : Value} {l : List ByteArray} {z : ByteArray}
    (hs : a.eval s = v) (hx : a.eval x = .slice (some ⟨hb, 0, none⟩) 1 1) (ha : TGr B w v l) (c0 : w.cell? ⟨hb, 0, none⟩ = some (.string z)) (hn : l.length + 1 ≤ 1000000) (hB : B ≤ w.heap.size)
    (h : ∀ v' w', TGr B w' v' (l ++ [z]) → w.grownBy w' v.ownBlock → wpList Tryd.prog ops Q rest (a.put o.dst v') w') : wpList Tryd.prog ops Q (o :: rest) a w := by
  refine wpList_plain hgd fun _ hK => ?_
  obtain ⟨v', w', hr, h2, h3⟩ := run_append_tx w o.type ha c0 hn hB
  unfold Oper.wp execOp
  simp only [ho, resolve, invoke, builtin, Sem.run_bind, Sem.run_pure, Result.andThen_ok, List.map_toArray, List.map_cons, List.map_nil, hs, hx, hr]
  exact hK _ _ (h v' w' h2 h3)

/-- The accounts with a code. -/
def isB (c : ByteArray) (x : Pr) : Bool := x.1.toList == c.toList
set_option maxHeartbeats 1000000 in
theorem kclo_any (bx : Nat) (c : ByteArray) (x : Pr) (w : World) (hB : SBx w bx c) :
    Calls Tryd.prog 20 #[.agg #[.string x.1, .int .i64 x.2], .pointer (some ⟨bx, 0, none⟩)] w fun e w' => e = .returned (.bool (isB c x)) ∧ Kept w w' := by
  have hK := (Kept.refl w).alloc (.cells #[.string x.1, .int .i64 x.2] 32)
  obtain ⟨b0, b1⟩ := hB.later hK
  obtain ⟨b2, _⟩ := hB
  go_enter Tryd.func20, Tryd.ntmps20
  go_wp2
  go_ret
  exact ⟨rfl, hK⟩
/-- P30: the kind, or the error. -/
def kdV (m : List Pr) : Int := match m with | [] => 0 | x :: _ => x.2
def kdE (m : List Pr) : Int := match m with | [] => 4 | _ :: _ => 0
set_option maxHeartbeats 1000000 in
theorem kind_yes (a : Option Addr) (l : List Pr) (cap : Nat) (c : ByteArray) (w : World) (hA : PArg w a l) (hs : Shortish l) (hn : l.length ≤ maxLen) (ok : acE l = 0) :
    Calls Tryd.prog 5 #[.slice a l.length cap, .string c] w fun e w' => e = .returned (.tuple #[.int .i64 (kdV (l.filter (isB c))), .int .i64 (kdE (l.filter (isB c)))]) ∧ Kept w w' := by
  have l24 := acE_24 ok
  have k0 := (Kept.refl w).alloc (.cells #[.string c] 9)
  have HF := Lib.hid (find_yesKind a l cap w.heap.size (isB c) (w.alloc (.cells #[.string c] 9)) (hA.later k0) hs hn ok (fun w1 x k hx => kclo_any _ c x w1 ((SBx.new w c 9).later k)))
  have hlen : (l.filter (isB c)).length ≤ 24 := by
    have := List.length_filter_le (isB c) l
    omega
  clear hA hs hn ok
  generalize l.filter (isB c) = m at *
  cases m with
  | nil =>
    go_enter Tryd.func5, Tryd.ntmps5
    go_wp2_with fail
    refine (HF.out).mono ?_
    rintro e w1 ⟨ad, cp, rfl, hG, hK⟩
    rw [List.length_nil]
    go_wp2
    go_ret2
    exact ⟨rfl, k0.trans hK⟩
  | cons x r =>
    go_enter Tryd.func5, Tryd.ntmps5
    go_wp2_with fail
    refine (HF.out).mono ?_
    rintro e w1 ⟨ad, cp, rfl, hG, hK⟩
    obtain ⟨p, off, rfl, hR⟩ := hG.arg.at (j := 0) (by simp)
    have c1 := hR.c1 0 (by simp)
    have plt := hR.lt
    simp only [Nat.zero_mul, Nat.add_zero, List.getElem_cons_zero] at c1
    have h1 : 1 ≤ (x :: r).length := by simp
    have HV := Lib.hid (show kdV (x :: r) = x.2 ∧ kdE (x :: r) = 0 from ⟨rfl, rfl⟩)
    generalize hn : (x :: r).length = n at *
    clear hn hG hR
    have n0 : ((n : Int) == 0) = false := by rw [beq_eq_false_iff_ne]; omega
    have n1 : (0 : Int) < (n : Int) := by omega
    have n2 : 0 < n := by omega
    go_wp2
    go_ret2
    exact ⟨by rw [HV.out.1, HV.out.2]; rfl, k0.trans hK⟩
set_option maxHeartbeats 1000000 in
theorem kind_no (a : Option Addr) (l : List Pr) (cap : Nat) (c : ByteArray) (w : World) (hA : PArg w a l) (hs : Shortish l) (hn : l.length ≤ maxLen) (ok : acE l ≠ 0) :
    Calls Tryd.prog 5 #[.slice a l.length cap, .string c] w fun e w' => e = .returned (.tuple #[.int .i64 0, .int .i64 (acE l)]) ∧ Kept w w' := by
  have k0 := (Kept.refl w).alloc (.cells #[.string c] 9)
  have HF := Lib.hid (find_noKind a l cap w.heap.size (w.alloc (.cells #[.string c] 9)) (hA.later k0) hs hn ok)
  have O2 : (acE l != 0) = true := by simpa using ok
  clear hA hs hn ok
  generalize acE l = er at *
  go_enter Tryd.func5, Tryd.ntmps5
  go_wp2_with fail
  refine (HF.out).mono ?_
  rintro e w1 ⟨rfl, hK⟩
  go_wp2
  go_ret2
  exact ⟨rfl, k0.trans hK⟩
/-- The kind that the reference finds last. -/
def lastK : List Pr → Int
  | [] => -1
  | [x] => x.2
  | _ :: y :: r => lastK (y :: r)
theorem lastK_snoc : ∀ (m : List Pr) (x : Pr), lastK (m ++ [x]) = x.2
  | [], x => rfl
  | [y], x => rfl
  | y :: z :: r, x => by
    have := lastK_snoc (z :: r) x
    simpa [lastK] using this
theorem isB_iff {c : ByteArray} {x : Pr} : isB c x = true ↔ x.1 = c := by
  unfold isB
  constructor
  · intro h; exact ba_ext (beq_iff_eq.1 h)
  · rintro rfl; simp
theorem one_kind {c : ByteArray} {l : List Pr} (ok : acE l = 0) : (l.filter (isB c) = [] ∧ lastK (l.filter (isB c)) = -1) ∨ ∃ x, l.filter (isB c) = [x] ∧ lastK (l.filter (isB c)) = x.2 ∧ 0 ≤ x.2 := by
  obtain ⟨i, a⟩ := acE_inc ok
  have hI := i.filter (P := isB c)
  have hM : ∀ y ∈ l.filter (isB c), y.1 = c ∧ 0 ≤ y.2 := by
    intro y hy
    obtain ⟨h1, h2⟩ := List.mem_filter.1 hy
    exact ⟨isB_iff.1 h2, (a y h1).2.1⟩
  match hm : l.filter (isB c) with
  | [] => exact .inl ⟨rfl, rfl⟩
  | [x] => exact .inr ⟨x, rfl, rfl, (hM x (by rw [hm]; simp)).2⟩
  | x :: y :: r =>
    rw [hm] at hI hM
    have h1 := hI.1 y.1 (by simp)
    rw [(hM x (by simp)).1, (hM y (by simp)).1] at h1
    unfold ltB at h1
    rw [bl_irrefl] at h1; cases h1
end Go.Proofs.YtfckdiaobogdlaaDoor
