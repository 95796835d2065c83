import Derived.Test.YtbaahnafmfjpaaaGreatDoorHWalkD
import Derived.Test.YtbaahnafmfjpaaaGreatDoorHWalkE
import Derived.Deep.AppendLies
import Derived.Test.YtbaahnafmfjpaaaGreatDoorYWalkH
import Derived.Test.YtbaahnafmfjpaaaGreatDoorYTab
/-
  The reference's Get. No condition but those that each theorem names.
-/
namespace Go.Proofs.YtbaahnafmfjpaaaGreatDoor
open Go.RowKit
set_option linter.unusedVariables false

/-- An entry of the book, or none. -/
def RgEt (w : World) (x : Et) (e : Ending) (w' : World) : Prop := ∃ a c, e = .returned (.tuple #[enV x.key x.day a x.lns.length c, .bool true]) ∧ PArg w' a x.lns ∧ x.lns.length ≤ c ∧ c ≤ maxLen ∧ Kept w w'
def RgNo (w : World) (e : Ending) (w' : World) : Prop := e = .returned (.tuple #[enV ⟨#[]⟩ 0 none 0 0, .bool false]) ∧ Kept w w'
set_option maxRecDepth 100000 in
set_option maxHeartbeats 4000000 in
theorem rget_any (q : BkA) (b : Bk) (k : ByteArray) (w : World) (hM : BkM w q b) :
    Calls Tryz.prog 23 #[bkV q b, .string k] w (fun e w' => (∃ h : kyI k b.ens < b.ens.length, RgEt w b.ens[kyI k b.ens] e w') ∨ (¬ kyI k b.ens < b.ens.length ∧ RgNo w e w')) := by
  have hB := (BBx.new w q b).later ((Kept.refl (w.alloc (bkO q b))).alloc noEn)
  have hR := WBx.new (w.alloc (bkO q b)) ⟨#[]⟩ 0 (.slice none 0 0) 38 (w.heap.size + 1) (by simp)
  have hK2 := ((Kept.refl w).alloc (bkO q b)).alloc noEn
  have hem : b.ens.length ≤ 9223372036854775807 := by have := hM.en; unfold maxLen at this; omega
  obtain ⟨I, hI⟩ : ∃ I, kyI k b.ens = I := ⟨_, rfl⟩
  have IL : I ≤ b.ens.length := by rw [← hI]; exact List.findIdx_le_length
  have LO := Lib.hid (fun j (hj : j < I) (hl : j < b.ens.length) => show ((b.ens[j]).key.toList == k.toList) = false from by
    have := List.not_of_lt_findIdx (p := fun e : Et => e.key.toList == k.toList) (xs := b.ens) (i := j) (by show j < kyI k b.ens; omega)
    simpa using this)
  have AT := Lib.hid (fun (hl : I < b.ens.length) => show ((b.ens[I]).key.toList == k.toList) = true from by
    have := kyI_at (k := k) (l := b.ens) (by omega)
    subst hI
    rw [this]; simp)
  rw [show (fun e w' => (∃ h : kyI k b.ens < b.ens.length, RgEt w b.ens[kyI k b.ens] e w') ∨ (¬ kyI k b.ens < b.ens.length ∧ RgNo w e w')) = (fun e w' => (∃ h : I < b.ens.length, RgEt w b.ens[I] e w') ∨ (¬ I < b.ens.length ∧ RgNo w e w')) by subst hI; rfl]
  generalize hW : (w.alloc (bkO q b)).alloc noEn = W at hB hR hK2
  have HW := Lib.hid hW
  have HB := Lib.hid hB
  have HR := Lib.hid hR
  have HK := Lib.hid hK2
  have HM := Lib.hid hM
  clear hM hW hI hR hK2
  obtain ⟨b0, b1, b2, b3⟩ := hB
  go_enter Tryz.func23, Tryz.ntmps23
  go_wp2_with fail
  rw [HW.out]
  go_wp2
  clear b0 b1 b2 b3
  go_loopw [11] (fun s wr => ∃ j : Nat, j ≤ I ∧ s = .int .i64 j ∧ Kept W wr) (fun s _ => (b.ens.length - intOf s).toNat)
  case atStart => exact ⟨0, Nat.zero_le _, rfl, Kept.refl _⟩
  case round =>
    obtain ⟨j, hj, rfl, hK⟩ := hrel
    by_cases hlt : j < b.ens.length
    · obtain ⟨p, off, hp, hR⟩ := HM.out.ens.at hlt
      obtain ⟨a, cap, c0', c1', c2', h1, h2, hL⟩ := hR.at j hlt
      have hKw := HK.out.trans hK
      have c0 := (hKw.rd.1 _ _ hR.1).trans c0'
      have c1 := (hKw.rd.1 _ _ hR.1).trans c1'
      have c2 := (hKw.rd.1 _ _ hR.1).trans c2'
      have plt := Nat.lt_of_lt_of_le hR.1 hKw.le
      have EJ := Lib.hid (LO.out j)
      have kE := (Kept.refl wr).alloc (.cells #[.string (b.ens[j]).key, .int .i64 (b.ens[j]).day, .slice a (b.ens[j]).lns.length cap] 38)
      have HL := Lib.hid hL
      clear c0' c1' c2' hR hL
      by_cases e : j = I
      · subst e
        have kq := AT.out hlt
        have KE := Lib.hid hKw
        have hR5 := HR.out.later hK
        have HIF := Lib.hid (show ∃ x, x = b.ens[j] from ⟨_, rfl⟩)
        have rl : w.heap.size + 1 < wr.heap.size := (HR.out.later hK).box.lt
        obtain ⟨⟨r0, r1, r2, r3⟩, f0, f1, f2⟩ := id hR5
        obtain ⟨x, hx⟩ : ∃ x, x = b.ens[j] := ⟨_, rfl⟩
        have HX := Lib.hid hx
        rw [← hx] at c0 c1 c2 kq HL
        rw [hp] at *
        have FK := Lib.hid ((KE.out.set3 (p := w.heap.size + 1) (by omega) (.string x.key) (.int .i64 x.day) (.slice a x.lns.length cap)).alloc (.cells #[.string x.key, .int .i64 x.day, .slice a x.lns.length cap] 38))
        have s0 : w.heap.size + 1 < ((((wr.setCell ⟨w.heap.size + 1, 0, none⟩ (.string x.key)).setCell ⟨w.heap.size + 1, 1, none⟩ (.int .i64 x.day)).setCell ⟨w.heap.size + 1, 2, none⟩ (.slice a x.lns.length cap))).heap.size := by simp; omega
        have z0 : ((((wr.setCell ⟨w.heap.size + 1, 0, none⟩ (.string x.key)).setCell ⟨w.heap.size + 1, 1, none⟩ (.int .i64 x.day)).setCell ⟨w.heap.size + 1, 2, none⟩ (.slice a x.lns.length cap)).alloc (.cells #[.string x.key, .int .i64 x.day, .slice a x.lns.length cap] 38)).cell? ⟨w.heap.size + 1, 0, none⟩ = some (.string x.key) := ((Kept.refl _).alloc _).rd.1 _ _ s0 |>.trans (by go_simp)
        have z1 : ((((wr.setCell ⟨w.heap.size + 1, 0, none⟩ (.string x.key)).setCell ⟨w.heap.size + 1, 1, none⟩ (.int .i64 x.day)).setCell ⟨w.heap.size + 1, 2, none⟩ (.slice a x.lns.length cap)).alloc (.cells #[.string x.key, .int .i64 x.day, .slice a x.lns.length cap] 38)).cell? ⟨w.heap.size + 1, 1, none⟩ = some (.int .i64 x.day) := ((Kept.refl _).alloc _).rd.1 _ _ s0 |>.trans (by go_simp)
        have z2 : ((((wr.setCell ⟨w.heap.size + 1, 0, none⟩ (.string x.key)).setCell ⟨w.heap.size + 1, 1, none⟩ (.int .i64 x.day)).setCell ⟨w.heap.size + 1, 2, none⟩ (.slice a x.lns.length cap)).alloc (.cells #[.string x.key, .int .i64 x.day, .slice a x.lns.length cap] 38)).cell? ⟨w.heap.size + 1, 2, none⟩ = some (.slice a x.lns.length cap) := ((Kept.refl _).alloc _).rd.1 _ _ s0 |>.trans (by go_simp)
        have Z0 := Lib.hid z0
        have Z1 := Lib.hid z1
        have Z2 := Lib.hid z2
        clear hp hx hK hKw kE hR5 LO AT EJ HIF z0 z1 z2 s0
        have H1 := Lib.hid h1
        have H2 := Lib.hid h2
        clear h1 h2
        go_wp2
        exact bodyPost_ret (v := .tuple #[enV x.key x.day a x.lns.length cap, .bool true]) (by simp [results, Tryz.results23, go_sem, Z0.out, Z1.out, Z2.out]) rfl (Or.inl ⟨hlt, a, cap, by rw [← HX.out], by rw [← HX.out]; exact HL.out.later FK.out, H1.out, H2.out, FK.out⟩)
      · have kq := EJ.out (by omega) hlt
        generalize b.ens[j] = x at *
        rw [hp] at *
        have KE := Lib.hid (hK.trans kE)
        clear hp hKw kE LO AT EJ h1 h2 hK
        go_wp2
        go_roundw
        case rel => exact ⟨j + 1, by omega, by go_num, KE.out⟩
        case measure => simp [intOf]; omega
    · have hR5 := HR.out.later hK
      obtain ⟨⟨r0, r1, r2, r3⟩, f0, f1, f2⟩ := id hR5
      have FK := Lib.hid ((HK.out.trans hK).set3 (p := w.heap.size + 1) (by omega) (.string ⟨#[]⟩) (.int .i64 0) (.slice none 0 0))
      have NI := Lib.hid (show ¬ I < b.ens.length by omega)
      clear LO AT hK hR5
      go_wp2
      exact bodyPost_ret (v := .tuple #[enV ⟨#[]⟩ 0 none 0 0, .bool false]) (by simp [results, Tryz.results23, go_sem, r1, r2, r3]) rfl (.inr ⟨NI.out, rfl, FK.out⟩)
end Go.Proofs.YtbaahnafmfjpaaaGreatDoor

/-
  Rows of entries that grow by append, and slices.Clone of one. No condition but those that each theorem names.
-/
namespace Go.Proofs.YtbaahnafmfjpaaaGreatDoor
open Go.RowKit Go.WideShapes
set_option linter.unusedVariables false

/-- The row of entries that grows; the lines lie as they lay at W. -/
def EGr (W : World) (B : Nat) (w : World) (v : Value) (l : List Et) : Prop := ∃ cs, Enc W l cs ∧ w.ownsRow B 38 3 v l.length cs
theorem EGr.nil (W : World) (B : Nat) (w : World) : EGr W B w (.slice none 0 0) [] := ⟨[], rfl, World.ownsRow_nil _ _ _ _⟩
theorem EGr.later {W : World} {B : Nat} {w w' : World} {v : Value} {l : List Et} (a : EGr W B w v l) (k : Kept w w') : EGr W B w' v l := by
  obtain ⟨cs, e, a⟩ := a
  refine ⟨cs, e, a.1, ?_⟩
  rcases a.2 with h | ⟨b, cap, cur, rfl, hb, hh, hr⟩
  · exact .inl h
  · exact .inr ⟨b, cap, cur, rfl, hb, (k.block b (Array.getElem?_eq_some_iff.1 hh).1).trans hh, hr⟩
theorem EGr.lt {W : World} {B : Nat} {w : World} {v : Value} {l : List Et} (a : EGr W B w v l) : ∀ j, v.ownBlock = some j → B ≤ j ∧ j < w.heap.size := by
  obtain ⟨cs, e, a⟩ := a
  intro j hj
  refine ⟨?_, (a.lt j hj).2⟩
  rcases a.2 with ⟨rfl, _⟩ | ⟨b, cap, cur, rfl, hb, _⟩
  · cases hj
  · simp [Value.ownBlock] at hj; omega
theorem EGr.form {W : World} {B : Nat} {w : World} {v : Value} {l : List Et} (h : EGr W B w v l) : ∃ a c, v = .slice a l.length c ∧ l.length ≤ c ∧ c ≤ maxLen := by
  obtain ⟨cs, _, h⟩ := h
  rcases h.2 with ⟨e, h0⟩ | ⟨q, c, _, e, _, _, h1, h2, _⟩
  · exact ⟨none, 0, by rw [e, h0], by omega, by decide⟩
  · exact ⟨_, c, e, h1, h2⟩
theorem EGr.arg {W : World} {B c : Nat} {w : World} {a : Option Addr} {l : List Et} (h : EGr W B w (.slice a l.length c) l) (k : Kept W w) : EArg w a l := by
  obtain ⟨cs, e, h⟩ := h
  have own := h
  rcases h.2 with ⟨e1, h0⟩ | ⟨q, c', cur, e1, hb, hh, _⟩
  · exact .inl (List.eq_nil_of_length_eq_zero h0)
  · obtain ⟨rfl, _⟩ : a = some ⟨q, 0, none⟩ ∧ c = c' := by simpa using e1
    refine .inr ⟨q, 0, rfl, (Array.getElem?_eq_some_iff.1 hh).1, cs, e.later k, fun j v hj => ?_⟩
    rw [Nat.zero_add, own.cellAt j (by have := (List.getElem?_eq_some_iff.1 hj).1; rw [e.len] at this; exact this)]
    exact hj
theorem infoEn : (Tryz.prog.info? 38).map (fun i => (i.zero, i.size, i.bytes)) = some (some (.agg #[.string ⟨#[]⟩, .int .i64 0, .slice none 0 0]), 3, 48) := by kernel_rfl
theorem run_append_en (w : World) {W : World} {B hb : Nat} {v va : Value} {l : List Et} {x : Et} (ty : TypeId) (a : EGr W B w v l) (hL : LnA W va x.lns) (c0 : w.cell? ⟨hb, 0, none⟩ = some (.string x.key)) (c1 : w.cell? ⟨hb, 1, none⟩ = some (.int .i64 x.day)) (c2 : w.cell? ⟨hb, 2, none⟩ = some va) (hn : l.length + 1 ≤ 1000000) (hB : B ≤ w.heap.size) :
    ∃ v' w', (Builtin.append_ #[23, 23] ty #[v, .slice (some ⟨hb, 0, none⟩) 1 1]).run Tryz.prog w = .ok v' w' ∧ EGr W B w' v' (l ++ [x]) ∧ w.grownBy w' v.ownBlock := by
  obtain ⟨cs, e, own⟩ := a
  obtain ⟨i0, hi, hz0, hz1, hz2⟩ := info_parts infoEn
  have h63 : l.length + 1 ≤ maxLen := by unfold maxLen; omega
  have hnews : ∀ (j : Nat) (u : Value), ([.string x.key, .int .i64 x.day, va] : List Value)[j]? = some u → w.cell? ((⟨hb, 0, none⟩ : Addr).add j) = some u := by
    intro j u hj
    match j, hj with
    | 0, hj => simp at hj; subst hj; simpa [Addr.add] using c0
    | 1, hj => simp at hj; subst hj; simpa [Addr.add] using c1
    | 2, hj => simp at hj; subst hj; simpa [Addr.add] using c2
    | k + 3, hj => simp at hj
  obtain ⟨v', w', hr, h2, h3, h4⟩ := run_append_own (P := Tryz.prog) w B 23 ty 38 i0 _ 3 48 Tryz.underlying23 hi hz0 hz1 hz2 rfl (by decide) v l.length _ own ⟨hb, 0, none⟩ 1 1 [.string x.key, .int .i64 x.day, va] rfl hnews (Enc.one hL).cell1 h63 (by omega) hB
  refine ⟨v', w', hr, ⟨_, e.append (Enc.one hL), ?_⟩, h3⟩
  rw [List.length_append, List.length_singleton]
  exact h2
/-- One entry appended. -/
theorem app_en {w : World} {ops : Array Oper} {rest : List Oper} {o : Oper} {a : Act} {Q : Exit → Act → World → Prop} (hgd : o.guard = none) (s x : Operand)
    (ho : o.op = .call { callee := .builtin .append, args := #[s, x], argTypes := #[23, 23] }) {W : World} {B hb : Nat} {v va : Value} {l : List Et} {z : Et}
    (hs : a.eval s = v) (hx : a.eval x = .slice (some ⟨hb, 0, none⟩) 1 1) (ha : EGr W B w v l) (hL : LnA W va z.lns) (c0 : w.cell? ⟨hb, 0, none⟩ = some (.string z.key)) (c1 : w.cell? ⟨hb, 1, none⟩ = some (.int .i64 z.day)) (c2 : w.cell? ⟨hb, 2, none⟩ = some va) (hn : l.length + 1 ≤ 1000000) (hB : B ≤ w.heap.size)
    (h : ∀ v' w', EGr W B w' v' (l ++ [z]) → w.grownBy w' v.ownBlock → wpList Tryz.prog ops Q rest (a.put o.dst v') w') : wpList Tryz.prog ops Q (o :: rest) a w := by
  refine wpList_plain hgd fun _ hK => ?_
  obtain ⟨v', w', hr, h2, h3⟩ := run_append_en w o.type ha hL c0 c1 c2 hn hB
  unfold Oper.wp execOp
  simp only [ho, resolve, invoke, builtin, Sem.run_bind, Sem.run_pure, Result.andThen_ok, List.map_toArray, List.map_cons, List.map_nil, hs, hx, hr]
  exact hK _ _ (h v' w' h2 h3)
/-- A row of entries appended. -/
theorem run_append_ens (w : World) {W : World} {B p off c : Nat} {v : Value} {l m : List Et} {cs : List Value} (ty : TypeId) (a : EGr W B w v l) (e : Enc W m cs) (hR : ∀ j u, cs[j]? = some u → w.cell? ⟨p, off + j, none⟩ = some u) (hn : l.length + m.length ≤ 1000000) (hB : B ≤ w.heap.size) :
    ∃ v' w', (Builtin.append_ #[23, 23] ty #[v, .slice (some ⟨p, off, none⟩) m.length c]).run Tryz.prog w = .ok v' w' ∧ EGr W B w' v' (l ++ m) ∧ w.grownBy w' v.ownBlock := by
  obtain ⟨cs0, e0, own⟩ := a
  obtain ⟨i0, hi, hz0, hz1, hz2⟩ := info_parts infoEn
  have h63 : l.length + m.length ≤ maxLen := by unfold maxLen; omega
  have hnews : ∀ (j : Nat) (u : Value), cs[j]? = some u → w.cell? ((⟨p, off, none⟩ : Addr).add j) = some u := fun j u hj => by
    have := hR j u hj
    rw [add_plain]; exact this
  obtain ⟨v', w', hr, h2, h3, h4⟩ := run_append_own (P := Tryz.prog) w B 23 ty 38 i0 _ 3 48 Tryz.underlying23 hi hz0 hz1 hz2 rfl (by decide) v l.length _ own ⟨p, off, none⟩ m.length c cs e.len hnews e.cell1 h63 (by omega) hB
  refine ⟨v', w', hr, ⟨_, e0.append e, ?_⟩, h3⟩
  rw [List.length_append]
  exact h2
theorem app_ens {w : World} {ops : Array Oper} {rest : List Oper} {o : Oper} {a : Act} {Q : Exit → Act → World → Prop} (hgd : o.guard = none) (s x : Operand)
    (ho : o.op = .call { callee := .builtin .append, args := #[s, x], argTypes := #[23, 23] }) {W : World} {B p off c : Nat} {v : Value} {l m : List Et} {cs : List Value}
    (hs : a.eval s = v) (hx : a.eval x = .slice (some ⟨p, off, none⟩) m.length c) (ha : EGr W B w v l) (e : Enc W m cs) (hR : ∀ j u, cs[j]? = some u → w.cell? ⟨p, off + j, none⟩ = some u) (hn : l.length + m.length ≤ 1000000) (hB : B ≤ w.heap.size)
    (h : ∀ v' w', EGr W B w' v' (l ++ m) → w.grownBy w' v.ownBlock → wpList Tryz.prog ops Q rest (a.put o.dst v') w') : wpList Tryz.prog ops Q (o :: rest) a w := by
  refine wpList_plain hgd fun _ hK => ?_
  obtain ⟨v', w', hr, h2, h3⟩ := run_append_ens (c := c) w o.type ha e hR hn hB
  unfold Oper.wp execOp
  simp only [ho, resolve, invoke, builtin, Sem.run_bind, Sem.run_pure, Result.andThen_ok, List.map_toArray, List.map_cons, List.map_nil, hs, hx, hr]
  exact hK _ _ (h v' w' h2 h3)
theorem EGr.empty (w : World) : EGr w w.heap.size (w.alloc (.cells #[] 38)) (.slice (some ⟨w.heap.size, 0, none⟩) 0 0) [] :=
  ⟨[], rfl, by have := World.ownsRow_lit (base := w.heap.size) (e := 38) (size := 3) w #[] 0 (Nat.le_refl _) (by decide) rfl
               simpa using this⟩
set_option maxHeartbeats 1000000 in
theorem eclone_row (p off cap : Nat) (l : List Et) (w : World) (hn : l.length ≤ 1000) (hR : ERow w p off l) :
    Calls Tryz.prog 47 #[.slice (some ⟨p, off, none⟩) l.length cap] w fun e w' => ∃ v, e = .returned v ∧ EGr w w.heap.size w' v l ∧ Kept w w' := by
  have ne : ∀ w : World, (binOp .eql 23 (.slice (some ⟨p, off, none⟩) l.length cap) (.slice none 0 0)).run Tryz.prog w = .ok (.bool false) w := fun w => by
    rw [Lib.run_eql_slice_nil w 23 38 _ l.length cap 0 0 Tryz.underlying23]; rfl
  have hE := EGr.empty w
  have hK := (Kept.refl w).alloc (.cells #[] 38)
  obtain ⟨plt, cs, e, hc⟩ := hR
  have hc2 : ∀ j u, cs[j]? = some u → (w.alloc (.cells #[] 38)).cell? ⟨p, off + j, none⟩ = some u := fun j u hj => (hK.rd.1 _ _ plt).trans (hc j u hj)
  clear hc
  go_enter Tryz.func47, Tryz.ntmps47
  go_wp2_with (at_builtin; refine app_ens rfl _ _ rfl (B := w.heap.size) rfl rfl hE e hc2 (by simp; omega) (by have := hK.size; omega) ?_)
  intro v' w1 hG hgrow
  have hK1 : Kept w w1 := Below.grown hK hgrow hK.size (fun j ej => by have := (hE.lt j ej).1; omega)
  go_wp2
  go_ret
  exact ⟨v', rfl, by simpa using hG, hK1⟩
set_option maxHeartbeats 1000000 in
theorem eclone_nil (w : World) :
    Calls Tryz.prog 47 #[.slice none 0 0] w fun e w' => ∃ v, e = .returned v ∧ EGr w w.heap.size w' v [] ∧ Kept w w' := by
  have ne : ∀ w : World, (binOp .eql 23 (.slice none 0 0) (.slice none 0 0)).run Tryz.prog w = .ok (.bool true) w := fun w => by
    rw [Lib.run_eql_slice_nil w 23 38 _ 0 0 0 0 Tryz.underlying23]; rfl
  go_enter Tryz.func47, Tryz.ntmps47
  go_wp2
  go_ret
  exact ⟨_, rfl, EGr.nil _ _ _, Kept.refl _⟩
end Go.Proofs.YtbaahnafmfjpaaaGreatDoor

/-
  A row of entries with one more behind it, by ranks: what the sort takes, and what it leaves. No condition but those that each theorem names.
-/
namespace Go.Proofs.YtbaahnafmfjpaaaGreatDoor
open Go.RowKit
set_option linter.unusedVariables false

/-- The place at which the entry of a rank lies. -/
def invR (n p r : Nat) : Nat := if r = p then n - 1 else if r < p then r else r - 1
theorem inv_last {n p j : Nat} (hp : p < n) (hj : j < n) : invR n p (lastD n p j) = j := by
  rw [lastD_at]; unfold invR
  by_cases h : j + 1 = n
  · rw [if_pos h, if_pos rfl]; omega
  · rw [if_neg h]
    by_cases g : j < p
    · rw [if_pos g, if_neg (by omega), if_pos g]
    · rw [if_neg g, if_neg (by omega), if_neg (by omega)]; omega
theorem last_lt {n p j : Nat} (hp : p < n) (hj : j < n) : lastD n p j < n := by
  rw [lastD_at]
  split
  · exact hp
  · split <;> omega
theorem inv_lt {n p r : Nat} (hp : p < n) (hr : r < n) : invR n p r < n := by
  unfold invR
  split
  · omega
  · split <;> omega
theorem ins_get (x : Et) (l : List Et) (r : Nat) (hr : r < l.length + 1) : (insE x l)[r]? = (l ++ [x])[invR (l.length + 1) (plI x l) r]? := by
  have hp := plI_le x l
  have ht : (l.take (plI x l)).length = plI x l := by rw [List.length_take]; omega
  unfold insE invR
  by_cases h : r = plI x l
  · rw [if_pos h, List.getElem?_append_right (by omega), List.getElem?_append_right (by omega), ht, h]
    simp
  · rw [if_neg h]
    by_cases g : r < plI x l
    · rw [if_pos g, List.getElem?_append_left (by omega), List.getElem?_append_left (by omega), List.getElem?_take_of_lt g]
    · rw [if_neg g, List.getElem?_append_right (by omega), List.getElem?_append_left (by omega), ht, show r - plI x l = (r - plI x l - 1) + 1 by omega, List.getElem?_cons_succ, List.getElem?_drop]
      congr 1; omega
def laV : Value → Option Addr
  | .slice a _ _ => a
  | _ => none
def lnV : Value → Nat
  | .slice _ n _ => n
  | _ => 0
def lcV : Value → Nat
  | .slice _ _ c => c
  | _ => 0
/-- The entries by their ranks. -/
def rkC (n p : Nat) (ys : List Et) (cs : List Value) : En where
  k r := ((ys[invR n p r]?).map Et.key).getD ⟨#[]⟩
  d r := ((ys[invR n p r]?).map Et.day).getD 0
  la r := laV ((cs[invR n p r * 3 + 2]?).getD undef)
  ln r := lnV ((cs[invR n p r * 3 + 2]?).getD undef)
  lc r := lcV ((cs[invR n p r * 3 + 2]?).getD undef)
theorem rkC_at {W : World} {ys : List Et} {cs : List Value} {n p r : Nat} (e : Enc W ys cs) (hn : ys.length = n) (hp : p < n) (hr : r < n) :
    ∃ h : invR n p r < ys.length, (rkC n p ys cs).k r = (ys[invR n p r]).key ∧ (rkC n p ys cs).d r = (ys[invR n p r]).day ∧ cs[invR n p r * 3]? = some (.string (ys[invR n p r]).key) ∧ cs[invR n p r * 3 + 1]? = some (.int .i64 (ys[invR n p r]).day) ∧ cs[invR n p r * 3 + 2]? = some ((rkC n p ys cs).l r) ∧ LnA W ((rkC n p ys cs).l r) (ys[invR n p r]).lns := by
  have hi : invR n p r < ys.length := by rw [hn]; exact inv_lt hp hr
  obtain ⟨v, a, b, c, g⟩ := e.at (invR n p r) hi
  obtain ⟨ad, cap, rfl, hl⟩ := id g
  have hv : (rkC n p ys cs).l r = .slice ad (ys[invR n p r]).lns.length cap := by
    unfold rkC En.l
    simp only [c]
    rfl
  refine ⟨hi, ?_, ?_, a, b, by rw [hv]; exact c, by rw [hv]; exact g⟩
  · unfold rkC; simp [List.getElem?_eq_getElem hi]
  · unfold rkC; simp [List.getElem?_eq_getElem hi]
/-- The row that grew, by ranks. -/
theorem EGr.ranks {W : World} {B : Nat} {w : World} {p0 c n pl : Nat} {ys : List Et} {cs : List Value} (e : Enc W ys cs) (own : w.ownsRow B 38 3 (.slice (some ⟨p0, 0, none⟩) ys.length c) ys.length cs) (hn : ys.length = n) (hp : pl < n) :
    YRow w p0 n (rkC n pl ys cs) (lastD n pl) := by
  have hcl := e.len
  have at_ : ∀ j, j < n → ∀ k, k < 3 → w.cell? ⟨p0, j * 3 + k, none⟩ = cs[j * 3 + k]? := fun j hj k hk => own.cellAt _ (by omega)
  have hk : ∀ j (hj : j < n), _ := fun j hj => rkC_at e hn hp (last_lt hp hj)
  refine ⟨(own.lt p0 rfl).2, fun j hj => ?_, fun j hj => ?_, fun j hj => ?_, fun o ho => own.frozenAt o⟩
  · obtain ⟨h, h1, _, h2, _⟩ := hk j hj
    have := at_ j hj 0 (by omega)
    rw [h1, ← h2, inv_last hp hj]; exact this
  · obtain ⟨h, _, h1, _, h2, _⟩ := hk j hj
    have := at_ j hj 1 (by omega)
    rw [h1, ← h2, inv_last hp hj]; exact this
  · obtain ⟨h, _, _, _, _, h2, _⟩ := hk j hj
    have := at_ j hj 2 (by omega)
    rw [← h2, inv_last hp hj]; exact this
/-- A row by ranks, in order, is a row of entries. -/
theorem Enc.of {w : World} (C : En) : ∀ (l : List Et) (o : Nat), (∀ r (h : r < l.length), C.k (o + r) = (l[r]).key ∧ C.d (o + r) = (l[r]).day ∧ LnA w (C.l (o + r)) (l[r]).lns) →
    ∃ cs, Enc w l cs ∧ ∀ r, r < l.length → ∀ k, k < 3 → cs[r * 3 + k]? = (enY C (o + r))[k]?
  | [], o, _ => ⟨[], rfl, fun r h => by cases h⟩
  | x :: l, o, h => by
    obtain ⟨cs, e, hc⟩ := Enc.of C l (o + 1) fun r hr => by
      have := h (r + 1) (by simpa using hr)
      rw [show o + 1 + r = o + (r + 1) by omega]
      simpa using this
    obtain ⟨h1, h2, h3⟩ := h 0 (by simp)
    rw [Nat.add_zero] at h1 h2 h3
    refine ⟨.string x.key :: .int .i64 x.day :: C.l o :: cs, ⟨_, _, rfl, h3, e⟩, fun r hr k hk => ?_⟩
    cases r with
    | zero =>
      rw [Nat.add_zero]
      have hx : (x :: l)[0] = x := rfl
      rw [hx] at h1 h2
      match k, hk with
      | 0, _ => simp [enY, h1]
      | 1, _ => simp [enY, h2]
      | 2, _ => simp [enY]
    | succ r =>
      rw [show (r + 1) * 3 + k = (r * 3 + k) + 3 by omega, show o + (r + 1) = o + 1 + r by omega, ← hc r (by simpa using hr) k hk]
      rfl
theorem YRow.ens {W w : World} {p0 n : Nat} {x : Et} {l : List Et} {cs : List Value} {d : Nat → Nat} (h : YRow w p0 n (rkC n (plI x l) (l ++ [x]) cs) d) (hd : ∀ i, i < n → d i = i) (e : Enc W (l ++ [x]) cs) (hn : l.length + 1 = n) (k : Kept W w) : ERow w p0 0 (insE x l) := by
  have hp : plI x l < n := by have := plI_le x l; omega
  have hl : (l ++ [x]).length = n := by simpa using hn
  subst hn
  obtain ⟨cs2, e2, hc2⟩ := Enc.of (w := w) (rkC (l.length + 1) (plI x l) (l ++ [x]) cs) (insE x l) 0 fun r hr => by
    rw [insE_len] at hr
    obtain ⟨hi, h1, h2, _, _, _, h3⟩ := rkC_at e hl hp hr
    have hg := ins_get x l r hr
    rw [List.getElem?_eq_getElem (by rw [insE_len]; exact hr), List.getElem?_eq_getElem hi] at hg
    have hg2 := Option.some.inj hg
    rw [Nat.zero_add, h1, h2, hg2]
    exact ⟨rfl, rfl, h3.later k⟩
  refine ⟨h.lt, cs2, e2, fun j v hj => ?_⟩
  have hj2 := (List.getElem?_eq_some_iff.1 hj).1
  rw [e2.len, insE_len] at hj2
  have hq : j / 3 < l.length + 1 := by omega
  have hm : j = j / 3 * 3 + j % 3 := by omega
  have hr := hc2 (j / 3) (by rw [insE_len]; exact hq) (j % 3) (by omega)
  rw [← hm, hj, Nat.zero_add] at hr
  have := h.cells (j / 3) hq (j % 3) v (by rw [hd _ hq]; exact hr.symm)
  rw [Nat.zero_add, ← hm] at this
  rw [Nat.zero_add]; exact this
end Go.Proofs.YtbaahnafmfjpaaaGreatDoor

/-
  The order of the ranks. No condition but those that each theorem names.
-/
namespace Go.Proofs.YtbaahnafmfjpaaaGreatDoor
open Go.RowKit
set_option linter.unusedVariables false

theorem Srt.at : ∀ {l : List Et}, Srt l → ∀ {i j : Nat} (hi : i < l.length) (hj : j < l.length), i < j → befB l[i] l[j] = true
  | [], _, i, _, hi, _, _ => by cases hi
  | x :: r, h, 0, j + 1, _, hj, _ => h.1 _ (List.getElem_mem (by simpa using hj))
  | x :: r, h, i + 1, j + 1, hi, hj, l => Srt.at h.2 (by simpa using hi) (by simpa using hj) (by omega)
theorem beY_bef (x y : Et) : beY x.day x.key y.day y.key = befB x y := by
  rw [Bool.eq_iff_iff, bef_iff]
  unfold beY
  simp
theorem rk_key {W : World} {x : Et} {l : List Et} {cs : List Value} (e : Enc W (l ++ [x]) cs) (hs : Srt l) (hk : ∀ e ∈ l, e.key ≠ x.key) (r s : Nat) (hr : r < l.length + 1) (hs2 : s < l.length + 1) :
    beY ((rkC (l.length + 1) (plI x l) (l ++ [x]) cs).d r) ((rkC (l.length + 1) (plI x l) (l ++ [x]) cs).k r) ((rkC (l.length + 1) (plI x l) (l ++ [x]) cs).d s) ((rkC (l.length + 1) (plI x l) (l ++ [x]) cs).k s) = Nat.blt r s := by
  have hp : plI x l < l.length + 1 := by have := plI_le x l; omega
  have hl : (l ++ [x]).length = l.length + 1 := by simp
  have S := insE_srt hs hk
  have at_ : ∀ q (hq : q < l.length + 1), ∃ h : q < (insE x l).length, (rkC (l.length + 1) (plI x l) (l ++ [x]) cs).d q = ((insE x l)[q]).day ∧ (rkC (l.length + 1) (plI x l) (l ++ [x]) cs).k q = ((insE x l)[q]).key := by
    intro q hq
    obtain ⟨hi, h1, h2, _⟩ := rkC_at e hl hp hq
    have hg := ins_get x l q hq
    rw [List.getElem?_eq_getElem (by rw [insE_len]; exact hq), List.getElem?_eq_getElem hi] at hg
    have hg2 := Option.some.inj hg
    exact ⟨by rw [insE_len]; exact hq, by rw [h2, hg2], by rw [h1, hg2]⟩
  obtain ⟨ir, d1, k1⟩ := at_ r hr
  obtain ⟨is, d2, k2⟩ := at_ s hs2
  rw [d1, k1, d2, k2, beY_bef]
  rcases Nat.lt_trichotomy r s with c | c | c
  · rw [S.at ir is c, (blt_iff _ _).2 c]
  · subst c
    rw [bef_irr, blt_no (by omega)]
  · rw [bef_asym (S.at is ir c), blt_no (by omega)]
/-- The row sorted. -/
theorem slice_ens {B w : World} {p bx cap : Nat} {x : Et} {l : List Et} {cs : List Value} (e : Enc B (l ++ [x]) cs) (hs : Srt l) (hk : ∀ e ∈ l, e.key ≠ x.key) (n60 : l.length < 60)
    (hS : Sy B w p (l.length + 1) bx cap (rkC (l.length + 1) (plI x l) (l ++ [x]) cs) (lastD (l.length + 1) (plI x l))) :
    Calls Tryz.prog 48 #[.iface 23 (.slice (some ⟨p, 0, none⟩) (l.length + 1) cap), lessW bx] w fun e w' => e = .returned (.tuple #[]) ∧ ERow w' p 0 (insE x l) ∧ Kept B w' ∧ Turn p w w' := by
  have hp : plI x l < l.length + 1 := by have := plI_le x l; omega
  obtain ⟨d, hd, hi⟩ := pdq_ends (l.length + 1) (plI x l) (by omega) (by omega) hp
  refine (sliceY_any hS (by omega) (by omega) (fun i hi => last_lt hp hi) (fun r s hr hs2 => rk_key e hs hk r s hr hs2) hd).mono ?_
  rintro e' w' ⟨he, hS', hT⟩
  exact ⟨he, hS'.row.ens hi e rfl hS'.kept, hS'.kept, hT⟩
end Go.Proofs.YtbaahnafmfjpaaaGreatDoor
