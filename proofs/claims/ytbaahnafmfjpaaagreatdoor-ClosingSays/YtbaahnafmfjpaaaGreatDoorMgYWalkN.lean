import Derived.Test.YtbaahnafmfjpaaaGreatDoorMgYWalkI
import Derived.Test.YtbaahnafmfjpaaaGreatDoorJWalkA
import Derived.Test.YtbaahnafmfjpaaaGreatDoorHWalkF
/-
  The reference's clone of a book's entries, the one that is appended to it, and the variable that holds the book. No condition but those that each theorem names.
-/
namespace Go.Proofs.YtbaahnafmfjpaaaGreatDoor
open Go.RowKit Go.WideShapes
set_option linter.unusedVariables false

theorem EGr.emptyAt {W w : World} (k : Kept W w) : EGr W w.heap.size (w.alloc (.cells #[] 38)) (.slice (some ⟨w.heap.size, 0, none⟩) 0 0) [] :=
  ⟨[], rfl, by have := World.ownsRow_lit (base := w.heap.size) (e := 38) (size := 3) w #[] 0 (Nat.le_refl _) (by decide) rfl
               simpa using this⟩
/-- A row of entries appended, wherever it lies: none of them wants no place. -/
theorem run_append_none (w : World) {W : World} {B c m : Nat} {v : Value} {l : List Et} {ad : Addr} (hm : m = 0) (ty : TypeId) (a : EGr W B w v l) (hn : l.length ≤ 1000000) (hB : B ≤ w.heap.size) :
    ∃ v' w', (Builtin.append_ #[23, 23] ty #[v, .slice (some ad) m c]).run Tryz.prog w = .ok v' w' ∧ EGr W B w' v' l ∧ w.grownBy w' v.ownBlock := by
  obtain ⟨cs0, e0, own⟩ := a
  subst hm
  obtain ⟨i0, hi, hz0, hz1, hz2⟩ := info_parts infoEn
  have h63 : l.length + 0 ≤ maxLen := by unfold maxLen; omega
  obtain ⟨v', w', hr, h2, h3, h4⟩ := run_append_own (P := Tryz.prog) w B 23 ty 38 i0 _ 3 48 Tryz.underlying23 hi hz0 hz1 hz2 rfl (by decide) v l.length _ own ad 0 c [] rfl (by simp) (by simp) h63 (by omega) hB
  exact ⟨v', w', hr, ⟨_, e0, by simpa using h2⟩, h3⟩
theorem app_none {w : World} {ops : Array Oper} {rest : List Oper} {o : Oper} {a : Act} {Q : Exit → Act → World → Prop} (hgd : o.guard = none) (s x : Operand)
    (ho : o.op = .call { callee := .builtin .append, args := #[s, x], argTypes := #[23, 23] }) {W : World} {B c m : Nat} {v : Value} {l : List Et} {ad : Addr} (hm : m = 0)
    (hs : a.eval s = v) (hx : a.eval x = .slice (some ad) m c) (ha : EGr W B w v l) (hn : l.length ≤ 1000000) (hB : B ≤ w.heap.size)
    (h : ∀ v' w', EGr W B w' v' l → w.grownBy w' v.ownBlock → wpList Tryz.prog ops Q rest (a.put o.dst v') w') : wpList Tryz.prog ops Q (o :: rest) a w := by
  refine wpList_plain hgd fun _ hK => ?_
  obtain ⟨v', w', hr, h2, h3⟩ := run_append_none (c := c) (ad := ad) w hm o.type ha hn hB
  unfold Oper.wp execOp
  simp only [ho, resolve, invoke, builtin, Sem.run_bind, Sem.run_pure, Result.andThen_ok, List.map_toArray, List.map_cons, List.map_nil, hs, hx, hr]
  exact hK _ _ (h v' w' h2 h3)
/-- What slices.Clone leaves of a row that lay there before. -/
def ClPostE (W w : World) (l : List Et) (e : Ending) (w' : World) : Prop := ∃ v, e = .returned v ∧ EGr W w.heap.size w' v l ∧ Kept w w'
set_option maxHeartbeats 1000000 in
theorem eclone_some (W : World) (p off cap : Nat) (l : List Et) (w : World) (hW : Kept W w) (hn : l.length ≤ 1000) (hR : ERow W p off l) :
    Calls Tryz.prog 47 #[.slice (some ⟨p, off, none⟩) l.length cap] w (ClPostE W w l) := by
  have ne : ∀ w : World, (binOp .eql 23 (.slice (some ⟨p, off, none⟩) l.length cap) (.slice none 0 0)).run Tryz.prog w = .ok (.bool false) w := fun w => by
    rw [Lib.run_eql_slice_nil w 23 38 _ l.length cap 0 0 Tryz.underlying23]; rfl
  have hE := EGr.emptyAt hW
  have hK := (Kept.refl w).alloc (.cells #[] 38)
  obtain ⟨plt, cs, e, hc⟩ := hR
  have hc2 : ∀ j u, cs[j]? = some u → (w.alloc (.cells #[] 38)).cell? ⟨p, off + j, none⟩ = some u := fun j u hj => ((hW.trans hK).rd.1 _ _ plt).trans (hc j u hj)
  clear hc
  go_enter Tryz.func47, Tryz.ntmps47
  go_wp2_with (at_builtin; refine app_ens rfl _ _ rfl (B := w.heap.size) rfl rfl hE e hc2 (by simp; omega) (by have := hK.size; omega) ?_)
  intro v' w1 hG hgrow
  have hK1 : Kept w w1 := Below.grown hK hgrow hK.size (fun j ej => by have := (hE.lt j ej).1; omega)
  go_wp2
  go_ret
  exact ⟨v', rfl, by simpa using hG, hK1⟩
set_option maxHeartbeats 1000000 in
theorem eclone_null (W : World) (a : Option Addr) (cap : Nat) (w : World) (hW : Kept W w) :
    Calls Tryz.prog 47 #[.slice a 0 cap] w (ClPostE W w []) := by
  cases a with
  | none =>
    have ne : ∀ w : World, (binOp .eql 23 (.slice none 0 cap) (.slice none 0 0)).run Tryz.prog w = .ok (.bool true) w := fun w => by
      rw [Lib.run_eql_slice_nil w 23 38 _ 0 cap 0 0 Tryz.underlying23]; rfl
    go_enter Tryz.func47, Tryz.ntmps47
    go_wp2
    go_ret
    exact ⟨_, rfl, EGr.nil _ _ _, Kept.refl _⟩
  | some ad =>
    have ne : ∀ w : World, (binOp .eql 23 (.slice (some ad) 0 cap) (.slice none 0 0)).run Tryz.prog w = .ok (.bool false) w := fun w => by
      rw [Lib.run_eql_slice_nil w 23 38 _ 0 cap 0 0 Tryz.underlying23]; rfl
    have hE := EGr.emptyAt hW
    have hK := (Kept.refl w).alloc (.cells #[] 38)
    go_enter Tryz.func47, Tryz.ntmps47
    go_wp2_with (at_builtin; refine app_none rfl _ _ rfl (B := w.heap.size) rfl rfl rfl hE (by simp) (by have := hK.size; omega) ?_)
    intro v' w1 hG hgrow
    have hK1 : Kept w w1 := Below.grown hK hgrow hK.size (fun j ej => by have := (hE.lt j ej).1; omega)
    go_wp2
    go_ret
    exact ⟨v', rfl, hG, hK1⟩
theorem eclone_at (W : World) (q : BkA) (b : Bk) (w : World) (hW : Kept W w) (hn : b.ens.length ≤ 60) (hM : BkM W q b) :
    Calls Tryz.prog 47 #[.slice q.ae b.ens.length q.ce] w (ClPostE W w b.ens) := by
  rcases hM.ens with h | ⟨p, off, ea, hR⟩
  · rw [h]; exact eclone_null W q.ae q.ce w hW
  · rw [ea]; exact eclone_some W p off q.ce b.ens w hW (by omega) hR
/-! Boxes that lie before and behind. -/
theorem EBx.allocd {w : World} {p : Nat} {k : ByteArray} {d : Int} {v : Value} (h : EBx w p k d v) (o : Obj) : EBx (w.alloc o) p k d v := h.later ((Kept.refl w).alloc o)
theorem EBx.drewd {w : World} {p : Nat} {k : ByteArray} {d : Int} {v : Value} (h : EBx w p k d v) : EBx w.drew p k d v := h.later (Kept.refl w).drew
theorem VBk.allocd {w : World} {p : Nat} {q : BkA} {b : Bk} (h : VBk w p q b) (o : Obj) : VBk (w.alloc o) p q b := h.later ((Kept.refl w).alloc o)
theorem VBk.drewd {w : World} {p : Nat} {q : BkA} {b : Bk} (h : VBk w p q b) : VBk w.drew p q b := h.later (Kept.refl w).drew
theorem vb_none (w : World) : VBk (w.alloc noBk) w.heap.size noA noB := VBk.none w _ rfl
theorem vb_grown {w w' : World} {p : Nat} {q : BkA} {b : Bk} {o : Option Nat} (h : VBk w p q b) (g : w.grownBy w' o) (hne : o ≠ some p) : VBk w' p q b := by
  obtain ⟨⟨a, c0, c1, c2⟩, f0, f1, f2⟩ := h
  have hn : some p ≠ o := fun e => hne e.symm
  exact ⟨⟨Nat.lt_of_lt_of_le a g.size, g.cell c0 hn, g.cell c1 hn, g.cell c2 hn⟩, (g.frozen_far ⟨p, 0, Option.none⟩ a hn).trans f0, (g.frozen_far ⟨p, 1, Option.none⟩ a hn).trans f1, (g.frozen_far ⟨p, 2, Option.none⟩ a hn).trans f2⟩
theorem EGr.setFar {W : World} {B : Nat} {w : World} {g n c : Nat} {u : Value} {l : List Et} {p i : Nat} (a : EGr W B w (.slice (some ⟨g, 0, none⟩) n c) l) (hp : p ≠ g) : EGr W B (w.setCell ⟨p, i, none⟩ u) (.slice (some ⟨g, 0, none⟩) n c) l := by
  obtain ⟨cs, e, a⟩ := a
  refine ⟨cs, e, a.1, ?_⟩
  rcases a.2 with ⟨h, _⟩ | ⟨b, cap, cur, e1, hb, hh, hr⟩
  · cases h
  · refine .inr ⟨b, cap, cur, e1, hb, ?_, hr⟩
    obtain rfl : g = b := by simpa using (Value.slice.inj e1).1
    show (w.heap.modify p _)[g]? = _
    rw [Array.getElem?_modify, if_neg hp]
    exact hh
/-- One entry appended, as a step of a region that draws: where the new row lies. -/
theorem step_grow {ops : Array Oper} {o : Oper} {a : Act} {K : Act → World → Prop} {Q : Exit → Act → World → Prop} {E : Prop} {W Y V : World} {B hb : Nat} {v va : Value} {l : List Et} {z : Et} (hgd : o.guard = none) (s t : Operand)
    (ho : o.op = .call { callee := .builtin .append, args := #[s, t], argTypes := #[23, 23] }) (hs : a.eval s = v) (hx : a.eval t = .slice (some ⟨hb, 0, none⟩) 1 1)
    (hG : EGr W B Y v l) (hY : Kept Y V) (hB : B ≤ Y.heap.size) (hL : LnA W va z.lns) (hX : EBx V hb z.key z.day va) (hm : l.length + 1 ≤ 1000000)
    (h : ∀ g cap w1, EGr W B w1 (.slice (some ⟨g, 0, none⟩) (l.length + 1) cap) (l ++ [z]) → V.grownBy w1 v.ownBlock → (v.ownBlock = some g ∨ g = V.heap.size) → g < w1.heap.size → K (a.put o.dst (.slice (some ⟨g, 0, none⟩) (l.length + 1) cap)) w1) :
    if Region.wanted o (yielded ops a.tmps) = true then Oper.wp Tryz.prog o a V K Q else E := by
  obtain ⟨cs, e, own⟩ := hG.later hY
  obtain ⟨i0, hi, hz0, hz1, hz2⟩ := info_parts infoEn
  have hnews : ∀ (j : Nat) (u : Value), ([.string z.key, .int .i64 z.day, va] : List Value)[j]? = some u → V.cell? ((⟨hb, 0, none⟩ : Addr).add j) = some u := by
    intro j u hj
    match j, hj with
    | 0, hj => simp at hj; subst hj; simpa [Addr.add] using hX.c0
    | 1, hj => simp at hj; subst hj; simpa [Addr.add] using hX.c1
    | 2, hj => simp at hj; subst hj; simpa [Addr.add] using hX.c2
    | k + 3, hj => simp at hj
  refine step_append_lies (P := Tryz.prog) V hgd s t 23 ho B 38 i0 _ 3 48 Tryz.underlying23 hi hz0 hz1 hz2 rfl (by decide) v l.length cs hs own ⟨hb, 0, none⟩ 1 1 [.string z.key, .int .i64 z.day, va] hx rfl hnews (Enc.one hL).cell1 (by decide) (by unfold maxLen; omega) (by omega) (Nat.le_trans hB hY.le) V.heap.size rfl ?_
  intro g cap w1 h2 h3 h4 h5
  refine h g cap w1 ⟨_, e.append (Enc.one hL), ?_⟩ h3 h4 h5
  rw [List.length_append, List.length_singleton]
  exact h2
theorem vb_far {V w1 : World} {v : Value} {po g : Nat} (hA : VBk V po noA noB) (hgr : V.grownBy w1 v.ownBlock) (hown : v.ownBlock = some g ∨ g = V.heap.size) (hne : v.ownBlock ≠ some po) : VBk w1 po noA noB ∧ po ≠ g :=
  ⟨vb_grown hA hgr hne, by
    rcases hown with e | e
    · intro h; rw [h] at hne; exact hne e
    · have := hA.box.lt; omega⟩
/-- The variable that holds the new book, and the row that grew. -/
def RSt (W wr : World) (b : Bk) (x : Et) (q : BkA) (s : Value) (wx : World) : Prop := ∃ po g c, s = .pointer (some ⟨po, 0, none⟩) ∧ EGr W wr.heap.size wx (.slice (some ⟨g, 0, none⟩) (b.ens.length + 1) c) (b.ens ++ [x]) ∧ po ≠ g ∧ po < wx.heap.size ∧
  wx.cell? ⟨po, 0, none⟩ = some (.slice q.aa b.acs.length q.ca) ∧ wx.cell? ⟨po, 1, none⟩ = some (.slice (some ⟨g, 0, none⟩) (b.ens.length + 1) c) ∧ wx.cell? ⟨po, 2, none⟩ = some (.int .i64 b.shut) ∧ Kept wr wx
theorem EGr.mono {W : World} {A B : Nat} {w : World} {v : Value} {l : List Et} (a : EGr W B w v l) (h : A ≤ B) : EGr W A w v l := by
  obtain ⟨cs, e, a⟩ := a
  refine ⟨cs, e, a.1, ?_⟩
  rcases a.2 with h1 | ⟨b, cap, cur, e1, hb, hr⟩
  · exact .inl h1
  · exact .inr ⟨b, cap, cur, e1, by omega, hr⟩
theorem rst_old {W wr w1 : World} {b : Bk} {x : Et} {q : BkA} {B po g c : Nat} (hA : VBk w1 po noA noB) (hG : EGr W B w1 (.slice (some ⟨g, 0, none⟩) (b.ens.length + 1) c) (b.ens ++ [x])) (hB : wr.heap.size ≤ B) (hK : Kept wr w1) (hpo : wr.heap.size ≤ po) (ne : po ≠ g) :
    RSt W wr b x q (.pointer (some ⟨po, 0, none⟩)) (((w1.setCell ⟨po, 0, none⟩ (.slice q.aa b.acs.length q.ca)).setCell ⟨po, 1, none⟩ (.slice (some ⟨g, 0, none⟩) (b.ens.length + 1) c)).setCell ⟨po, 2, none⟩ (.int .i64 b.shut)) := by
  obtain ⟨⟨a, c0, c1, c2⟩, f0, f1, f2⟩ := hA
  refine ⟨po, g, c, rfl, (((hG.setFar ne).setFar ne).setFar ne).mono hB, ne, by simpa using a, ?_, ?_, ?_, hK.set3 hpo _ _ _⟩ <;> go_simp
theorem rst_new {W wr w1 : World} {b : Bk} {x : Et} {q : BkA} {B g c : Nat} (hG : EGr W B w1 (.slice (some ⟨g, 0, none⟩) (b.ens.length + 1) c) (b.ens ++ [x])) (hB : wr.heap.size ≤ B) (hK : Kept wr w1) (hg : g < w1.heap.size) :
    RSt W wr b x q (.pointer (some ⟨w1.heap.size, 0, none⟩)) ((((w1.alloc noBk).setCell ⟨w1.heap.size, 0, none⟩ (.slice q.aa b.acs.length q.ca)).setCell ⟨w1.heap.size, 1, none⟩ (.slice (some ⟨g, 0, none⟩) (b.ens.length + 1) c)).setCell ⟨w1.heap.size, 2, none⟩ (.int .i64 b.shut)) :=
  rst_old (vb_none w1) (hG.later ((Kept.refl w1).alloc noBk)) hB (hK.alloc noBk) hK.le (by omega)
theorem rst_made {W wr w1 : World} {b : Bk} {x : Et} {q : BkA} {B g c : Nat} (hG : EGr W B w1 (.slice (some ⟨g, 0, none⟩) (b.ens.length + 1) c) (b.ens ++ [x])) (hB : wr.heap.size ≤ B) (hK : Kept wr w1) (hg : g < w1.heap.size) :
    RSt W wr b x q (.pointer (some ⟨w1.heap.size, 0, none⟩)) (w1.alloc (.cells #[.slice q.aa b.acs.length q.ca, .slice (some ⟨g, 0, none⟩) (b.ens.length + 1) c, .int .i64 b.shut] 25)) :=
  ⟨w1.heap.size, g, c, rfl, (hG.later ((Kept.refl w1).alloc _)).mono hB, by omega, by simp, by simp, by simp, by simp, hK.alloc _⟩
theorem YRow.set {w : World} {p N r i : Nat} {C : En} {d : Nat → Nat} {u : Value} (h : YRow w p N C d) (hr : r ≠ p) : YRow (w.setCell ⟨r, i, none⟩ u) p N C d := by
  obtain ⟨a, c0, c1, c2, f⟩ := h
  refine ⟨by simpa using a, fun j hj => ?_, fun j hj => ?_, fun j hj => ?_, fun o ho => ?_⟩
  · have := c0 j hj; go_simp
  · have := c1 j hj; go_simp
  · have := c2 j hj; go_simp
  · have := f o ho; go_simp
/-- The row sorted, by ranks. -/
theorem slice_rows {B w : World} {p bx cap : Nat} {x : Et} {l : List Et} {cs : List Value} (e : Enc B (l ++ [x]) cs) (hs : Srt l) (hk : ∀ e ∈ l, e.key ≠ x.key) (n60 : l.length < 60)
    (hS : Sy B w p (l.length + 1) bx cap (rkC (l.length + 1) (plI x l) (l ++ [x]) cs) (lastD (l.length + 1) (plI x l))) :
    Calls Tryz.prog 48 #[.iface 23 (.slice (some ⟨p, 0, none⟩) (l.length + 1) cap), lessW bx] w fun e w' => e = .returned (.tuple #[]) ∧ (∃ d, YRow w' p (l.length + 1) (rkC (l.length + 1) (plI x l) (l ++ [x]) cs) d ∧ ∀ i, i < l.length + 1 → d i = i) ∧ Kept B w' ∧ Turn p w w' := by
  have hp : plI x l < l.length + 1 := by have := plI_le x l; omega
  obtain ⟨d, hd, hi⟩ := pdq_ends (l.length + 1) (plI x l) (by omega) (by omega) hp
  refine (sliceY_any hS (by omega) (by omega) (fun i hi => last_lt hp hi) (fun r s hr hs2 => rk_key e hs hk r s hr hs2) hd).mono ?_
  rintro e' w' ⟨he, hS', hT⟩
  exact ⟨he, ⟨d, hS'.row, hi⟩, hS'.kept, hT⟩
end Go.Proofs.YtbaahnafmfjpaaaGreatDoor

/-
  The reference's Post, where a new entry goes in. No condition but those that each theorem names.
-/
namespace Go.Proofs.YtbaahnafmfjpaaaGreatDoor
open Go.RowKit
set_option linter.unusedVariables false

/-- The book with the entry in it. -/
def RpYes (w : World) (q : BkA) (b : Bk) (x : Et) (e : Ending) (w' : World) : Prop := ∃ p c, e = .returned (.tuple #[.agg #[.slice q.aa b.acs.length q.ca, .slice (some ⟨p, 0, none⟩) (b.ens.length + 1) c, .int .i64 b.shut], .int .i64 0]) ∧ ERow w' p 0 (insE x b.ens) ∧ b.ens.length + 1 ≤ c ∧ c ≤ maxLen ∧ Kept w w'
set_option maxRecDepth 100000 in
set_option maxHeartbeats 4000000 in
theorem rpost_new (q : BkA) (b : Bk) (x : Et) (a : Option Addr) (cap : Nat) (w : World) (hM : BkM w q b) (hx : EtM w x a cap) (gd : Good b) (en : enE x.key x.day x.lns = 0) (hk : ¬ kyI x.key b.ens < b.ens.length) (hacc : ∀ y ∈ x.lns, hasB y.1 b.acs = true) (hsh : ¬ x.day ≤ b.shut) (h60 : b.ens.length < 60) :
    Calls Tryz.prog 22 #[bkV q b, enV x.key x.day a x.lns.length cap] w (RpYes w q b x) := by
  obtain ⟨x1, x2, x3, x4, x5, x6⟩ := id hx
  have kE := (((Kept.refl w).alloc (bkO q b)).alloc (enO x a cap)).alloc noBk
  have HB := Lib.hid ((BBx.new w q b).later (((Kept.refl (w.alloc (bkO q b))).alloc (enO x a cap)).alloc noBk))
  have HX := Lib.hid ((EBx.newAt (w := w.alloc (bkO q b)) (p := w.heap.size + 1) (by simp) x.key x.day (.slice a x.lns.length cap) 38).later ((Kept.refl ((w.alloc (bkO q b)).alloc (enO x a cap))).alloc noBk))
  have HR := Lib.hid (VBk.none ((w.alloc (bkO q b)).alloc (enO x a cap)) (w.heap.size + 1 + 1) (by simp))
  have EN := Lib.hid (fun V (k : Kept w V) => rentry_any x.key x.day a x.lns cap V x1 x2 (x3.later k) x4)
  rw [en] at EN
  have GT := Lib.hid (fun V (k : Kept w V) => (rget_any q b x.key V (hM.later k)).mono fun e w' h => show RgNo V e w' from by
    rcases h with ⟨h, _⟩ | ⟨_, h⟩
    · exact absurd h hk
    · exact h)
  have HM := Lib.hid hM
  have XA := Lib.hid x3
  have GD := Lib.hid gd
  have AC := Lib.hid hacc
  have KN := Lib.hid (show ∀ e ∈ b.ens, e.key ≠ x.key from fun e he h => hk (kyI_lt.2 ⟨e, he, h⟩))
  have sh : decide (x.day ≤ b.shut) = false := by simpa using hsh
  have g60 : decide ((60 : Int) ≤ (b.ens.length : Int)) = false := by simp; omega
  have g61 : decide (60 ≤ b.ens.length) = false := by simp; omega
  generalize hW : ((w.alloc (bkO q b)).alloc (enO x a cap)).alloc noBk = W at HB HX HR kE
  have HW := Lib.hid hW
  have HK := Lib.hid kE
  clear hM hx gd en hk hacc hW kE x3
  obtain ⟨b0, b1, b2, b3⟩ := HB.out
  obtain ⟨e0, e1, e2, e3⟩ := HX.out
  go_enter Tryz.func22, Tryz.ntmps22
  go_wp2_with fail
  rw [HW.out]
  refine (EN.out W HK.out).mono ?_
  rintro e w1 ⟨rfl, hK1⟩
  have K1 := Lib.hid hK1
  clear b0 b1 b2 b3 e0 e1 e2 e3 hK1
  obtain ⟨b0, b1, b2, b3⟩ := HB.out.later K1.out
  obtain ⟨e0, e1, e2, e3⟩ := HX.out.later K1.out
  go_wp2_with fail
  refine (GT.out w1 (HK.out.trans K1.out)).mono ?_
  rintro e w2 ⟨rfl, hK2⟩
  have K2 := Lib.hid (K1.out.trans (hK2.alloc noEn))
  have K2' := K1.out.trans hK2
  clear b0 b1 b2 b3 e0 e1 e2 e3 hK2 EN GT K1
  obtain ⟨e0, e1, e2, e3⟩ := HX.out.later K2'
  go_wp2
  clear e0 e1 e2 e3 K2'
  generalize w2.alloc noEn = w3 at *
  go_loopw [34] (fun s wr => ∃ j : Nat, j ≤ x.lns.length ∧ s = .int .i64 j ∧ Kept w3 wr) (fun s _ => (x.lns.length - intOf s).toNat)
  case atStart => exact ⟨0, Nat.zero_le _, rfl, Kept.refl _⟩
  case round =>
    obtain ⟨j, hj, rfl, hK⟩ := hrel
    have KW := Lib.hid (K2.out.trans hK)
    have K0 := Lib.hid (HK.out.trans KW.out)
    by_cases hlt : j < x.lns.length
    · obtain ⟨p2, off2, hp2, hR2⟩ := (XA.out.later K0.out).at hlt
      have c0 := hR2.c0 j hlt
      have c1 := hR2.c1 j hlt
      have plt := hR2.lt
      have hz := AC.out _ (List.getElem_mem hlt)
      clear hR2
      subst hp2
      generalize x.lns[j] = y at *
      have kL := (Kept.refl wr).alloc (.cells #[.string y.1, .int .i64 y.2] 48)
      have HS := Lib.hid (rhas_any y.1 b.acs q.aa q.ca _ (by have := HM.out.la; have := HM.out.lca; omega) ((HM.out.later (K0.out.trans kL)).acs))
      rw [hz] at HS
      obtain ⟨b0, b1, b2, b3⟩ := HB.out.later KW.out
      have KL := Lib.hid (hK.trans kL)
      have HLT := Lib.hid hlt
      have u1 : IntKind.i64.wrap ((j : Int) + 1) = (j : Int) + 1 := IntWalk.i64_in _ (by have := x2; unfold maxLen at this; omega)
      clear kL hz
      go_wp2_with fail
      refine HS.out.mono ?_
      rintro e w5 ⟨rfl, hK5⟩
      have KF := Lib.hid (KL.out.trans hK5)
      clear b0 b1 b2 b3 c0 c1 plt hK5
      go_wp2
      go_roundw
      case rel => exact ⟨j + 1, HLT.out, by go_num, KF.out⟩
      case measure => have := HLT.out; simp [intOf]; omega
    · obtain rfl : j = x.lns.length := by omega
      clear hlt
      obtain ⟨b0, b1, b2, b3⟩ := HB.out.later KW.out
      obtain ⟨e0, e1, e2, e3⟩ := HX.out.later KW.out
      go_wp2_with fail
      clear b0 b1 b2 b3 e0 e1 e2 e3
      have LL := Lib.hid (show LnA w (.slice a x.lns.length cap) x.lns from ⟨a, cap, rfl, x5, x6, XA.out⟩)
      have CL := Lib.hid (fun V (k : Kept wr V) => (eclone_at w q b V (K0.out.trans k) (by omega) HM.out).mono fun e w' h => show ClPostE w V b.ens e w' ∧ wr.heap.size ≤ V.heap.size from ⟨h, k.le⟩)
      have CK := Lib.hid (fun V (k : Kept wr V) => show Kept wr V ∧ (V.cell? ⟨w.heap.size, 0, none⟩ = some (.slice q.aa b.acs.length q.ca) ∧ V.cell? ⟨w.heap.size, 1, none⟩ = some (.slice q.ae b.ens.length q.ce) ∧ V.cell? ⟨w.heap.size, 2, none⟩ = some (.int .i64 b.shut)) ∧ (V.cell? ⟨w.heap.size + 1, 0, none⟩ = some (.string x.key) ∧ V.cell? ⟨w.heap.size + 1, 1, none⟩ = some (.int .i64 x.day) ∧ V.cell? ⟨w.heap.size + 1, 2, none⟩ = some (.slice a x.lns.length cap)) from
        ⟨k, ⟨(HB.out.later (KW.out.trans k)).c0, (HB.out.later (KW.out.trans k)).c1, (HB.out.later (KW.out.trans k)).c2⟩, ⟨(HX.out.later (KW.out.trans k)).c0, (HX.out.later (KW.out.trans k)).c1, (HX.out.later (KW.out.trans k)).c2⟩⟩)
      go_cut [11] (fun s wx => RSt w wr b x q s wx)
      case first =>
        go_region_held3 (fun w' => Kept wr w' ∧ (w'.cell? ⟨w.heap.size, 0, none⟩ = some (.slice q.aa b.acs.length q.ca) ∧ w'.cell? ⟨w.heap.size, 1, none⟩ = some (.slice q.ae b.ens.length q.ce) ∧ w'.cell? ⟨w.heap.size, 2, none⟩ = some (.int .i64 b.shut)) ∧ (w'.cell? ⟨w.heap.size + 1, 0, none⟩ = some (.string x.key) ∧ w'.cell? ⟨w.heap.size + 1, 1, none⟩ = some (.int .i64 x.day) ∧ w'.cell? ⟨w.heap.size + 1, 2, none⟩ = some (.slice a x.lns.length cap)))
          (first | (refine CK.out _ ?_; repeat' (first | (with_reducible assumption) | (with_reducible refine Kept.drew ?_) | (with_reducible refine Kept.alloc ?_ _) | (with_reducible refine Kept.setAt ?_ ?_ _) | (with_reducible exact Kept.refl _) | omega)))
          (first
            | (go_at_call 47; refine (CL.out _ (And.left (by assumption))).mono ?_; rintro e w' ⟨⟨v, rfl, hG, hkC⟩, hle0⟩; have hKa := Kept.trans (a := wr) (And.left (by assumption)) hkC; have hle1 := hKa.le; have hGl := hG.lt)
            | (refine step_grow rfl (.tmp 63) (.tmp 65) rfl rfl rfl hG (by repeat' (first | (with_reducible exact Kept.refl _) | (with_reducible refine Kept.drew ?_) | (with_reducible refine Kept.alloc ?_ _))) hkC.le LL.out (by repeat' (first | (with_reducible refine EBx.newAt ?_ _ _ _ _; (first | rfl | (simp; done))) | (with_reducible refine EBx.allocd ?_ _) | (with_reducible refine EBx.drewd ?_) | (with_reducible refine EBx.later ?_ hkC))) (by omega) ?_; intro g cap2 w1 hG1 hgr hown hlt; have hK1 : Kept wr w1 := Below.grown (And.left (by assumption)) hgr (Kept.le (And.left (by assumption))) (fun j ej => Nat.le_trans hle0 (hGl j ej).1); have hle2 := hK1.le; (first | (have hA1 := vb_far (by first | (with_reducible exact vb_none _) | (with_reducible exact VBk.drewd (vb_none _)) | (with_reducible exact VBk.allocd (vb_none _) _) | (with_reducible exact VBk.allocd (VBk.drewd (vb_none _)) _) | (with_reducible exact VBk.drewd (VBk.allocd (vb_none _) _)) | (with_reducible exact VBk.drewd (VBk.allocd (VBk.drewd (vb_none _)) _)) | (with_reducible exact VBk.later (vb_none _) hkC) | (with_reducible exact VBk.drewd (VBk.later (vb_none _) hkC)) | (with_reducible exact VBk.allocd (VBk.later (vb_none _) hkC) _) | (with_reducible exact VBk.allocd (VBk.drewd (VBk.later (vb_none _) hkC)) _) | (with_reducible exact VBk.drewd (VBk.allocd (VBk.later (vb_none _) hkC) _)) | (with_reducible exact VBk.later (VBk.drewd (vb_none _)) hkC) | (with_reducible exact VBk.drewd (VBk.later (VBk.drewd (vb_none _)) hkC)) | (with_reducible exact VBk.allocd (VBk.later (VBk.drewd (vb_none _)) hkC) _) | (with_reducible exact VBk.allocd (VBk.drewd (VBk.later (VBk.drewd (vb_none _)) hkC)) _) | (with_reducible exact VBk.drewd (VBk.allocd (VBk.later (VBk.drewd (vb_none _)) hkC) _)) | (with_reducible exact VBk.later (VBk.allocd (vb_none _) _) hkC) | (with_reducible exact VBk.drewd (VBk.later (VBk.allocd (vb_none _) _) hkC)) | (with_reducible exact VBk.allocd (VBk.later (VBk.allocd (vb_none _) _) hkC) _) | (with_reducible exact VBk.allocd (VBk.drewd (VBk.later (VBk.allocd (vb_none _) _) hkC)) _) | (with_reducible exact VBk.drewd (VBk.allocd (VBk.later (VBk.allocd (vb_none _) _) hkC) _)) | (with_reducible exact VBk.later (VBk.allocd (VBk.drewd (vb_none _)) _) hkC) | (with_reducible exact VBk.drewd (VBk.later (VBk.allocd (VBk.drewd (vb_none _)) _) hkC)) | (with_reducible exact VBk.allocd (VBk.later (VBk.allocd (VBk.drewd (vb_none _)) _) hkC) _) | (with_reducible exact VBk.allocd (VBk.drewd (VBk.later (VBk.allocd (VBk.drewd (vb_none _)) _) hkC)) _) | (with_reducible exact VBk.drewd (VBk.allocd (VBk.later (VBk.allocd (VBk.drewd (vb_none _)) _) hkC) _)) | (with_reducible exact VBk.later (VBk.drewd (VBk.allocd (vb_none _) _)) hkC) | (with_reducible exact VBk.drewd (VBk.later (VBk.drewd (VBk.allocd (vb_none _) _)) hkC)) | (with_reducible exact VBk.allocd (VBk.later (VBk.drewd (VBk.allocd (vb_none _) _)) hkC) _) | (with_reducible exact VBk.allocd (VBk.drewd (VBk.later (VBk.drewd (VBk.allocd (vb_none _) _)) hkC)) _) | (with_reducible exact VBk.drewd (VBk.allocd (VBk.later (VBk.drewd (VBk.allocd (vb_none _) _)) hkC) _)) | (with_reducible exact VBk.later (VBk.drewd (VBk.allocd (VBk.drewd (vb_none _)) _)) hkC) | (with_reducible exact VBk.drewd (VBk.later (VBk.drewd (VBk.allocd (VBk.drewd (vb_none _)) _)) hkC)) | (with_reducible exact VBk.allocd (VBk.later (VBk.drewd (VBk.allocd (VBk.drewd (vb_none _)) _)) hkC) _) | (with_reducible exact VBk.allocd (VBk.drewd (VBk.later (VBk.drewd (VBk.allocd (VBk.drewd (vb_none _)) _)) hkC)) _) | (with_reducible exact VBk.drewd (VBk.allocd (VBk.later (VBk.drewd (VBk.allocd (VBk.drewd (vb_none _)) _)) hkC) _))) hgr hown (fun e => by have h9 := hGl _ e; (first | (exfalso; simp at h9; done) | omega | (simp at h9; omega))); obtain ⟨hA2, hA3⟩ := hA1; (try simp at hA2); (try simp at hA3); obtain ⟨⟨_, _, _, _⟩, _, _, _⟩ := id hA2) | skip)))
        all_goals go_wp2_with fail
        all_goals go_meet
        all_goals first
          | exact rst_old hA2 hG1 hle0 hK1 (by first | exact Nat.le_refl _ | (simp; done) | (have h9 := hKa.le; omega) | (have h9 := hKa.le; simp; omega)) hA3
          | exact rst_made hG1 hle0 hK1 hlt
          | exact rst_new hG1 hle0 hK1 hlt
      case rest =>
        obtain ⟨po, g, c, rfl, hG, png, plt, p0, p1, p2, hKc⟩ := hcut
        obtain ⟨V, rfl⟩ : ∃ V : World, V = wc := ⟨_, rfl⟩
        have gle := (hG.lt g rfl).1
        obtain ⟨cs, ec, own⟩ := hG
        have hn : (b.ens ++ [x]).length = b.ens.length + 1 := by simp
        have own2 : V.ownsRow wr.heap.size 38 3 (.slice (some ⟨g, 0, none⟩) (b.ens ++ [x]).length c) (b.ens ++ [x]).length cs := by rw [hn]; rw [hn] at own; exact own
        have hpl : plI x b.ens < b.ens.length + 1 := by have := plI_le x b.ens; omega
        have sR := (HR.out.later KW.out).box.lt
        have gge : w.heap.size + 1 + 1 < g := by omega
        have SY : Sy w V g (b.ens.length + 1) po c (rkC (b.ens.length + 1) (plI x b.ens) (b.ens ++ [x]) cs) (lastD (b.ens.length + 1) (plI x b.ens)) :=
          ⟨EGr.ranks ec own2 hn hpl, p1, plt, png, by omega, K0.out.trans hKc⟩
        have SL := Lib.hid (slice_rows ec GD.out.srt KN.out h60 SY)
        have CP := Lib.hid (show b.ens.length + 1 ≤ c ∧ c ≤ maxLen from by
          rcases own.2 with ⟨e1, _⟩ | ⟨q1, c1, _, e1, _, _, h1, h2, _⟩
          · cases e1
          · obtain ⟨rfl, rfl⟩ : g = q1 ∧ c = c1 := by simpa using e1
            rw [hn] at h1; exact ⟨h1, h2⟩)
        have EC := Lib.hid ec
        have HRV := (HR.out.later KW.out).later hKc
        clear SY own own2 ec hn hpl LL CL CK
        go_wp2_with fail
        refine SL.out.mono ?_
        rintro e w6 ⟨rfl, ⟨dd, hR, hid⟩, hK6, hT⟩
        have P0 := (hT.cell po 0 plt png).trans p0
        have P1 := (hT.cell po 1 plt png).trans p1
        have P2 := (hT.cell po 2 plt png).trans p2
        have plt6 := Nat.lt_of_lt_of_le plt hT.size
        have rn : w.heap.size + 1 + 1 ≠ g := by omega
        obtain ⟨⟨r0', r1', r2', r3'⟩, f0', f1', f2'⟩ := HRV
        have r0 := Nat.lt_of_lt_of_le r0' hT.size
        have r1 := (hT.cell _ 0 r0' rn).trans r1'
        have r2 := (hT.cell _ 1 r0' rn).trans r2'
        have r3 := (hT.cell _ 2 r0' rn).trans r3'
        have f0 := (hT.free _ 0 r0' rn).trans f0'
        have f1 := (hT.free _ 1 r0' rn).trans f1'
        have f2 := (hT.free _ 2 r0' rn).trans f2'
        have RK := Lib.hid (hK6.set3 (p := w.heap.size + 1 + 1) (by omega) (.slice q.aa b.acs.length q.ca) (.slice (some ⟨g, 0, none⟩) (b.ens.length + 1) c) (.int .i64 b.shut))
        have RW := Lib.hid (((((hR.set rn (i := 0) (u := .slice q.aa b.acs.length q.ca)).set rn (i := 1) (u := .slice (some ⟨g, 0, none⟩) (b.ens.length + 1) c)).set rn (i := 2) (u := .int .i64 b.shut))).ens hid EC.out rfl RK.out)
        clear p0 p1 p2 hT hR hK6 r0' r1' r2' r3' f0' f1' f2' hid
        go_wp2
        exact bodyPost_ret (v := .tuple #[.agg #[.slice q.aa b.acs.length q.ca, .slice (some ⟨g, 0, none⟩) (b.ens.length + 1) c, .int .i64 b.shut], .int .i64 0]) (by simp [results, Tryz.results22, go_sem, r1, r2, r3]) rfl ⟨g, c, rfl, RW.out, CP.out.1, CP.out.2, RK.out⟩
end Go.Proofs.YtbaahnafmfjpaaaGreatDoor
