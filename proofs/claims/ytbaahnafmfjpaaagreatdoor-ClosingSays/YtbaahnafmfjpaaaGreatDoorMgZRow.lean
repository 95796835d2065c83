import Derived.Test.YtbaahnafmfjpaaaGreatDoorMgYWalkO
/-
  The row of entries that grows, its cells named: what clone and append leave. No condition but those that each theorem names.
-/
namespace Go.Proofs.YtbaahnafmfjpaaaGreatDoor
open Go.RowKit Go.WideShapes
set_option linter.unusedVariables false

/-- The row of entries that grows, and its cells. -/
def EGx (W : World) (B : Nat) (w : World) (v : Value) (l : List Et) (cs : List Value) : Prop := Enc W l cs ∧ w.ownsRow B 38 3 v l.length cs
theorem EGx.gr {W : World} {B : Nat} {w : World} {v : Value} {l : List Et} {cs : List Value} (h : EGx W B w v l cs) : EGr W B w v l := ⟨cs, h⟩
theorem EGx.lt {W : World} {B : Nat} {w : World} {v : Value} {l : List Et} {cs : List Value} (a : EGx W B w v l cs) : ∀ j, v.ownBlock = some j → B ≤ j ∧ j < w.heap.size := a.gr.lt
theorem EGx.later {W : World} {B : Nat} {w w' : World} {v : Value} {l : List Et} {cs : List Value} (a : EGx W B w v l cs) (k : Kept w w') : EGx W B w' v l cs := by
  obtain ⟨e, a⟩ := a
  refine ⟨e, a.1, ?_⟩
  rcases a.2 with h | ⟨b, cap, cur, rfl, hb, hh, hr⟩
  · exact .inl h
  · exact .inr ⟨b, cap, cur, rfl, hb, (k.block b (Array.getElem?_eq_some_iff.1 hh).1).trans hh, hr⟩
theorem EGx.mono {W : World} {A B : Nat} {w : World} {v : Value} {l : List Et} {cs : List Value} (a : EGx W B w v l cs) (h : A ≤ B) : EGx W A w v l cs := by
  obtain ⟨e, a⟩ := a
  refine ⟨e, a.1, ?_⟩
  rcases a.2 with h1 | ⟨b, cap, cur, e1, hb, hr⟩
  · exact .inl h1
  · exact .inr ⟨b, cap, cur, e1, by omega, hr⟩
theorem EGx.setFar {W : World} {B : Nat} {w : World} {g n c : Nat} {u : Value} {l : List Et} {cs : List Value} {p i : Nat} (a : EGx W B w (.slice (some ⟨g, 0, none⟩) n c) l cs) (hp : p ≠ g) : EGx W B (w.setCell ⟨p, i, none⟩ u) (.slice (some ⟨g, 0, none⟩) n c) l cs := by
  obtain ⟨e, a⟩ := a
  refine ⟨e, a.1, ?_⟩
  rcases a.2 with ⟨h, _⟩ | ⟨b, cap, cur, e1, hb, hh, hr⟩
  · cases h
  · refine .inr ⟨b, cap, cur, e1, hb, ?_, hr⟩
    obtain rfl : g = b := by simpa using (Value.slice.inj e1).1
    show (w.heap.modify p _)[g]? = _
    rw [Array.getElem?_modify, if_neg hp]
    exact hh
/-- The cells of a slice of entries. -/
def RowC (w : World) (a : Option Addr) (l : List Et) (cs : List Value) : Prop := Enc w l cs ∧ (l = [] ∨ ∃ p off, a = some ⟨p, off, none⟩ ∧ p < w.heap.size ∧ ∀ j v, cs[j]? = some v → w.cell? ⟨p, off + j, none⟩ = some v)
theorem EArg.cells {w : World} {a : Option Addr} {l : List Et} (h : EArg w a l) : ∃ cs, RowC w a l cs := by
  rcases h with h | ⟨p, off, e, h0, cs, h1, h2⟩
  · exact ⟨[], by rw [h]; exact rfl, .inl h⟩
  · exact ⟨cs, h1, .inr ⟨p, off, e, h0, h2⟩⟩
/-- The cells are the same wherever the slice lies as it lay. -/
theorem RowC.same {w0 V : World} {a : Option Addr} {l : List Et} {cs : List Value} (h : RowC w0 a l cs) (k : Kept w0 V) : RowC V a l cs := by
  obtain ⟨e, h⟩ := h
  refine ⟨e.later k, ?_⟩
  rcases h with h | ⟨p, off, ea, h0, h2⟩
  · exact .inl h
  · exact .inr ⟨p, off, ea, Nat.lt_of_lt_of_le h0 k.le, fun j v hj => (k.rd.1 _ _ h0).trans (h2 j v hj)⟩
theorem run_append_enx (w : World) {W : World} {B p off c : Nat} {v : Value} {l m : List Et} {cs cs0 : List Value} (ty : TypeId) (a : EGx W B w v l cs0) (e : Enc W m cs) (hR : ∀ j u, cs[j]? = some u → w.cell? ⟨p, off + j, none⟩ = some u) (hn : l.length + m.length ≤ 1000000) (hB : B ≤ w.heap.size) :
    ∃ v' w', (Builtin.append_ #[23, 23] ty #[v, .slice (some ⟨p, off, none⟩) m.length c]).run Tryz.prog w = .ok v' w' ∧ EGx W B w' v' (l ++ m) (cs0 ++ cs) ∧ w.grownBy w' v.ownBlock := by
  obtain ⟨e0, own⟩ := a
  obtain ⟨i0, hi, hz0, hz1, hz2⟩ := info_parts infoEn
  have h63 : l.length + m.length ≤ maxLen := by unfold maxLen; omega
  have hnews : ∀ (j : Nat) (u : Value), cs[j]? = some u → w.cell? ((⟨p, off, none⟩ : Addr).add j) = some u := fun j u hj => by
    have := hR j u hj
    rw [add_plain]; exact this
  obtain ⟨v', w', hr, h2, h3, h4⟩ := run_append_own (P := Tryz.prog) w B 23 ty 38 i0 _ 3 48 Tryz.underlying23 hi hz0 hz1 hz2 rfl (by decide) v l.length _ own ⟨p, off, none⟩ m.length c cs e.len hnews e.cell1 h63 (by omega) hB
  refine ⟨v', w', hr, ⟨e0.append e, ?_⟩, h3⟩
  rw [List.length_append]
  exact h2
theorem app_enx {w : World} {ops : Array Oper} {rest : List Oper} {o : Oper} {a : Act} {Q : Exit → Act → World → Prop} (hgd : o.guard = none) (s x : Operand)
    (ho : o.op = .call { callee := .builtin .append, args := #[s, x], argTypes := #[23, 23] }) {W : World} {B p off c : Nat} {v : Value} {l m : List Et} {cs cs0 : List Value}
    (hs : a.eval s = v) (hx : a.eval x = .slice (some ⟨p, off, none⟩) m.length c) (ha : EGx W B w v l cs0) (e : Enc W m cs) (hR : ∀ j u, cs[j]? = some u → w.cell? ⟨p, off + j, none⟩ = some u) (hn : l.length + m.length ≤ 1000000) (hB : B ≤ w.heap.size)
    (h : ∀ v' w', EGx W B w' v' (l ++ m) (cs0 ++ cs) → w.grownBy w' v.ownBlock → wpList Tryz.prog ops Q rest (a.put o.dst v') w') : wpList Tryz.prog ops Q (o :: rest) a w := by
  refine wpList_plain hgd fun _ hK => ?_
  obtain ⟨v', w', hr, h2, h3⟩ := run_append_enx (c := c) w o.type ha e hR hn hB
  unfold Oper.wp execOp
  simp only [ho, resolve, invoke, builtin, Sem.run_bind, Sem.run_pure, Result.andThen_ok, List.map_toArray, List.map_cons, List.map_nil, hs, hx, hr]
  exact hK _ _ (h v' w' h2 h3)
/-- What slices.Clone leaves of a row that lay there before. -/
def ClPostX (W w : World) (l : List Et) (cs : List Value) (e : Ending) (w' : World) : Prop := ∃ v, e = .returned v ∧ EGx W w.heap.size w' v l cs ∧ Kept w w'
theorem ClPostX.none {W w : World} {e : Ending} {w' : World} (h : ClPostE W w [] e w') : ClPostX W w [] [] e w' := by
  obtain ⟨v, e1, ⟨cs, e0, own⟩, k⟩ := h
  obtain rfl : cs = [] := e0
  exact ⟨v, e1, ⟨rfl, own⟩, k⟩
set_option maxHeartbeats 1000000 in
theorem xclone_some (W : World) (p off cap : Nat) (l : List Et) (cs : List Value) (w : World) (hW : Kept W w) (hn : l.length ≤ 1000) (plt : p < W.heap.size) (e : Enc W l cs) (hc : ∀ j v, cs[j]? = some v → W.cell? ⟨p, off + j, none⟩ = some v) :
    Calls Tryz.prog 47 #[.slice (some ⟨p, off, none⟩) l.length cap] w (ClPostX W w l cs) := by
  have ne : ∀ w : World, (binOp .eql 23 (.slice (some ⟨p, off, none⟩) l.length cap) (.slice none 0 0)).run Tryz.prog w = .ok (.bool false) w := fun w => by
    rw [Lib.run_eql_slice_nil w 23 38 _ l.length cap 0 0 Tryz.underlying23]; rfl
  have hE : EGx W w.heap.size (w.alloc (.cells #[] 38)) (.slice (some ⟨w.heap.size, 0, none⟩) 0 0) [] [] := ⟨rfl, by have := World.ownsRow_lit (base := w.heap.size) (e := 38) (size := 3) w #[] 0 (Nat.le_refl _) (by decide) rfl; simpa using this⟩
  have hK := (Kept.refl w).alloc (.cells #[] 38)
  have hc2 : ∀ j u, cs[j]? = some u → (w.alloc (.cells #[] 38)).cell? ⟨p, off + j, none⟩ = some u := fun j u hj => ((hW.trans hK).rd.1 _ _ plt).trans (hc j u hj)
  clear hc
  go_enter Tryz.func47, Tryz.ntmps47
  go_wp2_with (at_builtin; refine app_enx rfl _ _ rfl (B := w.heap.size) rfl rfl hE e hc2 (by simp; omega) (by have := hK.size; omega) ?_)
  intro v' w1 hG hgrow
  have hK1 : Kept w w1 := Below.grown hK hgrow hK.size (fun j ej => by have := (hE.lt j ej).1; omega)
  go_wp2
  go_ret
  exact ⟨v', rfl, by simpa using hG, hK1⟩
theorem xclone_at (W : World) (q : BkA) (b : Bk) (cs : List Value) (w : World) (hW : Kept W w) (hn : b.ens.length ≤ 60) (hC : RowC W q.ae b.ens cs) :
    Calls Tryz.prog 47 #[.slice q.ae b.ens.length q.ce] w (ClPostX W w b.ens cs) := by
  obtain ⟨e, h | ⟨p, off, ea, h0, h2⟩⟩ := hC
  · rw [h] at e ⊢
    obtain rfl : cs = [] := e
    exact (eclone_null W q.ae q.ce w hW).mono fun e w' h => ClPostX.none h
  · rw [ea]; exact xclone_some W p off q.ce b.ens cs w hW (by omega) h0 e h2
theorem step_growx {ops : Array Oper} {o : Oper} {a : Act} {K : Act → World → Prop} {Q : Exit → Act → World → Prop} {E : Prop} {W Y V : World} {B hb : Nat} {v va : Value} {l : List Et} {cs : List Value} {z : Et} (hgd : o.guard = none) (s t : Operand)
    (ho : o.op = .call { callee := .builtin .append, args := #[s, t], argTypes := #[23, 23] }) (hs : a.eval s = v) (hx : a.eval t = .slice (some ⟨hb, 0, none⟩) 1 1)
    (hG : EGx W B Y v l cs) (hY : Kept Y V) (hB : B ≤ Y.heap.size) (hL : LnA W va z.lns) (hX : EBx V hb z.key z.day va) (hm : l.length + 1 ≤ 1000000)
    (h : ∀ g cap w1, EGx W B w1 (.slice (some ⟨g, 0, none⟩) (l.length + 1) cap) (l ++ [z]) (cs ++ [.string z.key, .int .i64 z.day, va]) → V.grownBy w1 v.ownBlock → (v.ownBlock = some g ∨ g = V.heap.size) → g < w1.heap.size → K (a.put o.dst (.slice (some ⟨g, 0, none⟩) (l.length + 1) cap)) w1) :
    if Region.wanted o (yielded ops a.tmps) = true then Oper.wp Tryz.prog o a V K Q else E := by
  obtain ⟨e, own⟩ := hG.later hY
  obtain ⟨i0, hi, hz0, hz1, hz2⟩ := info_parts infoEn
  have hnews : ∀ (j : Nat) (u : Value), ([.string z.key, .int .i64 z.day, va] : List Value)[j]? = some u → V.cell? ((⟨hb, 0, none⟩ : Addr).add j) = some u := by
    intro j u hj
    match j, hj with
    | 0, hj => simp at hj; subst hj; simpa [Addr.add] using hX.c0
    | 1, hj => simp at hj; subst hj; simpa [Addr.add] using hX.c1
    | 2, hj => simp at hj; subst hj; simpa [Addr.add] using hX.c2
    | k + 3, hj => simp at hj
  refine step_append_lies (P := Tryz.prog) V hgd s t 23 ho B 38 i0 _ 3 48 Tryz.underlying23 hi hz0 hz1 hz2 rfl (by decide) v l.length cs hs own ⟨hb, 0, none⟩ 1 1 [.string z.key, .int .i64 z.day, va] hx rfl hnews (Enc.one hL).cell1 (by decide) (by unfold maxLen; omega) (by omega) (Nat.le_trans hB hY.le) V.heap.size rfl ?_
  intro g cap w1 h2 h3 h4 h5
  refine h g cap w1 ⟨e.append (Enc.one hL), ?_⟩ h3 h4 h5
  rw [List.length_append, List.length_singleton]
  exact h2
/-- The variable that holds the new book, and the row that grew. -/
def RSx (W wr : World) (b : Bk) (x : Et) (q : BkA) (cs : List Value) (s : Value) (wx : World) : Prop := ∃ po g c, s = .pointer (some ⟨po, 0, none⟩) ∧ EGx W wr.heap.size wx (.slice (some ⟨g, 0, none⟩) (b.ens.length + 1) c) (b.ens ++ [x]) cs ∧ po ≠ g ∧ po < wx.heap.size ∧
  wx.cell? ⟨po, 0, none⟩ = some (.slice q.aa b.acs.length q.ca) ∧ wx.cell? ⟨po, 1, none⟩ = some (.slice (some ⟨g, 0, none⟩) (b.ens.length + 1) c) ∧ wx.cell? ⟨po, 2, none⟩ = some (.int .i64 b.shut) ∧ Kept wr wx
theorem rsx_old {W wr w1 : World} {b : Bk} {x : Et} {q : BkA} {cs : List Value} {B po g c : Nat} (hA : VBk w1 po noA noB) (hG : EGx W B w1 (.slice (some ⟨g, 0, none⟩) (b.ens.length + 1) c) (b.ens ++ [x]) cs) (hB : wr.heap.size ≤ B) (hK : Kept wr w1) (hpo : wr.heap.size ≤ po) (ne : po ≠ g) :
    RSx W wr b x q cs (.pointer (some ⟨po, 0, none⟩)) (((w1.setCell ⟨po, 0, none⟩ (.slice q.aa b.acs.length q.ca)).setCell ⟨po, 1, none⟩ (.slice (some ⟨g, 0, none⟩) (b.ens.length + 1) c)).setCell ⟨po, 2, none⟩ (.int .i64 b.shut)) := by
  obtain ⟨⟨a, c0, c1, c2⟩, f0, f1, f2⟩ := hA
  refine ⟨po, g, c, rfl, (((hG.setFar ne).setFar ne).setFar ne).mono hB, ne, by simpa using a, ?_, ?_, ?_, hK.set3 hpo _ _ _⟩ <;> go_simp
theorem rsx_made {W wr w1 : World} {b : Bk} {x : Et} {q : BkA} {cs : List Value} {B g c : Nat} (hG : EGx W B w1 (.slice (some ⟨g, 0, none⟩) (b.ens.length + 1) c) (b.ens ++ [x]) cs) (hB : wr.heap.size ≤ B) (hK : Kept wr w1) (hg : g < w1.heap.size) :
    RSx W wr b x q cs (.pointer (some ⟨w1.heap.size, 0, none⟩)) (w1.alloc (.cells #[.slice q.aa b.acs.length q.ca, .slice (some ⟨g, 0, none⟩) (b.ens.length + 1) c, .int .i64 b.shut] 25)) :=
  ⟨w1.heap.size, g, c, rfl, (hG.later ((Kept.refl w1).alloc _)).mono hB, by omega, by simp, by simp, by simp, by simp, hK.alloc _⟩
end Go.Proofs.YtbaahnafmfjpaaaGreatDoor

/-
  The reference's Post, where a new entry goes in: with which cells the new row ends. No condition but those that each theorem names.
-/
namespace Go.Proofs.YtbaahnafmfjpaaaGreatDoor
open Go.RowKit
set_option linter.unusedVariables false

/-- The book with the entry in it, its row's cells by ranks. -/
def RpX (w : World) (q : BkA) (b : Bk) (x : Et) (cs : List Value) (e : Ending) (w' : World) : Prop := ∃ p c d, e = .returned (.tuple #[.agg #[.slice q.aa b.acs.length q.ca, .slice (some ⟨p, 0, none⟩) (b.ens.length + 1) c, .int .i64 b.shut], .int .i64 0]) ∧ YRow w' p (b.ens.length + 1) (rkC (b.ens.length + 1) (plI x b.ens) (b.ens ++ [x]) cs) d ∧ (∀ i, i < b.ens.length + 1 → d i = i) ∧ b.ens.length + 1 ≤ c ∧ c ≤ maxLen ∧ w.heap.size ≤ p ∧ Kept w w'
set_option maxRecDepth 100000 in
set_option maxHeartbeats 4000000 in
theorem rpost_cells (q : BkA) (b : Bk) (x : Et) (a : Option Addr) (cap : Nat) (cs : List Value) (w : World) (hC : RowC w q.ae b.ens cs) (hM : BkM w q b) (hx : EtM w x a cap) (gd : Good b) (en : enE x.key x.day x.lns = 0) (hk : ¬ kyI x.key b.ens < b.ens.length) (hacc : ∀ y ∈ x.lns, hasB y.1 b.acs = true) (hsh : ¬ x.day ≤ b.shut) (h60 : b.ens.length < 60) :
    Calls Tryz.prog 22 #[bkV q b, enV x.key x.day a x.lns.length cap] w (RpX w q b x (cs ++ [.string x.key, .int .i64 x.day, .slice a x.lns.length cap])) := by
  obtain ⟨x1, x2, x3, x4, x5, x6⟩ := id hx
  have kE := (((Kept.refl w).alloc (bkO q b)).alloc (enO x a cap)).alloc noBk
  have HB := Lib.hid ((BBx.new w q b).later (((Kept.refl (w.alloc (bkO q b))).alloc (enO x a cap)).alloc noBk))
  have HX := Lib.hid ((EBx.newAt (w := w.alloc (bkO q b)) (p := w.heap.size + 1) (by simp) x.key x.day (.slice a x.lns.length cap) 38).later ((Kept.refl ((w.alloc (bkO q b)).alloc (enO x a cap))).alloc noBk))
  have HR := Lib.hid (VBk.none ((w.alloc (bkO q b)).alloc (enO x a cap)) (w.heap.size + 1 + 1) (by simp))
  have EN := Lib.hid (fun V (k : Kept w V) => rentry_any x.key x.day a x.lns cap V x1 x2 (x3.later k) x4)
  rw [en] at EN
  have GT := Lib.hid (fun V (k : Kept w V) => (rget_any q b x.key V (hM.later k)).mono fun e w' h => show RgNo V e w' from by
    rcases h with ⟨h, _⟩ | ⟨_, h⟩
    · exact absurd h hk
    · exact h)
  have HM := Lib.hid hM
  have HC := Lib.hid hC
  have XA := Lib.hid x3
  have GD := Lib.hid gd
  have AC := Lib.hid hacc
  have KN := Lib.hid (show ∀ e ∈ b.ens, e.key ≠ x.key from fun e he h => hk (kyI_lt.2 ⟨e, he, h⟩))
  have sh : decide (x.day ≤ b.shut) = false := by simpa using hsh
  have g60 : decide ((60 : Int) ≤ (b.ens.length : Int)) = false := by simp; omega
  have g61 : decide (60 ≤ b.ens.length) = false := by simp; omega
  generalize hW : ((w.alloc (bkO q b)).alloc (enO x a cap)).alloc noBk = W at HB HX HR kE
  have HW := Lib.hid hW
  have HK := Lib.hid kE
  clear hM hC hx gd en hk hacc hW kE x3
  obtain ⟨b0, b1, b2, b3⟩ := HB.out
  obtain ⟨e0, e1, e2, e3⟩ := HX.out
  go_enter Tryz.func22, Tryz.ntmps22
  go_wp2_with fail
  rw [HW.out]
  refine (EN.out W HK.out).mono ?_
  rintro e w1 ⟨rfl, hK1⟩
  have K1 := Lib.hid hK1
  clear b0 b1 b2 b3 e0 e1 e2 e3 hK1
  obtain ⟨b0, b1, b2, b3⟩ := HB.out.later K1.out
  obtain ⟨e0, e1, e2, e3⟩ := HX.out.later K1.out
  go_wp2_with fail
  refine (GT.out w1 (HK.out.trans K1.out)).mono ?_
  rintro e w2 ⟨rfl, hK2⟩
  have K2 := Lib.hid (K1.out.trans (hK2.alloc noEn))
  have K2' := K1.out.trans hK2
  clear b0 b1 b2 b3 e0 e1 e2 e3 hK2 EN GT K1
  obtain ⟨e0, e1, e2, e3⟩ := HX.out.later K2'
  go_wp2
  clear e0 e1 e2 e3 K2'
  generalize w2.alloc noEn = w3 at *
  go_loopw [34] (fun s wr => ∃ j : Nat, j ≤ x.lns.length ∧ s = .int .i64 j ∧ Kept w3 wr) (fun s _ => (x.lns.length - intOf s).toNat)
  case atStart => exact ⟨0, Nat.zero_le _, rfl, Kept.refl _⟩
  case round =>
    obtain ⟨j, hj, rfl, hK⟩ := hrel
    have KW := Lib.hid (K2.out.trans hK)
    have K0 := Lib.hid (HK.out.trans KW.out)
    by_cases hlt : j < x.lns.length
    · obtain ⟨p2, off2, hp2, hR2⟩ := (XA.out.later K0.out).at hlt
      have c0 := hR2.c0 j hlt
      have c1 := hR2.c1 j hlt
      have plt := hR2.lt
      have hz := AC.out _ (List.getElem_mem hlt)
      clear hR2
      subst hp2
      generalize x.lns[j] = y at *
      have kL := (Kept.refl wr).alloc (.cells #[.string y.1, .int .i64 y.2] 48)
      have HS := Lib.hid (rhas_any y.1 b.acs q.aa q.ca _ (by have := HM.out.la; have := HM.out.lca; omega) ((HM.out.later (K0.out.trans kL)).acs))
      rw [hz] at HS
      obtain ⟨b0, b1, b2, b3⟩ := HB.out.later KW.out
      have KL := Lib.hid (hK.trans kL)
      have HLT := Lib.hid hlt
      have u1 : IntKind.i64.wrap ((j : Int) + 1) = (j : Int) + 1 := IntWalk.i64_in _ (by have := x2; unfold maxLen at this; omega)
      clear kL hz
      go_wp2_with fail
      refine HS.out.mono ?_
      rintro e w5 ⟨rfl, hK5⟩
      have KF := Lib.hid (KL.out.trans hK5)
      clear b0 b1 b2 b3 c0 c1 plt hK5
      go_wp2
      go_roundw
      case rel => exact ⟨j + 1, HLT.out, by go_num, KF.out⟩
      case measure => have := HLT.out; simp [intOf]; omega
    · obtain rfl : j = x.lns.length := by omega
      clear hlt
      obtain ⟨b0, b1, b2, b3⟩ := HB.out.later KW.out
      obtain ⟨e0, e1, e2, e3⟩ := HX.out.later KW.out
      go_wp2_with fail
      clear b0 b1 b2 b3 e0 e1 e2 e3
      have LL := Lib.hid (show LnA w (.slice a x.lns.length cap) x.lns from ⟨a, cap, rfl, x5, x6, XA.out⟩)
      have CL := Lib.hid (fun V (k : Kept wr V) => (xclone_at w q b cs V (K0.out.trans k) (by omega) HC.out).mono fun e w' h => show ClPostX w V b.ens cs e w' ∧ wr.heap.size ≤ V.heap.size from ⟨h, k.le⟩)
      have CK := Lib.hid (fun V (k : Kept wr V) => show Kept wr V ∧ (V.cell? ⟨w.heap.size, 0, none⟩ = some (.slice q.aa b.acs.length q.ca) ∧ V.cell? ⟨w.heap.size, 1, none⟩ = some (.slice q.ae b.ens.length q.ce) ∧ V.cell? ⟨w.heap.size, 2, none⟩ = some (.int .i64 b.shut)) ∧ (V.cell? ⟨w.heap.size + 1, 0, none⟩ = some (.string x.key) ∧ V.cell? ⟨w.heap.size + 1, 1, none⟩ = some (.int .i64 x.day) ∧ V.cell? ⟨w.heap.size + 1, 2, none⟩ = some (.slice a x.lns.length cap)) from
        ⟨k, ⟨(HB.out.later (KW.out.trans k)).c0, (HB.out.later (KW.out.trans k)).c1, (HB.out.later (KW.out.trans k)).c2⟩, ⟨(HX.out.later (KW.out.trans k)).c0, (HX.out.later (KW.out.trans k)).c1, (HX.out.later (KW.out.trans k)).c2⟩⟩)
      go_cut [11] (fun s wx => RSx w wr b x q (cs ++ [.string x.key, .int .i64 x.day, .slice a x.lns.length cap]) s wx)
      case first =>
        go_region_held3 (fun w' => Kept wr w' ∧ (w'.cell? ⟨w.heap.size, 0, none⟩ = some (.slice q.aa b.acs.length q.ca) ∧ w'.cell? ⟨w.heap.size, 1, none⟩ = some (.slice q.ae b.ens.length q.ce) ∧ w'.cell? ⟨w.heap.size, 2, none⟩ = some (.int .i64 b.shut)) ∧ (w'.cell? ⟨w.heap.size + 1, 0, none⟩ = some (.string x.key) ∧ w'.cell? ⟨w.heap.size + 1, 1, none⟩ = some (.int .i64 x.day) ∧ w'.cell? ⟨w.heap.size + 1, 2, none⟩ = some (.slice a x.lns.length cap)))
          (first | (refine CK.out _ ?_; repeat' (first | (with_reducible assumption) | (with_reducible refine Kept.drew ?_) | (with_reducible refine Kept.alloc ?_ _) | (with_reducible refine Kept.setAt ?_ ?_ _) | (with_reducible exact Kept.refl _) | omega)))
          (first
            | (go_at_call 47; refine (CL.out _ (And.left (by assumption))).mono ?_; rintro e w' ⟨⟨v, rfl, hG, hkC⟩, hle0⟩; have hKa := Kept.trans (a := wr) (And.left (by assumption)) hkC; have hle1 := hKa.le; have hGl := hG.lt)
            | (refine step_growx rfl (.tmp 63) (.tmp 65) rfl rfl rfl hG (by repeat' (first | (with_reducible exact Kept.refl _) | (with_reducible refine Kept.drew ?_) | (with_reducible refine Kept.alloc ?_ _))) hkC.le LL.out (by repeat' (first | (with_reducible refine EBx.newAt ?_ _ _ _ _; (first | rfl | (simp; done))) | (with_reducible refine EBx.allocd ?_ _) | (with_reducible refine EBx.drewd ?_) | (with_reducible refine EBx.later ?_ hkC))) (by omega) ?_; intro g cap2 w1 hG1 hgr hown hlt; have hK1 : Kept wr w1 := Below.grown (And.left (by assumption)) hgr (Kept.le (And.left (by assumption))) (fun j ej => Nat.le_trans hle0 (hGl j ej).1); have hle2 := hK1.le; (first | (have hA1 := vb_far (by first | (with_reducible exact vb_none _) | (with_reducible exact VBk.drewd (vb_none _)) | (with_reducible exact VBk.allocd (vb_none _) _) | (with_reducible exact VBk.allocd (VBk.drewd (vb_none _)) _) | (with_reducible exact VBk.drewd (VBk.allocd (vb_none _) _)) | (with_reducible exact VBk.drewd (VBk.allocd (VBk.drewd (vb_none _)) _)) | (with_reducible exact VBk.later (vb_none _) hkC) | (with_reducible exact VBk.drewd (VBk.later (vb_none _) hkC)) | (with_reducible exact VBk.allocd (VBk.later (vb_none _) hkC) _) | (with_reducible exact VBk.allocd (VBk.drewd (VBk.later (vb_none _) hkC)) _) | (with_reducible exact VBk.drewd (VBk.allocd (VBk.later (vb_none _) hkC) _)) | (with_reducible exact VBk.later (VBk.drewd (vb_none _)) hkC) | (with_reducible exact VBk.drewd (VBk.later (VBk.drewd (vb_none _)) hkC)) | (with_reducible exact VBk.allocd (VBk.later (VBk.drewd (vb_none _)) hkC) _) | (with_reducible exact VBk.allocd (VBk.drewd (VBk.later (VBk.drewd (vb_none _)) hkC)) _) | (with_reducible exact VBk.drewd (VBk.allocd (VBk.later (VBk.drewd (vb_none _)) hkC) _)) | (with_reducible exact VBk.later (VBk.allocd (vb_none _) _) hkC) | (with_reducible exact VBk.drewd (VBk.later (VBk.allocd (vb_none _) _) hkC)) | (with_reducible exact VBk.allocd (VBk.later (VBk.allocd (vb_none _) _) hkC) _) | (with_reducible exact VBk.allocd (VBk.drewd (VBk.later (VBk.allocd (vb_none _) _) hkC)) _) | (with_reducible exact VBk.drewd (VBk.allocd (VBk.later (VBk.allocd (vb_none _) _) hkC) _)) | (with_reducible exact VBk.later (VBk.allocd (VBk.drewd (vb_none _)) _) hkC) | (with_reducible exact VBk.drewd (VBk.later (VBk.allocd (VBk.drewd (vb_none _)) _) hkC)) | (with_reducible exact VBk.allocd (VBk.later (VBk.allocd (VBk.drewd (vb_none _)) _) hkC) _) | (with_reducible exact VBk.allocd (VBk.drewd (VBk.later (VBk.allocd (VBk.drewd (vb_none _)) _) hkC)) _) | (with_reducible exact VBk.drewd (VBk.allocd (VBk.later (VBk.allocd (VBk.drewd (vb_none _)) _) hkC) _)) | (with_reducible exact VBk.later (VBk.drewd (VBk.allocd (vb_none _) _)) hkC) | (with_reducible exact VBk.drewd (VBk.later (VBk.drewd (VBk.allocd (vb_none _) _)) hkC)) | (with_reducible exact VBk.allocd (VBk.later (VBk.drewd (VBk.allocd (vb_none _) _)) hkC) _) | (with_reducible exact VBk.allocd (VBk.drewd (VBk.later (VBk.drewd (VBk.allocd (vb_none _) _)) hkC)) _) | (with_reducible exact VBk.drewd (VBk.allocd (VBk.later (VBk.drewd (VBk.allocd (vb_none _) _)) hkC) _)) | (with_reducible exact VBk.later (VBk.drewd (VBk.allocd (VBk.drewd (vb_none _)) _)) hkC) | (with_reducible exact VBk.drewd (VBk.later (VBk.drewd (VBk.allocd (VBk.drewd (vb_none _)) _)) hkC)) | (with_reducible exact VBk.allocd (VBk.later (VBk.drewd (VBk.allocd (VBk.drewd (vb_none _)) _)) hkC) _) | (with_reducible exact VBk.allocd (VBk.drewd (VBk.later (VBk.drewd (VBk.allocd (VBk.drewd (vb_none _)) _)) hkC)) _) | (with_reducible exact VBk.drewd (VBk.allocd (VBk.later (VBk.drewd (VBk.allocd (VBk.drewd (vb_none _)) _)) hkC) _))) hgr hown (fun e => by have h9 := hGl _ e; (first | (exfalso; simp at h9; done) | omega | (simp at h9; omega))); obtain ⟨hA2, hA3⟩ := hA1; (try simp at hA2); (try simp at hA3); obtain ⟨⟨_, _, _, _⟩, _, _, _⟩ := id hA2) | skip)))
        all_goals go_wp2_with fail
        all_goals go_meet
        all_goals first
          | exact rsx_old hA2 hG1 hle0 hK1 (by first | exact Nat.le_refl _ | (simp; done) | (have h9 := hKa.le; omega) | (have h9 := hKa.le; simp; omega)) hA3
          | exact rsx_made hG1 hle0 hK1 hlt
      case rest =>
        obtain ⟨po, g, c, rfl, hG, png, plt, p0, p1, p2, hKc⟩ := hcut
        obtain ⟨V, rfl⟩ : ∃ V : World, V = wc := ⟨_, rfl⟩
        have gle := (hG.lt g rfl).1
        obtain ⟨ec, own⟩ := hG
        generalize hcs : cs ++ [.string x.key, .int .i64 x.day, .slice a x.lns.length cap] = cz at *
        have hn : (b.ens ++ [x]).length = b.ens.length + 1 := by simp
        have own2 : V.ownsRow wr.heap.size 38 3 (.slice (some ⟨g, 0, none⟩) (b.ens ++ [x]).length c) (b.ens ++ [x]).length cz := by rw [hn]; rw [hn] at own; exact own
        have hpl : plI x b.ens < b.ens.length + 1 := by have := plI_le x b.ens; omega
        have sR := (HR.out.later KW.out).box.lt
        have gge : w.heap.size + 1 + 1 < g := by omega
        have SY : Sy w V g (b.ens.length + 1) po c (rkC (b.ens.length + 1) (plI x b.ens) (b.ens ++ [x]) cz) (lastD (b.ens.length + 1) (plI x b.ens)) :=
          ⟨EGr.ranks ec own2 hn hpl, p1, plt, png, by omega, K0.out.trans hKc⟩
        have SL := Lib.hid (slice_rows ec GD.out.srt KN.out h60 SY)
        have CP := Lib.hid (show b.ens.length + 1 ≤ c ∧ c ≤ maxLen from by
          rcases own.2 with ⟨e1, _⟩ | ⟨q1, c1, _, e1, _, _, h1, h2, _⟩
          · cases e1
          · obtain ⟨rfl, rfl⟩ : g = q1 ∧ c = c1 := by simpa using e1
            rw [hn] at h1; exact ⟨h1, h2⟩)
        have EC := Lib.hid ec
        have HRV := (HR.out.later KW.out).later hKc
        clear SY own own2 ec hn hpl LL CL CK
        go_wp2_with fail
        refine SL.out.mono ?_
        rintro e w6 ⟨rfl, ⟨dd, hR, hid⟩, hK6, hT⟩
        have P0 := (hT.cell po 0 plt png).trans p0
        have P1 := (hT.cell po 1 plt png).trans p1
        have P2 := (hT.cell po 2 plt png).trans p2
        have plt6 := Nat.lt_of_lt_of_le plt hT.size
        have rn : w.heap.size + 1 + 1 ≠ g := by omega
        obtain ⟨⟨r0', r1', r2', r3'⟩, f0', f1', f2'⟩ := HRV
        have r0 := Nat.lt_of_lt_of_le r0' hT.size
        have r1 := (hT.cell _ 0 r0' rn).trans r1'
        have r2 := (hT.cell _ 1 r0' rn).trans r2'
        have r3 := (hT.cell _ 2 r0' rn).trans r3'
        have f0 := (hT.free _ 0 r0' rn).trans f0'
        have f1 := (hT.free _ 1 r0' rn).trans f1'
        have f2 := (hT.free _ 2 r0' rn).trans f2'
        have RK := Lib.hid (hK6.set3 (p := w.heap.size + 1 + 1) (by omega) (.slice q.aa b.acs.length q.ca) (.slice (some ⟨g, 0, none⟩) (b.ens.length + 1) c) (.int .i64 b.shut))
        have RW := Lib.hid ((((hR.set rn (i := 0) (u := .slice q.aa b.acs.length q.ca)).set rn (i := 1) (u := .slice (some ⟨g, 0, none⟩) (b.ens.length + 1) c)).set rn (i := 2) (u := .int .i64 b.shut)))
        have HI := Lib.hid hid
        clear p0 p1 p2 hT hR hK6 r0' r1' r2' r3' f0' f1' f2' hid
        go_wp2
        exact bodyPost_ret (v := .tuple #[.agg #[.slice q.aa b.acs.length q.ca, .slice (some ⟨g, 0, none⟩) (b.ens.length + 1) c, .int .i64 b.shut], .int .i64 0]) (by simp [results, Tryz.results22, go_sem, r1, r2, r3]) rfl ⟨g, c, dd, rfl, RW.out, HI.out, CP.out.1, CP.out.2, by omega, RK.out⟩
/-- The book that was posted, in a later world in which the first one and the entry lie. -/
theorem RowC.book {V : World} {q : BkA} {b : Bk} {x : Et} {a : Option Addr} {cap p c : Nat} {cs : List Value} {d : Nat → Nat} (hC : RowC V q.ae b.ens cs) (hM : BkM V q b) (hx : EtM V x a cap)
    (hR : YRow V p (b.ens.length + 1) (rkC (b.ens.length + 1) (plI x b.ens) (b.ens ++ [x]) (cs ++ [.string x.key, .int .i64 x.day, .slice a x.lns.length cap])) d) (hd : ∀ i, i < b.ens.length + 1 → d i = i) (h1 : b.ens.length + 1 ≤ c) (h2 : c ≤ maxLen) :
    BkM V ⟨q.aa, q.ca, some ⟨p, 0, none⟩, c⟩ ⟨b.acs, insE x b.ens, b.shut⟩ := by
  have E : Enc V (b.ens ++ [x]) (cs ++ [.string x.key, .int .i64 x.day, .slice a x.lns.length cap]) := hC.1.append (Enc.one ⟨a, cap, rfl, hx.le, hx.cap, hx.lns⟩)
  refine ⟨hM.acs, hM.sha, hM.la, hM.lca, .inr ⟨p, 0, rfl, hR.ens hd E rfl (Kept.refl V)⟩, fun y hy => ?_, (by rw [insE_len]; exact h1), h2⟩
  rcases insE_mem.1 hy with rfl | hy
  · exact ⟨hx.key, hx.len, hx.sh⟩
  · exact hM.she y hy
end Go.Proofs.YtbaahnafmfjpaaaGreatDoor

/-
  The reference's Post, at every input, to a good book: where the answer lies, so far as a later store must know it. No condition but those that each theorem names.
-/
namespace Go.Proofs.YtbaahnafmfjpaaaGreatDoor
open Go.RowKit
set_option linter.unusedVariables false

/-- What lies from a block on is the same. -/
structure Far (B : Nat) (w V : World) : Prop where
  size : w.heap.size ≤ V.heap.size
  cell : ∀ b o, B ≤ b → b < w.heap.size → V.cell? ⟨b, o, none⟩ = w.cell? ⟨b, o, none⟩
  free : ∀ b o, B ≤ b → b < w.heap.size → V.frozen? ⟨b, o, none⟩ = w.frozen? ⟨b, o, none⟩
theorem Far.refl (B : Nat) (w : World) : Far B w w := ⟨Nat.le_refl _, fun _ _ _ _ => rfl, fun _ _ _ _ => rfl⟩
theorem Far.set {B : Nat} {w V : World} (h : Far B w V) {r i : Nat} (hr : r < B) (u : Value) : Far B w (V.setCell ⟨r, i, none⟩ u) := by
  refine ⟨by simpa using h.size, fun b o hb hw => ?_, fun b o hb hw => ?_⟩
  · have := h.cell b o hb hw
    have hn : b ≠ r := by omega
    go_simp
  · have := h.free b o hb hw
    simpa using this
theorem YRow.far {B : Nat} {w V : World} {p N : Nat} {C : En} {d : Nat → Nat} (h : YRow w p N C d) (f : Far B w V) (hp : B ≤ p) : YRow V p N C d :=
  ⟨Nat.lt_of_lt_of_le h.lt f.size, fun j hj => (f.cell _ _ hp h.lt).trans (h.c0 j hj), fun j hj => (f.cell _ _ hp h.lt).trans (h.c1 j hj), fun j hj => (f.cell _ _ hp h.lt).trans (h.c2 j hj), fun o ho => (f.free _ _ hp h.lt).trans (h.fr o ho)⟩
/-- A book and an error: the book lies at every later world in which what was handed in, and what the call made, lies as it lay. -/
def RpRob (w0 w : World) (x : Et) (a : Option Addr) (cap : Nat) (y : Bk) (er : Int) (e : Ending) (w' : World) : Prop :=
  ∃ q, e = .returned (.tuple #[bkV q y, .int .i64 er]) ∧ Kept w w' ∧ ∀ V, Kept w0 V → EtM V x a cap → Far w.heap.size w' V → BkM V q y
theorem RpRob.no {w0 w w' : World} {x : Et} {a : Option Addr} {cap : Nat} {er : Int} {e : Ending} (h : BkNo w er e w') : RpRob w0 w x a cap noB er e w' := ⟨noA, h.1, h.2, fun V _ _ _ => noB_mz V⟩
theorem rpost_rob (w0 : World) (q : BkA) (b : Bk) (x : Et) (a : Option Addr) (cap : Nat) (w : World) (h0 : BkM w0 q b) (k0 : Kept w0 w) (hx : EtM w x a cap) (gd : Good b) :
    Calls Tryz.prog 22 #[bkV q b, enV x.key x.day a x.lns.length cap] w (RpRob w0 w x a cap (poY b x) (poE b x)) := by
  have hM := h0.later k0
  have P : ∀ r, poE b x = r → r ≠ 0 → poY b x = noB ∧ poE b x = r := fun r h h0 => ⟨by unfold poY; rw [if_neg (by rw [h]; exact h0)], h⟩
  have go : ∀ r, poE b x = r → r ≠ 0 → Calls Tryz.prog 22 #[bkV q b, enV x.key x.day a x.lns.length cap] w (BkNo w r) → Calls Tryz.prog 22 #[bkV q b, enV x.key x.day a x.lns.length cap] w (RpRob w0 w x a cap (poY b x) (poE b x)) := fun r h h0 hc => by
    rw [(P r h h0).1, (P r h h0).2]
    exact hc.mono fun e w' h => RpRob.no h
  have b0 := bkE_iff.2 gd
  by_cases en : enE x.key x.day x.lns = 0
  · by_cases hk : kyI x.key b.ens < b.ens.length
    · have E : poE b x = if smB b.ens[kyI x.key b.ens] x = true then 0 else 5 := by unfold poE; rw [if_pos b0, if_pos en, dif_pos hk]
      have S : smB x b.ens[kyI x.key b.ens] = smB b.ens[kyI x.key b.ens] x := by
        rw [Bool.eq_iff_iff, smB_iff, smB_iff]; exact ⟨fun h => h.symm, fun h => h.symm⟩
      cases sm : smB b.ens[kyI x.key b.ens] x
      · rw [sm] at E S
        exact go 5 (by rw [E]; rfl) (by decide) (rpost_there q b x a cap w hM hx gd en hk S)
      · rw [sm] at E S
        have E0 : poE b x = 0 := by rw [E]; rfl
        have Y : poY b x = b := by unfold poY; rw [if_pos E0]; unfold poV; rw [if_pos hk]
        rw [Y, E0]
        exact (rpost_old q b x a cap w hM hx gd en hk S).mono fun e w' h => ⟨q, h.1, h.2, fun V kV _ _ => h0.later kV⟩
    · have E : poE b x = nwE b x := by unfold poE; rw [if_pos b0, if_pos en, dif_neg hk]
      cases na : allA b.acs x.lns
      · exact go 4 (by rw [E]; unfold nwE; rw [if_neg (by rw [na]; simp)]) (by decide) (rpost_none q b x a cap w hM hx en hk na)
      · have hacc := allA_iff.1 na
        by_cases hsh : x.day ≤ b.shut
        · exact go 9 (by rw [E]; unfold nwE; rw [if_pos na, if_pos hsh]) (by decide) (rpost_shut q b x a cap w hM hx en hk hacc hsh)
        · by_cases h60 : 60 ≤ b.ens.length
          · exact go 2 (by rw [E]; unfold nwE; rw [if_pos na, if_neg hsh, if_pos h60]) (by decide) (rpost_large q b x a cap w hM hx en hk hacc hsh h60)
          · have E0 : poE b x = 0 := by rw [E]; unfold nwE; rw [if_pos na, if_neg hsh, if_neg h60]
            have Y : poY b x = ⟨b.acs, insE x b.ens, b.shut⟩ := by unfold poY; rw [if_pos E0]; unfold poV; rw [if_neg hk]
            rw [Y, E0]
            obtain ⟨cs, hC⟩ := h0.ens.cells
            refine (rpost_cells q b x a cap cs w (hC.same k0) hM hx gd en hk hacc hsh (by omega)).mono fun e w' h => ?_
            obtain ⟨p, c, d, rfl, hR, hd, h1, h2, hp, hK⟩ := h
            exact ⟨⟨q.aa, q.ca, some ⟨p, 0, none⟩, c⟩, by show _ = Ending.returned (.tuple #[.agg #[_, .slice _ (insE x b.ens).length _, _], _]); rw [insE_len], hK, fun V kV hxV hF => (hC.same kV).book (h0.later kV) hxV (hR.far hF hp) hd h1 h2⟩
  · exact go _ (by unfold poE; rw [if_pos b0, if_neg en]) en (rpost_en q b x a cap w hM hx en)
end Go.Proofs.YtbaahnafmfjpaaaGreatDoor
