/-
  What the library's order2_func, median_func and medianAdjacent_func find in the row of entries. No condition but those that each theorem names.
-/
import Derived.Test.YtbaahnafmfjpaaaGreatDoorYWalkA
namespace Go.Proofs.YtbaahnafmfjpaaaGreatDoor
open Go.RowKit
set_option linter.unusedVariables false

/-- What the sort is handed: the order, and the exchange. -/
abbrev lessW (bx : Nat) : Value := .func (.func 49) #[] #[.pointer (some ⟨bx, 0, none⟩)]
abbrev swapW (sf : Nat) (sb : Array Value) : Value := .func (.func sf) #[] sb
/-- The variable that holds both. -/
structure FY (w : World) (b : Nat) (lv sv : Value) : Prop where
  lt : b < w.heap.size
  c0 : w.cell? ⟨b, 0, none⟩ = some lv
  c1 : w.cell? ⟨b, 1, none⟩ = some sv
theorem FY.turn {p : Nat} {w w' : World} {b : Nat} {lv sv : Value} (h : FY w b lv sv) (k : Turn p w w') (ne : b ≠ p) : FY w' b lv sv :=
  ⟨Nat.lt_of_lt_of_le h.lt k.size, (k.cell _ _ h.lt ne).trans h.c0, (k.cell _ _ h.lt ne).trans h.c1⟩
theorem FY.new {w : World} {lv sv : Value} {t : TypeId} : FY (w.alloc (.cells #[lv, sv] t)) w.heap.size lv sv := ⟨by simp, by simp, by simp⟩
/-- Ranks are ranks. -/
def InY (N : Nat) (d : Nat → Nat) : Prop := ∀ i, i < N → d i < N
theorem InY.sw {N : Nat} {d : Nat → Nat} (h : InY N d) {i j : Nat} (hi : i < N) (hj : j < N) : InY N (swD d i j) := by
  intro q hq
  rw [swD_at]
  split
  · exact h j hj
  · split
    · exact h i hi
    · exact h q hq
/-- All that is known while the sort goes on. -/
structure EnvY (B : World) (p N bx cap : Nat) (C : En) (sf : Nat) (sb : Array Value) : Prop where
  hN : N ≤ 1000000
  key : ∀ x y : Nat, x < N → y < N → beY (C.d x) (C.k x) (C.d y) (C.k y) = Nat.blt x y
  swp : SwapY B p N bx cap C sf sb
theorem EnvY.less {B w : World} {p N bx cap : Nat} {C : En} {sf : Nat} {sb : Array Value} {d : Nat → Nat} (E : EnvY B p N bx cap C sf sb) (hI : InY N d) (hS : Sy B w p N bx cap C d) (i j : Nat) (x y : Int) (hx : x = i) (hy : y = j) (hi : i < N) (hj : j < N) :
    Calls Tryz.prog 49 #[.int .i64 x, .int .i64 y, .pointer (some ⟨bx, 0, none⟩)] w fun e w' => e = .returned (.bool (lsD d i j)) ∧ Kept w w' := by
  subst hx hy
  have e := E.key _ _ (hI i hi) (hI j hj)
  show Calls _ _ _ _ fun e w' => e = .returned (.bool (Nat.blt (d i) (d j))) ∧ Kept w w'
  rw [← e]
  exact lessY_any B w p N bx cap C d i j hi hj E.hN hS
theorem EnvY.swap {B w : World} {p N bx cap : Nat} {C : En} {sf : Nat} {sb : Array Value} {d : Nat → Nat} (E : EnvY B p N bx cap C sf sb) (hS : Sy B w p N bx cap C d) (i j : Nat) (x y : Int) (hx : x = i) (hy : y = j) (hi : i < N) (hj : j < N) (ij : i ≠ j) :
    ∃ w2, (callFunc sf (#[.int .i64 x, .int .i64 y] ++ sb)).run Tryz.prog w = .ok (.value (.tuple #[])) w2 ∧ Sy B w2 p N bx cap C (swD d i j) ∧ Turn p w w2 := by
  subst hx hy
  exact E.swp w d i j hi hj ij hS
/-- What is so behind a call that turns the row alone. -/
def WrY (B w : World) (p N bx cap : Nat) (C : En) (d : Nat → Nat) (e : Ending) (w' : World) : Prop := e = .returned (.tuple #[]) ∧ Sy B w' p N bx cap C d ∧ Turn p w w'
/-- The variable that counts. -/
structure Cb (w : World) (b : Nat) (s : Nat) : Prop where
  lt : b < w.heap.size
  c0 : w.cell? ⟨b, 0, none⟩ = some (.int .i64 (s : Int))
  f0 : w.frozen? ⟨b, 0, none⟩ = false
theorem Cb.later {w w' : World} {b s : Nat} (h : Cb w b s) (k : Kept w w') : Cb w' b s := ⟨Nat.lt_of_lt_of_le h.lt k.le, (k.rd.1 _ _ h.lt).trans h.c0, (k.rd.2 _ _ h.lt).trans h.f0⟩
theorem Cb.put {w : World} {b s : Nat} (h : Cb w b s) (t : Nat) : Cb (w.setCell ⟨b, 0, none⟩ (.int .i64 (t : Int))) b t := by
  obtain ⟨h1, h2, h3⟩ := h
  exact ⟨by simpa using h1, by go_simp, by go_simp⟩
theorem Turn.put (w : World) (b : Nat) (v : Value) : Turn b w (w.setCell ⟨b, 0, none⟩ v) := by
  refine ⟨by simp, fun x o hx hp => ?_, fun x o hx hp => ?_⟩
  · go_simp
  · go_simp
theorem YRow.put {w : World} {p N b : Nat} {C : En} {d : Nat → Nat} {v : Value} (h : YRow w p N C d) (hb : b ≠ p) : YRow (w.setCell ⟨b, 0, none⟩ v) p N C d := by
  have T := Turn.put w b v
  exact ⟨Nat.lt_of_lt_of_le h.lt T.size, fun j hj => (T.cell _ _ h.lt (Ne.symm hb)).trans (h.c0 j hj), fun j hj => (T.cell _ _ h.lt (Ne.symm hb)).trans (h.c1 j hj), fun j hj => (T.cell _ _ h.lt (Ne.symm hb)).trans (h.c2 j hj), fun o ho => (T.free _ _ h.lt (Ne.symm hb)).trans (h.fr o ho)⟩
theorem Sy.put {B w : World} {p N bx cap b : Nat} {C : En} {d : Nat → Nat} {v : Value} (h : Sy B w p N bx cap C d) (hB : B.heap.size ≤ b) (n1 : b ≠ p) (n2 : b ≠ bx) : Sy B (w.setCell ⟨b, 0, none⟩ v) p N bx cap C d := by
  have T := Turn.put w b v
  exact ⟨h.row.put n1, (T.cell _ _ h.blt (Ne.symm n2)).trans h.box, Nat.lt_of_lt_of_le h.blt T.size, h.ne, h.hp, h.kept.setAt (i := 0) hB v⟩
/-- What the finders leave: the row, the count; all else as it was. -/
def FnY (B w : World) (p N bx cap cb : Nat) (C : En) (d : Nat → Nat) (v : Value) (s : Nat) (e : Ending) (w' : World) : Prop := e = .returned v ∧ Sy B w' p N bx cap C d ∧ Cb w' cb s ∧ Turn cb w w'
section
variable {B w : World} {p N bx cap cb : Nat} {C : En} {sf : Nat} {sb : Array Value} {d : Nat → Nat}
set_option maxRecDepth 100000 in
set_option maxHeartbeats 2000000 in
theorem order2_any (E : EnvY B p N bx cap C sf sb) (a b s : Nat) (x y : Int) (hx : x = a) (hy : y = b) (ha : a < N) (hb : b < N) (hI : InY N d) (hS : Sy B w p N bx cap C d) (hC : Cb w cb s) (hB : B.heap.size ≤ cb) (n1 : cb ≠ p) (n2 : cb ≠ bx) (hs : s ≤ 100) :
    Calls Tryz.prog 120 #[.agg #[lessW bx, swapW sf sb], .int .i64 x, .int .i64 y, .pointer (some ⟨cb, 0, none⟩)] w (FnY B w p N bx cap cb C d (.tuple #[.int .i64 (or2X d a b : Nat), .int .i64 (or2Y d a b : Nat)]) (s + or2S d a b)) := by
  subst hx hy
  have hF := FY.new (w := w) (lv := lessW bx) (sv := swapW sf sb) (t := 99)
  have hK := (Kept.refl w).alloc (.cells #[lessW bx, swapW sf sb] 99)
  have LS := Lib.hid (E.less hI (hS.later hK) b a (b : Int) (a : Int) rfl rfl hb ha)
  have HS := Lib.hid (hS.later hK)
  have HC := Lib.hid (hC.later hK)
  have HK := Lib.hid hK
  have hw : IntKind.i64.wrap ((s : Int) + 1) = (s : Int) + 1 := IntWalk.i64_in _ (by omega)
  generalize hW : w.alloc (.cells #[lessW bx, swapW sf sb] 99) = w1 at hF LS HS HC HK
  have HW := Lib.hid hW
  clear hS hK hC hI E hW
  obtain ⟨f0, f1, f2⟩ := hF
  cases hl : lsD d b a
  · rw [show or2X d a b = a by unfold or2X; rw [hl]; rfl, show or2Y d a b = b by unfold or2Y; rw [hl]; rfl, show s + or2S d a b = s by unfold or2S; rw [hl]; rfl]
    rw [hl] at LS
    clear hl
    go_enter Tryz.func120, Tryz.ntmps120
    go_wp2_with fail
    rw [HW.out]
    refine LS.out.mono ?_
    rintro e w2 ⟨rfl, hk2⟩
    have HE := Lib.hid (show Sy B w2 p N bx cap C d ∧ Cb w2 cb s ∧ Turn cb w w2 from ⟨HS.out.later hk2, HC.out.later hk2, Turn.kept (HK.out.trans hk2)⟩)
    clear hk2 f0 f1 f2
    go_wp2
    exact bodyPost_ret (v := .tuple #[.int .i64 (a : Int), .int .i64 (b : Int)]) (by simp [results, Tryz.results120, go_sem]) rfl ⟨rfl, HE.out⟩
  · rw [show or2X d a b = b by unfold or2X; rw [hl]; rfl, show or2Y d a b = a by unfold or2Y; rw [hl]; rfl, show s + or2S d a b = s + 1 by unfold or2S; rw [hl]; rfl]
    rw [hl] at LS
    clear hl
    go_enter Tryz.func120, Tryz.ntmps120
    go_wp2_with fail
    rw [HW.out]
    refine LS.out.mono ?_
    rintro e w2 ⟨rfl, hk2⟩
    have hC2 := HC.out.later hk2
    have HE := Lib.hid (show Sy B (w2.setCell ⟨cb, 0, none⟩ (.int .i64 ((s + 1 : Nat) : Int))) p N bx cap C d ∧ Cb (w2.setCell ⟨cb, 0, none⟩ (.int .i64 ((s + 1 : Nat) : Int))) cb (s + 1) ∧ Turn cb w (w2.setCell ⟨cb, 0, none⟩ (.int .i64 ((s + 1 : Nat) : Int))) from ⟨(HS.out.later hk2).put hB n1 n2, hC2.put _, (Turn.kept (HK.out.trans hk2)).trans (Turn.put _ _ _)⟩)
    obtain ⟨c0, c1, c2⟩ := id hC2
    clear hk2 f0 f1 f2 hC2
    go_wp2
    exact bodyPost_ret (v := .tuple #[.int .i64 (b : Int), .int .i64 (a : Int)]) (by simp [results, Tryz.results120, go_sem]) rfl ⟨rfl, HE.out⟩
theorem or2_lt {N : Nat} (d : Nat → Nat) {a b : Nat} (ha : a < N) (hb : b < N) : or2X d a b < N ∧ or2Y d a b < N ∧ or2S d a b ≤ 1 := by
  unfold or2X or2Y or2S
  cases lsD d b a
  · exact ⟨ha, hb, by show 0 ≤ 1; omega⟩
  · exact ⟨hb, ha, by show 1 ≤ 1; omega⟩
set_option maxRecDepth 100000 in
set_option maxHeartbeats 2000000 in
theorem median_any (E : EnvY B p N bx cap C sf sb) (a b c s : Nat) (x y z : Int) (hx : x = a) (hy : y = b) (hz : z = c) (ha : a < N) (hb : b < N) (hc : c < N) (hI : InY N d) (hS : Sy B w p N bx cap C d) (hC : Cb w cb s) (hB : B.heap.size ≤ cb) (n1 : cb ≠ p) (n2 : cb ≠ bx) (hs : s ≤ 90) :
    Calls Tryz.prog 116 #[.agg #[lessW bx, swapW sf sb], .int .i64 x, .int .i64 y, .int .i64 z, .pointer (some ⟨cb, 0, none⟩)] w (FnY B w p N bx cap cb C d (.int .i64 (medJ d a b c : Nat)) (s + medS d a b c)) := by
  subst hx hy hz
  have hF := FY.new (w := w) (lv := lessW bx) (sv := swapW sf sb) (t := 99)
  have hK := (Kept.refl w).alloc (.cells #[lessW bx, swapW sf sb] 99)
  have HS := Lib.hid (hS.later hK)
  have HC := Lib.hid (hC.later hK)
  have HK := Lib.hid (Turn.kept (p := cb) hK)
  have fc : w.heap.size ≠ cb := by have := hC.lt; omega
  obtain ⟨o1, o2, o3⟩ := or2_lt d ha hb
  obtain ⟨o4, o5, o6⟩ := or2_lt d o2 hc
  obtain ⟨o7, o8, o9⟩ := or2_lt d o1 o4
  have O1 := Lib.hid (fun W (h1 : Sy B W p N bx cap C d) (h2 : Cb W cb s) => order2_any (w := W) E a b s _ _ rfl rfl ha hb hI h1 h2 hB n1 n2 (by omega))
  have O2 := Lib.hid (fun W (h1 : Sy B W p N bx cap C d) (h2 : Cb W cb (s + or2S d a b)) => order2_any (w := W) E (or2Y d a b) c _ _ _ rfl rfl o2 hc hI h1 h2 hB n1 n2 (by omega))
  have O3 := Lib.hid (fun W (h1 : Sy B W p N bx cap C d) (h2 : Cb W cb (s + or2S d a b + or2S d (or2Y d a b) c)) => order2_any (w := W) E (or2X d a b) (or2X d (or2Y d a b) c) _ _ _ rfl rfl o1 o4 hI h1 h2 hB n1 n2 (by omega))
  have FIN := Lib.hid (show s + or2S d a b + or2S d (or2Y d a b) c + or2S d (or2X d a b) (or2X d (or2Y d a b) c) = s + medS d a b c by unfold medS; omega)
  have FIJ := Lib.hid (show medJ d a b c = or2Y d (or2X d a b) (or2X d (or2Y d a b) c) from rfl)
  rw [FIJ.out, ← FIN.out]
  generalize hW : w.alloc (.cells #[lessW bx, swapW sf sb] 99) = w1 at hF HS HC HK
  have HW := Lib.hid hW
  have HF := Lib.hid hF
  clear hS hK hC hI E hW hF
  generalize or2X d a b = xa at *
  generalize or2Y d a b = yb at *
  generalize or2X d yb c = x2 at *
  generalize or2Y d yb c = y2 at *
  generalize or2X d xa x2 = x3 at *
  generalize or2Y d xa x2 = y3 at *
  obtain ⟨f0, f1, f2⟩ := HF.out
  go_enter Tryz.func116, Tryz.ntmps116
  go_wp2_with fail
  rw [HW.out]
  refine (O1.out w1 HS.out HC.out).mono ?_
  rintro e w2 ⟨rfl, hS2, hC2, hT2⟩
  have HS2 := Lib.hid hS2
  have HC2 := Lib.hid hC2
  have HT2 := Lib.hid hT2
  clear f0 f1 f2 hS2 hC2 hT2
  obtain ⟨f0, f1, f2⟩ := HF.out.turn HT2.out fc
  go_wp2_with fail
  refine (O2.out w2 HS2.out HC2.out).mono ?_
  rintro e w3 ⟨rfl, hS3, hC3, hT3⟩
  have HS3 := Lib.hid hS3
  have HC3 := Lib.hid hC3
  have HT3 := Lib.hid (HT2.out.trans hT3)
  clear f0 f1 f2 hS3 hC3 hT3 HS2 HC2 HT2
  obtain ⟨f0, f1, f2⟩ := HF.out.turn HT3.out fc
  go_wp2_with fail
  refine (O3.out w3 HS3.out HC3.out).mono ?_
  rintro e w4 ⟨rfl, hS4, hC4, hT4⟩
  have HS4 := Lib.hid hS4
  have HC4 := Lib.hid hC4
  have HT4 := Lib.hid (HT3.out.trans hT4)
  clear f0 f1 f2 hS4 hC4 hT4 HS3 HC3 HT3
  go_wp2
  go_ret
  exact ⟨rfl, HS4.out, HC4.out, HK.out.trans HT4.out⟩
theorem medS_le (d : Nat → Nat) (a b c : Nat) : medS d a b c ≤ 3 := by
  have h1 : or2S d a b ≤ 1 := by unfold or2S; cases lsD d b a <;> decide
  have h2 : or2S d (or2Y d a b) c ≤ 1 := by unfold or2S; cases lsD d c (or2Y d a b) <;> decide
  have h3 : or2S d (or2X d a b) (or2X d (or2Y d a b) c) ≤ 1 := by unfold or2S; cases lsD d (or2X d (or2Y d a b) c) (or2X d a b) <;> decide
  unfold medS; omega
theorem medJ_lt {N : Nat} (d : Nat → Nat) {a b c : Nat} (ha : a < N) (hb : b < N) (hc : c < N) : medJ d a b c < N := by
  obtain ⟨o1, o2, o3⟩ := or2_lt d ha hb
  obtain ⟨o4, o5, o6⟩ := or2_lt d o2 hc
  exact (or2_lt d o1 o4).2.1
set_option maxRecDepth 100000 in
set_option maxHeartbeats 2000000 in
theorem medAdj_any (E : EnvY B p N bx cap C sf sb) (a s : Nat) (x : Int) (hx : x = a) (a1 : 1 ≤ a) (ha : a + 1 < N) (hI : InY N d) (hS : Sy B w p N bx cap C d) (hC : Cb w cb s) (hB : B.heap.size ≤ cb) (n1 : cb ≠ p) (n2 : cb ≠ bx) (hs : s ≤ 90) :
    Calls Tryz.prog 115 #[.agg #[lessW bx, swapW sf sb], .int .i64 x, .pointer (some ⟨cb, 0, none⟩)] w (FnY B w p N bx cap cb C d (.int .i64 (medJ d (a - 1) a (a + 1) : Nat)) (s + medS d (a - 1) a (a + 1))) := by
  subst hx
  have hN := E.hN
  have hF := FY.new (w := w) (lv := lessW bx) (sv := swapW sf sb) (t := 99)
  have hK := (Kept.refl w).alloc (.cells #[lessW bx, swapW sf sb] 99)
  have u1 : IntKind.i64.wrap ((a : Int) - 1) = (a : Int) - 1 := IntWalk.i64_in _ (by omega)
  have u2 : IntKind.i64.wrap ((a : Int) + 1) = (a : Int) + 1 := IntWalk.i64_in _ (by omega)
  have ME := Lib.hid (median_any E (a - 1) a (a + 1) s ((a : Int) - 1) a ((a : Int) + 1) (by omega) rfl (by omega) (by omega) (by omega) ha hI (hS.later hK) (hC.later hK) hB n1 n2 hs)
  have HK := Lib.hid (Turn.kept (p := cb) hK)
  generalize hW : w.alloc (.cells #[lessW bx, swapW sf sb] 99) = w1 at hF ME HK
  have HW := Lib.hid hW
  clear hS hK hC hI E hW
  obtain ⟨f0, f1, f2⟩ := hF
  go_enter Tryz.func115, Tryz.ntmps115
  go_wp2_with fail
  rw [HW.out]
  refine ME.out.mono ?_
  rintro e w2 ⟨rfl, hS2, hC2, hT2⟩
  have HE := Lib.hid (show Sy B w2 p N bx cap C d ∧ Cb w2 cb (s + medS d (a - 1) a (a + 1)) ∧ Turn cb w w2 from ⟨hS2, hC2, HK.out.trans hT2⟩)
  clear hS2 hC2 hT2 f0 f1 f2
  go_wp2
  go_ret
  exact ⟨rfl, HE.out⟩
end
end Go.Proofs.YtbaahnafmfjpaaaGreatDoor
