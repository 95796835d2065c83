import Derived.Test.YtbaahnafmfjpaaaGreatDoorCWalkD
import Derived.Test.YtbaahnafmfjpaaaGreatDoorMgZRow
import Derived.Test.YtbaahnafmfjpaaaGreatDoorMgXWalkC
/-
  The reference of reversed entries: talref.Turned. No condition but those that each theorem names.
-/
namespace Go.Proofs.YtbaahnafmfjpaaaGreatDoor
open Go.RowKit
set_option linter.unusedVariables false

theorem WBx.grown {w w' : World} {p : Nat} {k : ByteArray} {d : Int} {v : Value} {row : Option Nat} (h : WBx w p k d v) (g : w.grownBy w' row) (hne : some p ≠ row) : WBx w' p k d v := by
  have hb := g.block p h.box.lt hne
  exact ⟨⟨Nat.lt_of_lt_of_le h.box.lt g.size, g.cell h.box.c0 hne, g.cell h.box.c1 hne, g.cell h.box.c2 hne⟩, (World.frozen?_of_block (a := ⟨p, 0, none⟩) hb).trans h.f0, (World.frozen?_of_block (a := ⟨p, 1, none⟩) hb).trans h.f1, (World.frozen?_of_block (a := ⟨p, 2, none⟩) hb).trans h.f2⟩
theorem WBx.set2' {w : World} {p : Nat} {k : ByteArray} {d : Int} {v u : Value} (h : WBx w p k d v) : WBx (w.setCell ⟨p, 2, none⟩ u) p k d u := by
  obtain ⟨⟨h0, h1, h2, h3⟩, f0, f1, f2⟩ := h
  exact ⟨⟨by simpa using h0, by go_simp, by go_simp, by go_simp⟩, by go_simp, by go_simp, by go_simp⟩
theorem PGr.other' {T : TypeId} {B r i : Nat} {w : World} {v u : Value} {l : List Pr} (h : PGr T B w v l) (hr : r < B) : PGr T B (w.setCell ⟨r, i, none⟩ u) v l := ⟨ownsRow_setCell_below h.own hr u⟩
/-- No entry, and an error. -/
theorem neg_take {l : List Pr} {j : Nat} (h : j < l.length) : negL (l.take (j + 1)) = negL (l.take j) ++ [negP l[j]] := by
  unfold negL
  rw [List.take_succ_eq_append_getElem h, List.map_append]; rfl
set_option maxRecDepth 100000 in
set_option maxHeartbeats 2000000 in
theorem rturned_no (v0 : Value) (k : ByteArray) (d : Int) (a : Option Addr) (l : List Pr) (cap : Nat) (key : ByteArray) (day : Int) (w : World) (hv : v0 = enV k d a l.length cap) (hs2 : key.size ≤ maxLen) (er : hdE key day ≠ 0) :
    Calls Tryz.prog 24 #[v0, .string key, .int .i64 day] w (EnNo w (hdE key day)) := by
  subst hv
  have k0 := ((Kept.refl w).alloc (.cells #[.string k, .int .i64 d, .slice a l.length cap] 38)).alloc (.cells #[.string ⟨#[]⟩, .int .i64 0, .slice none 0 0] 38)
  cases h : keyB key
  · have E := Lib.hid (hdE_key (d := day) h)
    rw [E.out]
    have K := Lib.hid h
    clear h er
    go_enter Tryz.func24, Tryz.ntmps24
    go_wp2_with fail
    refine (rkey_any _ _ hs2).mono ?_
    rintro e w1 ⟨rfl, rfl⟩
    rw [K.out]
    go_wp2
    exact bodyPost_ret (v := .tuple #[.agg #[.string ⟨#[]⟩, .int .i64 0, .slice none 0 0], .int .i64 3]) (by simp [results, Tryz.results24, go_sem]) rfl ⟨rfl, k0⟩
  · cases g : inB day 0 292193
    · have E := Lib.hid (hdE_day h g)
      rw [E.out]
      have K := Lib.hid h
      have G := Lib.hid g
      clear h er g
      go_enter Tryz.func24, Tryz.ntmps24
      go_wp2_with fail
      refine (rkey_any _ _ hs2).mono ?_
      rintro e w1 ⟨rfl, rfl⟩
      rw [K.out]
      go_wp2_with fail
      refine (rday_any _ _).mono ?_
      rintro e w1 ⟨rfl, rfl⟩
      rw [G.out]
      go_wp2
      exact bodyPost_ret (v := .tuple #[.agg #[.string ⟨#[]⟩, .int .i64 0, .slice none 0 0], .int .i64 1]) (by simp [results, Tryz.results24, go_sem]) rfl ⟨rfl, k0⟩
    · exact absurd (hdE_ok h g) er
/-- None, or a place in new memory. -/
def NewAt (w : World) (a : Option Addr) : Prop := ∀ p off, a = some ⟨p, off, none⟩ → w.heap.size ≤ p
theorem PGr.newAt {T : TypeId} {B c : Nat} {w W : World} {a : Option Addr} {n : Nat} {l : List Pr} (h : PGr T B w (.slice a n c) l) (hB : W.heap.size ≤ B) : NewAt W a := by
  intro p off e
  rcases h.own.2 with ⟨e1, _⟩ | ⟨q, c', cur, e1, hb, _⟩
  · rw [e] at e1; simp at e1
  · rw [e] at e1
    obtain ⟨⟨rfl, _⟩, _⟩ : (p = q ∧ off = 0) ∧ _ := by simpa using e1
    omega
theorem PRow.other' {w : World} {p off r i : Nat} {l : List Pr} {v : Value} (h : PRow w p off l) (hr : r ≠ p) : PRow (w.setCell ⟨r, i, none⟩ v) p off l := by
  have hr' : p ≠ r := fun e => hr e.symm
  refine ⟨by simpa using h.lt, fun j hj => ?_, fun j hj => ?_⟩
  · have hc := h.c0 j hj
    go_simp
  · have hc := h.c1 j hj
    go_simp
theorem PArg.other {w : World} {a : Option Addr} {r i : Nat} {l : List Pr} {v : Value} (h : PArg w a l) (hr : l ≠ [] → ∀ p off, a = some ⟨p, off, none⟩ → r ≠ p) : PArg (w.setCell ⟨r, i, none⟩ v) a l := by
  by_cases hl : l = []
  · exact .inl hl
  rcases h with h | ⟨p, off, e, h⟩
  · exact .inl h
  · exact .inr ⟨p, off, e, h.other' (hr hl p off e)⟩
/-- An entry with a row of its own that has grown, and no error. -/
def EnGrown (w : World) (k : ByteArray) (d : Int) (l : List Pr) (e : Ending) (w' : World) : Prop :=
  ∃ a c, e = .returned (.tuple #[.agg #[.string k, .int .i64 d, .slice a l.length c], .int .i64 0]) ∧ PArg w' a l ∧ NewAt w a ∧ Kept w w'
set_option maxRecDepth 100000 in
set_option maxHeartbeats 4000000 in
theorem rturned_yes (k : ByteArray) (d : Int) (a : Option Addr) (l : List Pr) (cap : Nat) (key : ByteArray) (day : Int) (w : World) (hs2 : key.size ≤ maxLen) (hA : PArg w a l) (hl : l.length ≤ 12) (hb : ∀ x ∈ l, -1000000000000 ≤ x.2 ∧ x.2 ≤ 1000000000000) (oh : hdE key day = 0) :
    Calls Tryz.prog 24 #[enV k d a l.length cap, .string key, .int .i64 day] w (EnGrown w key day (negL l)) := by
  have k0 := ((Kept.refl w).alloc (.cells #[.string k, .int .i64 d, .slice a l.length cap] 38)).alloc (.cells #[.string ⟨#[]⟩, .int .i64 0, .slice none 0 0] 38)
  have hE0 := (EBx.new w k d (.slice a l.length cap) 38).later ((Kept.refl _).alloc (.cells #[.string ⟨#[]⟩, .int .i64 0, .slice none 0 0] 38))
  have hR0 := WBx.new (w.alloc (.cells #[.string k, .int .i64 d, .slice a l.length cap] 38)) ⟨#[]⟩ 0 (.slice none 0 0) 38 (w.heap.size + 1) (by simp)
  have hO0 := WBx.new ((w.alloc (.cells #[.string k, .int .i64 d, .slice a l.length cap] 38)).alloc (.cells #[.string ⟨#[]⟩, .int .i64 0, .slice none 0 0] 38)) key day (.slice none 0 0) 38 (w.heap.size + 1 + 1) (by simp)
  have HA := Lib.hid hA
  have BD := Lib.hid hb
  have KB : keyB key = true := by
    cases h : keyB key
    · rw [hdE_key h] at oh; cases oh
    · rfl
  have DB : inB day 0 292193 = true := by
    cases h : inB day 0 292193
    · rw [hdE_day KB h] at oh; cases oh
    · rfl
  have K := Lib.hid KB
  have G := Lib.hid DB
  clear KB DB oh hA hb
  go_enter Tryz.func24, Tryz.ntmps24
  go_wp2_with fail
  refine (rkey_any _ _ hs2).mono ?_
  rintro e w1 ⟨rfl, rfl⟩
  rw [K.out]
  go_wp2_with fail
  refine (rday_any _ _).mono ?_
  rintro e w1 ⟨rfl, rfl⟩
  rw [G.out]
  go_wp2
  have W2s : ((w.alloc (.cells #[.string k, .int .i64 d, .slice a l.length cap] 38)).alloc (.cells #[.string ⟨#[]⟩, .int .i64 0, .slice none 0 0] 38)).heap.size = w.heap.size + 1 + 1 := by simp
  generalize (w.alloc (.cells #[.string k, .int .i64 d, .slice a l.length cap] 38)).alloc (.cells #[.string ⟨#[]⟩, .int .i64 0, .slice none 0 0] 38) = W2 at *
  have HR0 := Lib.hid hR0
  have HK0 := Lib.hid k0
  have kO := Lib.hid ((Kept.refl W2).alloc (.cells #[.string key, .int .i64 day, .slice none 0 0] 38))
  generalize W2.alloc (.cells #[.string key, .int .i64 day, .slice none 0 0] 38) = W3 at *
  have hbr : w.heap.size + 1 < w.heap.size + 1 + 1 := by omega
  have hbr0 : w.heap.size ≤ w.heap.size + 1 := by omega
  have hW2 : W2.heap.size ≤ w.heap.size + 1 + 1 := by omega
  have W3s : w.heap.size + 1 + 1 < W3.heap.size := hO0.box.lt
  clear hE0 hR0 k0 W2s
  generalize w.heap.size + 1 + 1 = bo at *
  generalize hbr9 : w.heap.size + 1 = br at *
  go_loopw [25] (fun i wr => ∃ (j : Nat) (v : Value), j ≤ l.length ∧ i = .int .i64 j ∧ WBx wr bo key day v ∧ PGr 48 (bo + 1) wr v (negL (l.take j)) ∧ Kept W2 wr) (fun i _ => l.length - (intOf i).toNat)
  case atStart => exact ⟨0, _, Nat.zero_le _, rfl, hO0, PGr.nil _ _ _, kO.out⟩
  case round =>
    clear hO0
    obtain ⟨j, v, hj, rfl, hO, hG, hK⟩ := hrel
    obtain ⟨av, cv, rfl, _, _⟩ := hG.form
    by_cases hlt : j < l.length
    · obtain ⟨p, off, rfl, hR⟩ := (HA.out.later (HK0.out.trans hK)).at hlt
      have c0 := hR.c0 j hlt
      have c1 := hR.c1 j hlt
      have plt := hR.lt
      obtain ⟨z1, z2⟩ := BD.out l[j] (List.getElem_mem _)
      have HN := Lib.hid (neg_take hlt)
      have ml : (negL (l.take j)).length ≤ 12 := by rw [negL_len, List.length_take]; omega
      clear hR
      generalize l[j] = x at *
      generalize negL (l.take j) = m at *
      have kb := ((Kept.refl wr).alloc (.cells #[.string x.1, .int .i64 x.2] 48)).alloc (.cells #[.string x.1, .int .i64 (-x.2)] 48)
      have hO1 := hO.later kb
      have hG1 := hG.later kb
      have hK1 := hK.trans kb
      have olt := hO.box.lt
      have n0 : (((wr.alloc (.cells #[.string x.1, .int .i64 x.2] 48)).alloc (.cells #[.string x.1, .int .i64 (-x.2)] 48))).cell? ⟨wr.heap.size + 1, 0, none⟩ = some (.string (negP x).1) := by simp [negP]
      have n1 : (((wr.alloc (.cells #[.string x.1, .int .i64 x.2] 48)).alloc (.cells #[.string x.1, .int .i64 (-x.2)] 48))).cell? ⟨wr.heap.size + 1, 1, none⟩ = some (.int .i64 (negP x).2) := by simp [negP]
      have N0 := Lib.hid n0
      have N1 := Lib.hid n1
      obtain ⟨⟨b0, b1, b2, b3⟩, f0, f1, f2⟩ := id hO
      clear n0 n1 kb
      go_wp2_with (at_builtin; refine app_pr 48 34 pairLine Tryz.underlying34 rfl _ _ rfl rfl rfl hG1 N0.out N1.out (by omega) (by simp; omega) ?_)
      intro v' w5 hG5 hgr
      have hK5 : Kept W2 w5 := hG1.below (by omega) hK1 hgr
      have hO5 := hO1.grown hgr (fun e => by have := (hG1.own.lt bo e.symm).1; omega)
      obtain ⟨a5, c5, rfl, _, _⟩ := hG5.form
      rw [show (m ++ [negP x]).length = m.length + 1 by simp] at hG5 ⊢
      clear hG hG1 hK hK1 hO hO1 b0 b1 b2 b3 f0 f1 f2 c0 c1 plt hgr N0 N1
      obtain ⟨⟨b0, b1, b2, b3⟩, f0, f1, f2⟩ := id hO5
      go_wp2
      go_roundw
      case rel => exact ⟨j + 1, _, by omega, by go_num, hO5.set2', by rw [HN.out]; exact hG5.other' (r := bo) (Nat.lt_succ_self _), hK5.setAt hW2 _⟩
      case measure => simp [intOf]; omega
    · obtain rfl : j = l.length := by omega
      clear hlt
      rw [List.take_length] at *
      obtain ⟨⟨b0, b1, b2, b3⟩, f0, f1, f2⟩ := id hO
      obtain ⟨⟨r0, r1, r2, r3⟩, q0, q1, q2⟩ := HR0.out.later hK
      have hKK := HK0.out.trans hK
      have NL := Lib.hid (negL_len l)
      have rb : br < bo + 1 := by omega
      have rw0 : w.heap.size ≤ br := by omega
      have hG9 := ((hG.other' (i := 0) (u := .string key) rb).other' (i := 1) (u := .int .i64 day) rb).other' (i := 2) (u := .slice av (negL l).length cv) rb
      clear hbr9
      have ro : br ≠ bo := by omega
      have ro' : bo ≠ br := by omega
      clear hG
      go_wp2
      exact bodyPost_ret (v := .tuple #[.agg #[.string key, .int .i64 day, .slice av (negL l).length cv], .int .i64 0]) (by simp [results, Tryz.results24, go_sem, r1, r2, r3]) rfl ⟨av, cv, rfl, hG9.arg, hG9.newAt (by omega), ((hKK.setAt rw0 _).setAt rw0 _).setAt rw0 _⟩
end Go.Proofs.YtbaahnafmfjpaaaGreatDoor

/-
  The reference's Undo, and the code's, at every input, to a good book. No condition but those that each theorem names.
-/
namespace Go.Proofs.YtbaahnafmfjpaaaGreatDoor
open Go.RowKit
set_option linter.unusedVariables false

/-- An entry with a row of its own that has grown, its room, and no error. -/
def EnRoom (w : World) (k : ByteArray) (d : Int) (l : List Pr) (e : Ending) (w' : World) : Prop :=
  ∃ a c, e = .returned (.tuple #[.agg #[.string k, .int .i64 d, .slice a l.length c], .int .i64 0]) ∧ PArg w' a l ∧ NewAt w a ∧ l.length ≤ c ∧ c ≤ maxLen ∧ Kept w w'
set_option maxRecDepth 100000 in
set_option maxHeartbeats 4000000 in
theorem rturned_room (k : ByteArray) (d : Int) (a : Option Addr) (l : List Pr) (cap : Nat) (key : ByteArray) (day : Int) (w : World) (hs2 : key.size ≤ maxLen) (hA : PArg w a l) (hl : l.length ≤ 12) (hb : ∀ x ∈ l, -1000000000000 ≤ x.2 ∧ x.2 ≤ 1000000000000) (oh : hdE key day = 0) :
    Calls Tryz.prog 24 #[enV k d a l.length cap, .string key, .int .i64 day] w (EnRoom w key day (negL l)) := by
  have k0 := ((Kept.refl w).alloc (.cells #[.string k, .int .i64 d, .slice a l.length cap] 38)).alloc (.cells #[.string ⟨#[]⟩, .int .i64 0, .slice none 0 0] 38)
  have hE0 := (EBx.new w k d (.slice a l.length cap) 38).later ((Kept.refl _).alloc (.cells #[.string ⟨#[]⟩, .int .i64 0, .slice none 0 0] 38))
  have hR0 := WBx.new (w.alloc (.cells #[.string k, .int .i64 d, .slice a l.length cap] 38)) ⟨#[]⟩ 0 (.slice none 0 0) 38 (w.heap.size + 1) (by simp)
  have hO0 := WBx.new ((w.alloc (.cells #[.string k, .int .i64 d, .slice a l.length cap] 38)).alloc (.cells #[.string ⟨#[]⟩, .int .i64 0, .slice none 0 0] 38)) key day (.slice none 0 0) 38 (w.heap.size + 1 + 1) (by simp)
  have HA := Lib.hid hA
  have BD := Lib.hid hb
  have KB : keyB key = true := by
    cases h : keyB key
    · rw [hdE_key h] at oh; cases oh
    · rfl
  have DB : inB day 0 292193 = true := by
    cases h : inB day 0 292193
    · rw [hdE_day KB h] at oh; cases oh
    · rfl
  have K := Lib.hid KB
  have G := Lib.hid DB
  clear KB DB oh hA hb
  go_enter Tryz.func24, Tryz.ntmps24
  go_wp2_with fail
  refine (rkey_any _ _ hs2).mono ?_
  rintro e w1 ⟨rfl, rfl⟩
  rw [K.out]
  go_wp2_with fail
  refine (rday_any _ _).mono ?_
  rintro e w1 ⟨rfl, rfl⟩
  rw [G.out]
  go_wp2
  have W2s : ((w.alloc (.cells #[.string k, .int .i64 d, .slice a l.length cap] 38)).alloc (.cells #[.string ⟨#[]⟩, .int .i64 0, .slice none 0 0] 38)).heap.size = w.heap.size + 1 + 1 := by simp
  generalize (w.alloc (.cells #[.string k, .int .i64 d, .slice a l.length cap] 38)).alloc (.cells #[.string ⟨#[]⟩, .int .i64 0, .slice none 0 0] 38) = W2 at *
  have HR0 := Lib.hid hR0
  have HK0 := Lib.hid k0
  have kO := Lib.hid ((Kept.refl W2).alloc (.cells #[.string key, .int .i64 day, .slice none 0 0] 38))
  generalize W2.alloc (.cells #[.string key, .int .i64 day, .slice none 0 0] 38) = W3 at *
  have hbr : w.heap.size + 1 < w.heap.size + 1 + 1 := by omega
  have hbr0 : w.heap.size ≤ w.heap.size + 1 := by omega
  have hW2 : W2.heap.size ≤ w.heap.size + 1 + 1 := by omega
  have W3s : w.heap.size + 1 + 1 < W3.heap.size := hO0.box.lt
  clear hE0 hR0 k0 W2s
  generalize w.heap.size + 1 + 1 = bo at *
  generalize hbr9 : w.heap.size + 1 = br at *
  go_loopw [25] (fun i wr => ∃ (j : Nat) (v : Value), j ≤ l.length ∧ i = .int .i64 j ∧ WBx wr bo key day v ∧ PGr 48 (bo + 1) wr v (negL (l.take j)) ∧ Kept W2 wr) (fun i _ => l.length - (intOf i).toNat)
  case atStart => exact ⟨0, _, Nat.zero_le _, rfl, hO0, PGr.nil _ _ _, kO.out⟩
  case round =>
    clear hO0
    obtain ⟨j, v, hj, rfl, hO, hG, hK⟩ := hrel
    obtain ⟨av, cv, rfl, _, _⟩ := hG.form
    by_cases hlt : j < l.length
    · obtain ⟨p, off, rfl, hR⟩ := (HA.out.later (HK0.out.trans hK)).at hlt
      have c0 := hR.c0 j hlt
      have c1 := hR.c1 j hlt
      have plt := hR.lt
      obtain ⟨z1, z2⟩ := BD.out l[j] (List.getElem_mem _)
      have HN := Lib.hid (neg_take hlt)
      have ml : (negL (l.take j)).length ≤ 12 := by rw [negL_len, List.length_take]; omega
      clear hR
      generalize l[j] = x at *
      generalize negL (l.take j) = m at *
      have kb := ((Kept.refl wr).alloc (.cells #[.string x.1, .int .i64 x.2] 48)).alloc (.cells #[.string x.1, .int .i64 (-x.2)] 48)
      have hO1 := hO.later kb
      have hG1 := hG.later kb
      have hK1 := hK.trans kb
      have olt := hO.box.lt
      have n0 : (((wr.alloc (.cells #[.string x.1, .int .i64 x.2] 48)).alloc (.cells #[.string x.1, .int .i64 (-x.2)] 48))).cell? ⟨wr.heap.size + 1, 0, none⟩ = some (.string (negP x).1) := by simp [negP]
      have n1 : (((wr.alloc (.cells #[.string x.1, .int .i64 x.2] 48)).alloc (.cells #[.string x.1, .int .i64 (-x.2)] 48))).cell? ⟨wr.heap.size + 1, 1, none⟩ = some (.int .i64 (negP x).2) := by simp [negP]
      have N0 := Lib.hid n0
      have N1 := Lib.hid n1
      obtain ⟨⟨b0, b1, b2, b3⟩, f0, f1, f2⟩ := id hO
      clear n0 n1 kb
      go_wp2_with (at_builtin; refine app_pr 48 34 pairLine Tryz.underlying34 rfl _ _ rfl rfl rfl hG1 N0.out N1.out (by omega) (by simp; omega) ?_)
      intro v' w5 hG5 hgr
      have hK5 : Kept W2 w5 := hG1.below (by omega) hK1 hgr
      have hO5 := hO1.grown hgr (fun e => by have := (hG1.own.lt bo e.symm).1; omega)
      obtain ⟨a5, c5, rfl, _, _⟩ := hG5.form
      rw [show (m ++ [negP x]).length = m.length + 1 by simp] at hG5 ⊢
      clear hG hG1 hK hK1 hO hO1 b0 b1 b2 b3 f0 f1 f2 c0 c1 plt hgr N0 N1
      obtain ⟨⟨b0, b1, b2, b3⟩, f0, f1, f2⟩ := id hO5
      go_wp2
      go_roundw
      case rel => exact ⟨j + 1, _, by omega, by go_num, hO5.set2', by rw [HN.out]; exact hG5.other' (r := bo) (Nat.lt_succ_self _), hK5.setAt hW2 _⟩
      case measure => simp [intOf]; omega
    · obtain rfl : j = l.length := by omega
      clear hlt
      rw [List.take_length] at *
      obtain ⟨⟨b0, b1, b2, b3⟩, f0, f1, f2⟩ := id hO
      obtain ⟨⟨r0, r1, r2, r3⟩, q0, q1, q2⟩ := HR0.out.later hK
      have hKK := HK0.out.trans hK
      have NL := Lib.hid (negL_len l)
      have rb : br < bo + 1 := by omega
      have rw0 : w.heap.size ≤ br := by omega
      have hG9 := ((hG.other' (i := 0) (u := .string key) rb).other' (i := 1) (u := .int .i64 day) rb).other' (i := 2) (u := .slice av (negL l).length cv) rb
      clear hbr9
      have ro : br ≠ bo := by omega
      have ro' : bo ≠ br := by omega
      have HF := Lib.hid hG9.form
      clear hG
      go_wp2
      obtain ⟨a', c', hfe, hf1, hf2⟩ := HF.out
      obtain ⟨rfl, rfl⟩ : av = a' ∧ cv = c' := by simpa using hfe
      exact bodyPost_ret (v := .tuple #[.agg #[.string key, .int .i64 day, .slice av (negL l).length cv], .int .i64 0]) (by simp [results, Tryz.results24, go_sem, r1, r2, r3]) rfl ⟨av, cv, rfl, hG9.arg, hG9.newAt (by omega), hf1, hf2, ((hKK.setAt rw0 _).setAt rw0 _).setAt rw0 _⟩
/-- The book that Undo returns. -/
def unY (b : Bk) (k y : ByteArray) (d : Int) : Bk := if unE b k y d = 0 then poV b (unX b k y d) else noB
theorem undo_all (q : BkA) (b : Bk) (k y : ByteArray) (d : Int) (w : World) (hM : BkM w q b) (hy : y.size ≤ maxLen) :
    Calls Tryz.prog 5 #[bkV q b, .string k, .string y, .int .i64 d] w (RpAny w (unY b k y d) (unE b k y d)) := by
  by_cases h : unE b k y d = 0
  · have Y : unY b k y d = poV b (unX b k y d) := by unfold unY; rw [if_pos h]
    rw [Y, h]
    refine (undo_yes q b k y d w hM hy h).mono fun e w' hh => ?_
    obtain ⟨q', e1, hF, hk⟩ := hh
    exact ⟨q', e1, hF.m, hk⟩
  · have Y : unY b k y d = noB := by unfold unY; rw [if_neg h]
    rw [Y]
    exact (undo_no q b k y d w hM hy h).mono fun e w' hh => RpAny.no hh
theorem unY_small {b : Bk} {k y : ByteArray} {d : Int} : (unY b k y d).acs.length ≤ 24 ∧ (unY b k y d).ens.length ≤ 60 ∧ ∀ x ∈ (unY b k y d).ens, x.lns.length ≤ 12 := by
  unfold unY
  by_cases h : unE b k y d = 0
  · rw [if_pos h]
    have g := (Good.post (unE_ok h).2.2).1
    exact ⟨g.a24, g.many, g.lines⟩
  · rw [if_neg h]
    exact ⟨Nat.zero_le _, Nat.zero_le _, fun y hy => by cases hy⟩
set_option maxRecDepth 100000 in
set_option maxHeartbeats 4000000 in
theorem rundo_none (q : BkA) (b : Bk) (k y : ByteArray) (d : Int) (w : World) (hM : BkM w q b) (hk : ¬ kyI k b.ens < b.ens.length) :
    Calls Tryz.prog 9 #[bkV q b, .string k, .string y, .int .i64 d] w (BkNo w 4) := by
  have hB := (BBx.new w q b).later ((Kept.refl (w.alloc (bkO q b))).alloc noBk)
  have hR := VBk.noneAt w q b
  have hK2 := ((Kept.refl w).alloc (bkO q b)).alloc noBk
  have GT := Lib.hid ((rget_any q b k _ (hM.later hK2)).mono fun e w' h => show RgNo _ e w' from by
    rcases h with ⟨h, _⟩ | ⟨_, h⟩
    · exact absurd h hk
    · exact h)
  generalize hW : (w.alloc (bkO q b)).alloc noBk = W at *
  have HW := Lib.hid hW
  have HK := Lib.hid hK2
  have HR := Lib.hid hR
  clear hM hW hK2 hR hk
  obtain ⟨b0, b1, b2, b3⟩ := hB
  go_enter Tryz.func9, Tryz.ntmps9
  go_wp2_with fail
  rw [HW.out]
  refine GT.out.mono ?_
  rintro e w1 ⟨rfl, hK1⟩
  have ka := hK1.alloc noEn
  obtain ⟨⟨r0, r1, r2, r3⟩, f0, f1, f2⟩ := HR.out.later ka
  have FK := Lib.hid ((HK.out.trans ka).set3 (p := w.heap.size + 1) (by omega) (.slice none 0 0) (.slice none 0 0) (.int .i64 0))
  go_wp2
  exact bodyPost_ret (v := .tuple #[.agg #[.slice none 0 0, .slice none 0 0, .int .i64 0], .int .i64 4]) (by simp [results, Tryz.results9, go_sem, r1, r2, r3]) rfl ⟨rfl, FK.out⟩
set_option maxRecDepth 100000 in
set_option maxHeartbeats 4000000 in
theorem rundo_head (q : BkA) (b : Bk) (k y : ByteArray) (d : Int) (w : World) (hM : BkM w q b) (hy : y.size ≤ maxLen) (gd : Good b) (hk : kyI k b.ens < b.ens.length) (er : hdE y d ≠ 0) :
    Calls Tryz.prog 9 #[bkV q b, .string k, .string y, .int .i64 d] w (BkNo w (hdE y d)) := by
  have hB := (BBx.new w q b).later ((Kept.refl (w.alloc (bkO q b))).alloc noBk)
  have hR := VBk.noneAt w q b
  have hK2 := ((Kept.refl w).alloc (bkO q b)).alloc noBk
  have X : atK k b.ens = b.ens[kyI k b.ens] := atK_eq hk
  have GT := Lib.hid ((rget_any q b k _ (hM.later hK2)).mono fun e w' h => show RgEt _ (atK k b.ens) e w' from by
    rcases h with ⟨_, h⟩ | ⟨h, _⟩
    · rw [X]; exact h
    · exact absurd hk h)
  have ok : enE (atK k b.ens).key (atK k b.ens).day (atK k b.ens).lns = 0 := by rw [X]; exact (gd.each _ (List.getElem_mem hk)).1
  have shx : Shortish (atK k b.ens).lns := by rw [X]; exact (hM.she _ (List.getElem_mem hk)).2.2
  have l12 := (enE_ok ok).2.2.1
  have lz := (enE_ok ok).2.2.2.1
  have BD := Lib.hid (show ∀ x ∈ (atK k b.ens).lns, -1000000000000 ≤ x.2 ∧ x.2 ≤ 1000000000000 from fun x hx => ⟨(lnsE_all (atK k b.ens).lns [] lz x hx).2.1, (lnsE_all (atK k b.ens).lns [] lz x hx).2.2.1⟩)
  have TN := Lib.hid (fun (x : Et) V a cap => rturned_no (enV x.key x.day a x.lns.length cap) x.key x.day a x.lns cap y d V rfl hy er)
  have h2 : (hdE y d != 0) = true := by simpa using er
  clear er shx
  generalize hW : (w.alloc (bkO q b)).alloc noBk = W at *
  have HW := Lib.hid hW
  have HK := Lib.hid hK2
  have HR := Lib.hid hR
  have HB := Lib.hid hB
  have HM := Lib.hid (hM.later hK2)
  clear hM hW hK2 hR ok lz gd hk X
  generalize atK k b.ens = x at *
  obtain ⟨b0, b1, b2, b3⟩ := hB
  go_enter Tryz.func9, Tryz.ntmps9
  go_wp2_with fail
  rw [HW.out]
  refine GT.out.mono ?_
  rintro e w1 ⟨xa, xc, rfl, hX, xle, xcm, hK1⟩
  have ka := (Kept.refl w1).alloc (enO x xa xc)
  have K2 := Lib.hid (hK1.trans ka)
  clear b0 b1 b2 b3
  have TC := Lib.hid (TN.out x (w1.alloc (enO x xa xc)) xa xc)
  generalize hdE y d = ek at *
  clear ka hX hK1
  go_wp2_with fail
  refine TC.out.mono ?_
  rintro e w2 ⟨rfl, hK3⟩
  have kk := (K2.out.trans hK3).alloc noEn
  clear hK3
  obtain ⟨⟨r0, r1, r2, r3⟩, f0, f1, f2⟩ := HR.out.later kk
  have FK := Lib.hid ((HK.out.trans kk).set3 (p := w.heap.size + 1) (by omega) (.slice none 0 0) (.slice none 0 0) (.int .i64 0))
  go_wp2
  exact bodyPost_ret (v := .tuple #[.agg #[.slice none 0 0, .slice none 0 0, .int .i64 0], .int .i64 ek]) (by simp [results, Tryz.results9, go_sem, r1, r2, r3]) rfl ⟨rfl, FK.out⟩
set_option maxRecDepth 100000 in
set_option maxHeartbeats 4000000 in
theorem rundo_post (q : BkA) (b : Bk) (k y : ByteArray) (d : Int) (w : World) (hM : BkM w q b) (hy : y.size ≤ maxLen) (gd : Good b) (hk : kyI k b.ens < b.ens.length) (oh : hdE y d = 0) :
    Calls Tryz.prog 9 #[bkV q b, .string k, .string y, .int .i64 d] w (RpAny w (poY b (unX b k y d)) (poE b (unX b k y d))) := by
  have hB := (BBx.new w q b).later ((Kept.refl (w.alloc (bkO q b))).alloc noBk)
  have hR := VBk.noneAt w q b
  have hK2 := ((Kept.refl w).alloc (bkO q b)).alloc noBk
  have X : atK k b.ens = b.ens[kyI k b.ens] := atK_eq hk
  have GT := Lib.hid ((rget_any q b k _ (hM.later hK2)).mono fun e w' h => show RgEt _ (atK k b.ens) e w' from by
    rcases h with ⟨_, h⟩ | ⟨h, _⟩
    · rw [X]; exact h
    · exact absurd hk h)
  have ok : enE (atK k b.ens).key (atK k b.ens).day (atK k b.ens).lns = 0 := by rw [X]; exact (gd.each _ (List.getElem_mem hk)).1
  have shx : Shortish (atK k b.ens).lns := by rw [X]; exact (hM.she _ (List.getElem_mem hk)).2.2
  have l12 := (enE_ok ok).2.2.1
  have lz := (enE_ok ok).2.2.2.1
  have BD := Lib.hid (show ∀ x ∈ (atK k b.ens).lns, -1000000000000 ≤ x.2 ∧ x.2 ≤ 1000000000000 from fun x hx => ⟨(lnsE_all (atK k b.ens).lns [] lz x hx).2.1, (lnsE_all (atK k b.ens).lns [] lz x hx).2.2.1⟩)
  have RP := Lib.hid (fun V a cap (h : Kept w V) (hx : EtM V (unX b k y d) a cap) => rpost_rob w q b (unX b k y d) a cap V hM h hx gd)
  have hX9 : unX b k y d = ⟨y, d, negL (atK k b.ens).lns⟩ := rfl
  have EM := Lib.hid (fun V a c (h : PArg V a (negL (atK k b.ens).lns)) (h1 : (negL (atK k b.ens).lns).length ≤ c) (h2 : c ≤ maxLen) => show EtM V (unX b k y d) a c from by
    rw [hX9]; exact ⟨hy, Nat.le_trans h1 (Nat.le_trans h2 (Nat.le_refl _)), h, negL_short shx, h1, h2⟩)
  have TY := Lib.hid (fun V a cap (h : PArg V a (atK k b.ens).lns) => rturned_room (atK k b.ens).key (atK k b.ens).day a (atK k b.ens).lns cap y d V hy h l12 BD.out oh)
  have e1 : (unX b k y d).key = y := rfl
  have e2 : (unX b k y d).day = d := rfl
  have e3 : (unX b k y d).lns = negL (atK k b.ens).lns := rfl
  rw [← e3] at EM TY
  clear oh hX9 e3 shx
  generalize unX b k y d = z at *
  subst e1 e2
  generalize hW : (w.alloc (bkO q b)).alloc noBk = W at *
  have HW := Lib.hid hW
  have HK := Lib.hid hK2
  have HR := Lib.hid hR
  have HB := Lib.hid hB
  have HM := Lib.hid (hM.later hK2)
  clear hM hW hK2 hR ok lz gd hk X
  generalize atK k b.ens = x at *
  obtain ⟨b0, b1, b2, b3⟩ := hB
  go_enter Tryz.func9, Tryz.ntmps9
  go_wp2_with fail
  rw [HW.out]
  refine GT.out.mono ?_
  rintro e w1 ⟨xa, xc, rfl, hX, xle, xcm, hK1⟩
  have ka := (Kept.refl w1).alloc (enO x xa xc)
  have K2 := Lib.hid (hK1.trans ka)
  clear b0 b1 b2 b3
  have TC := Lib.hid (TY.out (w1.alloc (enO x xa xc)) xa xc (hX.later ka))
  have s1 : w.heap.size + 1 < (w1.alloc (enO x xa xc)).heap.size := (HR.out.later K2.out).box.lt
  clear ka hX hK1
  go_wp2_with fail
  refine TC.out.mono ?_
  rintro e w2 ⟨za, zc, rfl, hZ, hnew, zle, zcm, hK3⟩
  have kz := (Kept.refl w2).alloc (enO z za zc)
  have K3 := Lib.hid ((K2.out.trans hK3).trans kz)
  have PC := Lib.hid (RP.out _ za zc (HK.out.trans K3.out) (EM.out _ za zc (hZ.later kz) zle zcm))
  have ZA := Lib.hid (hZ.later kz)
  have s3 : w.heap.size + 1 < (w2.alloc (enO z za zc)).heap.size := (HR.out.later K3.out).box.lt
  have ZN := Lib.hid (fun (_ : z.lns ≠ []) p off (e : za = some ⟨p, off, none⟩) => show w.heap.size + 1 ≠ p from by have := hnew p off e; omega)
  have ZL := Lib.hid (show z.lns.length ≤ zc ∧ zc ≤ maxLen from ⟨zle, zcm⟩)
  obtain ⟨b0, b1, b2, b3⟩ := HB.out.later (K2.out.trans hK3)
  clear hZ hK3 kz hnew zle zcm
  go_wp2_with fail
  refine PC.out.mono ?_
  rintro e w5 ⟨q5, rfl, hK5, hR5⟩
  have kf := K3.out.trans hK5
  have ZA5 := Lib.hid (ZA.out.later hK5)
  clear b0 b1 b2 b3 hK5
  generalize poY b z = y at *
  generalize poE b z = ek at *
  obtain ⟨⟨r0, r1, r2, r3⟩, f0, f1, f2⟩ := HR.out.later kf
  have FK := Lib.hid ((HK.out.trans kf).set3 (p := w.heap.size + 1) (by omega) (.slice q5.aa y.acs.length q5.ca) (.slice q5.ae y.ens.length q5.ce) (.int .i64 y.shut))
  have ZF := Lib.hid (((ZA5.out.other (i := 0) (v := .slice q5.aa y.acs.length q5.ca) ZN.out).other (i := 1) (v := .slice q5.ae y.ens.length q5.ce) ZN.out).other (i := 2) (v := .int .i64 y.shut) ZN.out)
  have FM := Lib.hid (hR5 _ FK.out (EM.out _ za zc ZF.out ZL.out.1 ZL.out.2) ((((Far.refl _ w5).set s3 _).set s3 _).set s3 _))
  clear kf hR5
  go_wp2
  exact bodyPost_ret (v := .tuple #[bkV q5 y, .int .i64 ek]) (by simp [results, Tryz.results9, go_sem, r1, r2, r3]) rfl ⟨q5, rfl, FM.out, FK.out⟩
/-- What the reference's Undo returns. -/
theorem rundo_all (q : BkA) (b : Bk) (k y : ByteArray) (d : Int) (w : World) (hM : BkM w q b) (hy : y.size ≤ maxLen) (gd : Good b) :
    Calls Tryz.prog 9 #[bkV q b, .string k, .string y, .int .i64 d] w (RpAny w (unY b k y d) (unE b k y d)) := by
  have no : ∀ r, unE b k y d = r → r ≠ 0 → Calls Tryz.prog 9 #[bkV q b, .string k, .string y, .int .i64 d] w (BkNo w r) → Calls Tryz.prog 9 #[bkV q b, .string k, .string y, .int .i64 d] w (RpAny w (unY b k y d) (unE b k y d)) := fun r h h0 hc => by
    have Y : unY b k y d = noB := by unfold unY; rw [if_neg (by rw [h]; exact h0)]
    rw [Y, h]
    exact hc.mono fun e w' hh => RpAny.no hh
  by_cases hk : kyI k b.ens < b.ens.length
  · have G : gtE b k = 0 := by unfold gtE; rw [if_pos (bkE_iff.2 gd), if_pos hk]
    by_cases oh : hdE y d = 0
    · have E : unE b k y d = poE b (unX b k y d) := by unfold unE; rw [if_pos G, if_pos oh]
      have Y : unY b k y d = poY b (unX b k y d) := by unfold unY poY; rw [E]
      rw [E, Y]
      exact rundo_post q b k y d w hM hy gd hk oh
    · exact no _ (by unfold unE; rw [if_pos G, if_neg oh]) oh (rundo_head q b k y d w hM hy gd hk oh)
  · have G : gtE b k = 4 := by unfold gtE; rw [if_pos (bkE_iff.2 gd), if_neg hk]
    exact no 4 (by unfold unE; rw [if_neg (by rw [G]; decide), G]) (by decide) (rundo_none q b k y d w hM hk)
end Go.Proofs.YtbaahnafmfjpaaaGreatDoor
