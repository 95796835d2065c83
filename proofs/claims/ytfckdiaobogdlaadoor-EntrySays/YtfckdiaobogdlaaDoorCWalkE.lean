/-
  The reference of reversed entries: talref.Turned. No condition but those that each theorem names.
-/
import Derived.Test.YtfckdiaobogdlaaDoorCWalkD
namespace Go.Proofs.YtfckdiaobogdlaaDoor
open Go.RowKit
set_option linter.unusedVariables false

theorem WBx.grown {w w' : World} {p : Nat} {k : ByteArray} {d : Int} {v : Value} {row : Option Nat} (h : WBx w p k d v) (g : w.grownBy w' row) (hne : some p ≠ row) : WBx w' p k d v := by
  have hb := g.block p h.box.lt hne
  exact ⟨⟨Nat.lt_of_lt_of_le h.box.lt g.size, g.cell h.box.c0 hne, g.cell h.box.c1 hne, g.cell h.box.c2 hne⟩, (World.frozen?_of_block (a := ⟨p, 0, none⟩) hb).trans h.f0, (World.frozen?_of_block (a := ⟨p, 1, none⟩) hb).trans h.f1, (World.frozen?_of_block (a := ⟨p, 2, none⟩) hb).trans h.f2⟩
theorem WBx.set2' {w : World} {p : Nat} {k : ByteArray} {d : Int} {v u : Value} (h : WBx w p k d v) : WBx (w.setCell ⟨p, 2, none⟩ u) p k d u := by
  obtain ⟨⟨h0, h1, h2, h3⟩, f0, f1, f2⟩ := h
  exact ⟨⟨by simpa using h0, by go_simp, by go_simp, by go_simp⟩, by go_simp, by go_simp, by go_simp⟩
theorem PGr.other' {T : TypeId} {B r i : Nat} {w : World} {v u : Value} {l : List Pr} (h : PGr T B w v l) (hr : r < B) : PGr T B (w.setCell ⟨r, i, none⟩ u) v l := ⟨ownsRow_setCell_below h.own hr u⟩
/-- No entry, and an error. -/
theorem neg_take {l : List Pr} {j : Nat} (h : j < l.length) : negL (l.take (j + 1)) = negL (l.take j) ++ [negP l[j]] := by
  unfold negL
  rw [List.take_succ_eq_append_getElem h, List.map_append]; rfl
set_option maxRecDepth 100000 in
set_option maxHeartbeats 2000000 in
theorem rturned_no (v0 : Value) (k : ByteArray) (d : Int) (a : Option Addr) (l : List Pr) (cap : Nat) (key : ByteArray) (day : Int) (w : World) (hv : v0 = enV k d a l.length cap) (hs2 : key.size ≤ maxLen) (er : hdE key day ≠ 0) :
    Calls Tryd.prog 17 #[v0, .string key, .int .i64 day] w (EnNo w (hdE key day)) := by
  subst hv
  have k0 := ((Kept.refl w).alloc (.cells #[.string k, .int .i64 d, .slice a l.length cap] 37)).alloc (.cells #[.string ⟨#[]⟩, .int .i64 0, .slice none 0 0] 37)
  cases h : keyB key
  · have E := Lib.hid (hdE_key (d := day) h)
    rw [E.out]
    have K := Lib.hid h
    clear h er
    go_enter Tryd.func17, Tryd.ntmps17
    go_wp2_with fail
    refine (rkey_any _ _ hs2).mono ?_
    rintro e w1 ⟨rfl, rfl⟩
    rw [K.out]
    go_wp2
    exact bodyPost_ret (v := .tuple #[.agg #[.string ⟨#[]⟩, .int .i64 0, .slice none 0 0], .int .i64 3]) (by simp [results, Tryd.results17, go_sem]) rfl ⟨rfl, k0⟩
  · cases g : inB day 0 292193
    · have E := Lib.hid (hdE_day h g)
      rw [E.out]
      have K := Lib.hid h
      have G := Lib.hid g
      clear h er g
      go_enter Tryd.func17, Tryd.ntmps17
      go_wp2_with fail
      refine (rkey_any _ _ hs2).mono ?_
      rintro e w1 ⟨rfl, rfl⟩
      rw [K.out]
      go_wp2_with fail
      refine (rday_any _ _).mono ?_
      rintro e w1 ⟨rfl, rfl⟩
      rw [G.out]
      go_wp2
      exact bodyPost_ret (v := .tuple #[.agg #[.string ⟨#[]⟩, .int .i64 0, .slice none 0 0], .int .i64 1]) (by simp [results, Tryd.results17, go_sem]) rfl ⟨rfl, k0⟩
    · exact absurd (hdE_ok h g) er
/-- None, or a place in new memory. -/
def NewAt (w : World) (a : Option Addr) : Prop := ∀ p off, a = some ⟨p, off, none⟩ → w.heap.size ≤ p
theorem PGr.newAt {T : TypeId} {B c : Nat} {w W : World} {a : Option Addr} {n : Nat} {l : List Pr} (h : PGr T B w (.slice a n c) l) (hB : W.heap.size ≤ B) : NewAt W a := by
  intro p off e
  rcases h.own.2 with ⟨e1, _⟩ | ⟨q, c', cur, e1, hb, _⟩
  · rw [e] at e1; simp at e1
  · rw [e] at e1
    obtain ⟨⟨rfl, _⟩, _⟩ : (p = q ∧ off = 0) ∧ _ := by simpa using e1
    omega
theorem PRow.other' {w : World} {p off r i : Nat} {l : List Pr} {v : Value} (h : PRow w p off l) (hr : r ≠ p) : PRow (w.setCell ⟨r, i, none⟩ v) p off l := by
  have hr' : p ≠ r := fun e => hr e.symm
  refine ⟨by simpa using h.lt, fun j hj => ?_, fun j hj => ?_⟩
  · have hc := h.c0 j hj
    go_simp
  · have hc := h.c1 j hj
    go_simp
theorem PArg.other {w : World} {a : Option Addr} {r i : Nat} {l : List Pr} {v : Value} (h : PArg w a l) (hr : l ≠ [] → ∀ p off, a = some ⟨p, off, none⟩ → r ≠ p) : PArg (w.setCell ⟨r, i, none⟩ v) a l := by
  by_cases hl : l = []
  · exact .inl hl
  rcases h with h | ⟨p, off, e, h⟩
  · exact .inl h
  · exact .inr ⟨p, off, e, h.other' (hr hl p off e)⟩
/-- An entry with a row of its own that has grown, and no error. -/
def EnGrown (w : World) (k : ByteArray) (d : Int) (l : List Pr) (e : Ending) (w' : World) : Prop :=
  ∃ a c, e = .returned (.tuple #[.agg #[.string k, .int .i64 d, .slice a l.length c], .int .i64 0]) ∧ PArg w' a l ∧ NewAt w a ∧ Kept w w'
set_option maxRecDepth 100000 in
set_option maxHeartbeats 4000000 in
theorem rturned_yes (k : ByteArray) (d : Int) (a : Option Addr) (l : List Pr) (cap : Nat) (key : ByteArray) (day : Int) (w : World) (hs2 : key.size ≤ maxLen) (hA : PArg w a l) (hl : l.length ≤ 12) (hb : ∀ x ∈ l, -1000000000000 ≤ x.2 ∧ x.2 ≤ 1000000000000) (oh : hdE key day = 0) :
    Calls Tryd.prog 17 #[enV k d a l.length cap, .string key, .int .i64 day] w (EnGrown w key day (negL l)) := by
  have k0 := ((Kept.refl w).alloc (.cells #[.string k, .int .i64 d, .slice a l.length cap] 37)).alloc (.cells #[.string ⟨#[]⟩, .int .i64 0, .slice none 0 0] 37)
  have hE0 := (EBx.new w k d (.slice a l.length cap) 37).later ((Kept.refl _).alloc (.cells #[.string ⟨#[]⟩, .int .i64 0, .slice none 0 0] 37))
  have hR0 := WBx.new (w.alloc (.cells #[.string k, .int .i64 d, .slice a l.length cap] 37)) ⟨#[]⟩ 0 (.slice none 0 0) 37 (w.heap.size + 1) (by simp)
  have hO0 := WBx.new ((w.alloc (.cells #[.string k, .int .i64 d, .slice a l.length cap] 37)).alloc (.cells #[.string ⟨#[]⟩, .int .i64 0, .slice none 0 0] 37)) key day (.slice none 0 0) 37 (w.heap.size + 1 + 1) (by simp)
  have HA := Lib.hid hA
  have BD := Lib.hid hb
  have KB : keyB key = true := by
    cases h : keyB key
    · rw [hdE_key h] at oh; cases oh
    · rfl
  have DB : inB day 0 292193 = true := by
    cases h : inB day 0 292193
    · rw [hdE_day KB h] at oh; cases oh
    · rfl
  have K := Lib.hid KB
  have G := Lib.hid DB
  clear KB DB oh hA hb
  go_enter Tryd.func17, Tryd.ntmps17
  go_wp2_with fail
  refine (rkey_any _ _ hs2).mono ?_
  rintro e w1 ⟨rfl, rfl⟩
  rw [K.out]
  go_wp2_with fail
  refine (rday_any _ _).mono ?_
  rintro e w1 ⟨rfl, rfl⟩
  rw [G.out]
  go_wp2
  have W2s : ((w.alloc (.cells #[.string k, .int .i64 d, .slice a l.length cap] 37)).alloc (.cells #[.string ⟨#[]⟩, .int .i64 0, .slice none 0 0] 37)).heap.size = w.heap.size + 1 + 1 := by simp
  generalize (w.alloc (.cells #[.string k, .int .i64 d, .slice a l.length cap] 37)).alloc (.cells #[.string ⟨#[]⟩, .int .i64 0, .slice none 0 0] 37) = W2 at *
  have HR0 := Lib.hid hR0
  have HK0 := Lib.hid k0
  have kO := Lib.hid ((Kept.refl W2).alloc (.cells #[.string key, .int .i64 day, .slice none 0 0] 37))
  generalize W2.alloc (.cells #[.string key, .int .i64 day, .slice none 0 0] 37) = W3 at *
  have hbr : w.heap.size + 1 < w.heap.size + 1 + 1 := by omega
  have hbr0 : w.heap.size ≤ w.heap.size + 1 := by omega
  have hW2 : W2.heap.size ≤ w.heap.size + 1 + 1 := by omega
  have W3s : w.heap.size + 1 + 1 < W3.heap.size := hO0.box.lt
  clear hE0 hR0 k0 W2s
  generalize w.heap.size + 1 + 1 = bo at *
  generalize hbr9 : w.heap.size + 1 = br at *
  go_loopw [25] (fun i wr => ∃ (j : Nat) (v : Value), j ≤ l.length ∧ i = .int .i64 j ∧ WBx wr bo key day v ∧ PGr 53 (bo + 1) wr v (negL (l.take j)) ∧ Kept W2 wr) (fun i _ => l.length - (intOf i).toNat)
  case atStart => exact ⟨0, _, Nat.zero_le _, rfl, hO0, PGr.nil _ _ _, kO.out⟩
  case round =>
    clear hO0
    obtain ⟨j, v, hj, rfl, hO, hG, hK⟩ := hrel
    obtain ⟨av, cv, rfl, _, _⟩ := hG.form
    by_cases hlt : j < l.length
    · obtain ⟨p, off, rfl, hR⟩ := (HA.out.later (HK0.out.trans hK)).at hlt
      have c0 := hR.c0 j hlt
      have c1 := hR.c1 j hlt
      have plt := hR.lt
      obtain ⟨z1, z2⟩ := BD.out l[j] (List.getElem_mem _)
      have HN := Lib.hid (neg_take hlt)
      have ml : (negL (l.take j)).length ≤ 12 := by rw [negL_len, List.length_take]; omega
      clear hR
      generalize l[j] = x at *
      generalize negL (l.take j) = m at *
      have kb := ((Kept.refl wr).alloc (.cells #[.string x.1, .int .i64 x.2] 53)).alloc (.cells #[.string x.1, .int .i64 (-x.2)] 53)
      have hO1 := hO.later kb
      have hG1 := hG.later kb
      have hK1 := hK.trans kb
      have olt := hO.box.lt
      have n0 : (((wr.alloc (.cells #[.string x.1, .int .i64 x.2] 53)).alloc (.cells #[.string x.1, .int .i64 (-x.2)] 53))).cell? ⟨wr.heap.size + 1, 0, none⟩ = some (.string (negP x).1) := by simp [negP]
      have n1 : (((wr.alloc (.cells #[.string x.1, .int .i64 x.2] 53)).alloc (.cells #[.string x.1, .int .i64 (-x.2)] 53))).cell? ⟨wr.heap.size + 1, 1, none⟩ = some (.int .i64 (negP x).2) := by simp [negP]
      have N0 := Lib.hid n0
      have N1 := Lib.hid n1
      obtain ⟨⟨b0, b1, b2, b3⟩, f0, f1, f2⟩ := id hO
      clear n0 n1 kb
      go_wp2_with (at_builtin; refine app_pr 53 35 pairLine Tryd.underlying35 rfl _ _ rfl rfl rfl hG1 N0.out N1.out (by omega) (by simp; omega) ?_)
      intro v' w5 hG5 hgr
      have hK5 : Kept W2 w5 := hG1.below (by omega) hK1 hgr
      have hO5 := hO1.grown hgr (fun e => by have := (hG1.own.lt bo e.symm).1; omega)
      obtain ⟨a5, c5, rfl, _, _⟩ := hG5.form
      rw [show (m ++ [negP x]).length = m.length + 1 by simp] at hG5 ⊢
      clear hG hG1 hK hK1 hO hO1 b0 b1 b2 b3 f0 f1 f2 c0 c1 plt hgr N0 N1
      obtain ⟨⟨b0, b1, b2, b3⟩, f0, f1, f2⟩ := id hO5
      go_wp2
      go_roundw
      case rel => exact ⟨j + 1, _, by omega, by go_num, hO5.set2', by rw [HN.out]; exact hG5.other' (r := bo) (Nat.lt_succ_self _), hK5.setAt hW2 _⟩
      case measure => simp [intOf]; omega
    · obtain rfl : j = l.length := by omega
      clear hlt
      rw [List.take_length] at *
      obtain ⟨⟨b0, b1, b2, b3⟩, f0, f1, f2⟩ := id hO
      obtain ⟨⟨r0, r1, r2, r3⟩, q0, q1, q2⟩ := HR0.out.later hK
      have hKK := HK0.out.trans hK
      have NL := Lib.hid (negL_len l)
      have rb : br < bo + 1 := by omega
      have rw0 : w.heap.size ≤ br := by omega
      have hG9 := ((hG.other' (i := 0) (u := .string key) rb).other' (i := 1) (u := .int .i64 day) rb).other' (i := 2) (u := .slice av (negL l).length cv) rb
      clear hbr9
      have ro : br ≠ bo := by omega
      have ro' : bo ≠ br := by omega
      clear hG
      go_wp2
      exact bodyPost_ret (v := .tuple #[.agg #[.string key, .int .i64 day, .slice av (negL l).length cv], .int .i64 0]) (by simp [results, Tryd.results17, go_sem, r1, r2, r3]) rfl ⟨av, cv, rfl, hG9.arg, hG9.newAt (by omega), ((hKK.setAt rw0 _).setAt rw0 _).setAt rw0 _⟩
end Go.Proofs.YtfckdiaobogdlaaDoor
