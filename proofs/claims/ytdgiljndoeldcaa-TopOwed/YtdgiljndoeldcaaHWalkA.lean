/-
  What package book's validDay, before, same, copiedEntry and copied return. No condition but those that each theorem names.
-/
import Derived.Test.YtdgiljndoeldcaaHMap
namespace Go.Proofs.Ytdgiljndoeldcaa
open Go.RowKit
set_option linter.unusedVariables false

set_option maxHeartbeats 1000000 in
theorem vday_anyH (n : Int) (w : World) : Calls Try.prog 67 #[.int .i64 n] w fun e w' => e = .returned (.bool (dyB n)) ∧ w = w' := by
  by_cases h1 : 0 ≤ n
  · by_cases h2 : n ≤ 292193
    · have E := Lib.hid ((dyB_iff n).2 ⟨h1, h2⟩)
      go_enter Try.func67, Try.ntmps67
      go_wp2
      go_ret
      exact ⟨ret_bool E.out.symm, rfl⟩
    · have E := Lib.hid (show dyB n = false by unfold dyB; simp [h2])
      go_enter Try.func67, Try.ntmps67
      go_wp2
      go_ret
      exact ⟨ret_bool E.out.symm, rfl⟩
  · have E := Lib.hid (show dyB n = false by unfold dyB; simp [h1])
    go_enter Try.func67, Try.ntmps67
    go_wp2
    go_ret
    exact ⟨ret_bool E.out.symm, rfl⟩
set_option maxHeartbeats 1000000 in
theorem before_any (x y : Et) (a b : Option Addr) (n n' cap cap' : Nat) (w : World) :
    Calls Try.prog 62 #[enV x.key x.day a n cap, enV y.key y.day b n' cap'] w fun e w' => e = .returned (.bool (befB x y)) ∧ Kept w w' := by
  have hK := ((Kept.refl w).alloc (.cells #[.string x.key, .int .i64 x.day, .slice a n cap] 64)).alloc (.cells #[.string y.key, .int .i64 y.day, .slice b n' cap'] 64)
  by_cases h : x.day = y.day
  · have E := Lib.hid (show befB x y = Op.bytesLess x.key.toList y.key.toList by unfold befB; rw [if_pos h]; rfl)
    have h1 : (x.day != y.day) = false := by simp [h]
    have h2 : (x.day == y.day) = true := by simp [h]
    clear h
    go_enter Try.func62, Try.ntmps62
    go_wp2
    go_ret
    exact ⟨ret_bool E.out.symm, hK⟩
  · have h1 : (x.day != y.day) = true := by simpa using h
    have h2 : (x.day == y.day) = false := by simpa using h
    have E := Lib.hid (show befB x y = decide (x.day < y.day) by unfold befB; rw [if_neg h])
    clear h
    go_enter Try.func62, Try.ntmps62
    go_wp2
    go_ret
    exact ⟨ret_bool E.out.symm, hK⟩
theorem take_eq_snoc {l m : List Pr} {k : Nat} (h : l.take k = m.take k) (hl : k < l.length) (hm : k < m.length) (e : l[k] = m[k]) : l.take (k + 1) = m.take (k + 1) := by
  rw [List.take_succ_eq_append_getElem hl, List.take_succ_eq_append_getElem hm, h, e]
theorem ne_at {l m : List Pr} {k : Nat} (hl : k < l.length) (hm : k < m.length) (e : l[k] ≠ m[k]) : l ≠ m := fun h => e (by subst h; rfl)
set_option maxHeartbeats 4000000 in
theorem lequal_any (l m : List Pr) (a b : Option Addr) (n n' cap cap' : Nat) (w : World) (hn : l.length ≤ 1000) (hn' : m.length ≤ 1000) (e : l.length = n) (e' : m.length = n') (hR : PArg w a l) (hQ : PArg w b m) :
    Calls Try.prog 82 #[.slice a n cap, .slice b n' cap'] w fun e w' => e = .returned (.bool (decide (l = m))) ∧ Drew w w' := by
  by_cases hnn : n = n'
  · subst hnn
    have HR := Lib.hid hR
    have HQ := Lib.hid hQ
    have HE := Lib.hid e
    have HE' := Lib.hid e'
    have hn9 : n ≤ 1000 := by omega
    clear hR hQ e e' hn hn'
    go_enter Try.func82, Try.ntmps82
    go_wp2
    go_loopw [13] (fun i wr => ∃ k t : Nat, k ≤ n ∧ i = .int .i64 k ∧ wr = w.drewN t ∧ Hid (l.take k = m.take k)) (fun i _ => (n - intOf i).toNat)
    case atStart => exact ⟨0, 0, by omega, rfl, rfl, Lib.hid rfl⟩
    case round =>
      obtain ⟨k, t, hk, rfl, rfl, HT⟩ := hrel
      by_cases hlt : k < n
      · have hl : k < l.length := by rw [HE.out]; exact hlt
        have hm : k < m.length := by rw [HE'.out]; exact hlt
        obtain ⟨p, off, rfl, hp⟩ := HR.out.at hl
        obtain ⟨q, off', rfl, hq⟩ := HQ.out.at hm
        have c0 := hp.c0 k hl
        have c1 := hp.c1 k hl
        have d0 := hq.c0 k hm
        have d1 := hq.c1 k hm
        have i0 : (0 : Int) ≤ (k : Int) := by omega
        have i1 : (k : Int) < (n : Int) := by omega
        by_cases hxy : l[k] = m[k]
        · have HN := Lib.hid (take_eq_snoc HT.out hl hm hxy)
          rw [← hxy] at d0 d1
          clear hp hq hxy
          generalize l[k] = x at *
          clear hl hm
          go_wp2_with fail
          go_quiet (fail)
          go_wp2
          go_roundw
          case rel => exact ⟨k + 1, _, by omega, by go_num, rfl, HN⟩
          case measure => simp [intOf]; omega
        · have HN := Lib.hid (show decide (l = m) = false from decide_eq_false (ne_at hl hm hxy))
          clear hp hq
          generalize l[k] = x at *
          generalize m[k] = y at *
          clear hl hm
          by_cases f1 : x.1 = y.1
          · have f2 : x.2 ≠ y.2 := fun h => hxy (Prod.ext f1 h)
            rw [← f1] at d0
            have f3 : (x.2 == y.2) = false := by simpa using f2
            clear hxy f2 f1
            go_wp2_with fail
            go_quiet (fail)
            go_wp2
            go_ret
            exact ⟨ret_bool HN.out.symm, (Drew.drewN ⟨t, rfl⟩ _)⟩
          · have f3 : (x.1.toList == y.1.toList) = false := by rw [beq_eq_false_iff_ne]; exact fun h => f1 (ba_ext h)
            clear hxy f1
            go_wp2_with fail
            go_quiet (fail)
            go_wp2
            go_ret
            exact ⟨ret_bool HN.out.symm, (Drew.drewN ⟨t, rfl⟩ _)⟩
      · obtain rfl : k = n := by omega
        clear hlt
        have HN := Lib.hid (show decide (l = m) = true from decide_eq_true (by
          have := HT.out
          rw [List.take_of_length_le (by rw [HE.out]; exact Nat.le_refl _), List.take_of_length_le (by rw [HE'.out]; exact Nat.le_refl _)] at this; exact this))
        go_wp2
        go_ret
        exact ⟨ret_bool HN.out.symm, t, rfl⟩
  · have HN := Lib.hid (show decide (l = m) = false from decide_eq_false (fun h => hnn (by rw [← e, ← e', h])))
    have h1 : ((n : Int) != (n' : Int)) = true := by simpa using fun h => hnn (by omega)
    have h2 : ((n : Int) == (n' : Int)) = false := by simpa using fun h => hnn (by omega)
    have g1 : n ≤ 1000 := by omega
    have g2 : n' ≤ 1000 := by omega
    clear hR hQ e e' hnn hn hn'
    go_enter Try.func82, Try.ntmps82
    go_wp2
    go_ret
    exact ⟨ret_bool HN.out.symm, Drew.refl _⟩
set_option maxHeartbeats 2000000 in
theorem same_any (x y : Et) (a b : Option Addr) (n n' cap cap' : Nat) (w : World) (hn : x.lns.length ≤ 1000) (hn' : y.lns.length ≤ 1000) (e : x.lns.length = n) (e' : y.lns.length = n') (hR : PArg w a x.lns) (hQ : PArg w b y.lns) :
    Calls Try.prog 57 #[enV x.key x.day a n cap, enV y.key y.day b n' cap'] w fun e w' => e = .returned (.bool (smB x y)) ∧ Kept w w' := by
  have hK := ((Kept.refl w).alloc (.cells #[.string x.key, .int .i64 x.day, .slice a n cap] 64)).alloc (.cells #[.string y.key, .int .i64 y.day, .slice b n' cap'] 64)
  have HX := Lib.hid (lequal_any x.lns y.lns a b n n' cap cap' _ hn hn' e e' (hR.later hK) (hQ.later hK))
  have E := Lib.hid (show smB x y = ((x.key.toList == y.key.toList) && (x.day == y.day) && decide (x.lns = y.lns)) from rfl)
  clear hR hQ e e'
  generalize smB x y = r at *
  cases h1 : (x.key.toList == y.key.toList)
  · rw [h1] at E
    go_enter Try.func57, Try.ntmps57
    go_wp2
    go_ret
    exact ⟨ret_bool E.out.symm, hK⟩
  · cases h2 : (x.day == y.day)
    · rw [h1, h2] at E
      go_enter Try.func57, Try.ntmps57
      go_wp2
      go_ret
      exact ⟨ret_bool E.out.symm, hK⟩
    · rw [h1, h2] at E
      generalize decide (x.lns = y.lns) = t at *
      go_enter Try.func57, Try.ntmps57
      go_wp2_with fail
      refine HX.out.mono ?_
      rintro e w1 ⟨rfl, hD⟩
      go_wp2
      go_ret
      exact ⟨ret_bool (by rw [E.out]; simp), hK.trans hD.kept⟩
/-- An entry of the call's own. -/
def CpPost (w : World) (x : Et) (e : Ending) (w' : World) : Prop :=
  ∃ p, w.heap.size ≤ p ∧ e = .returned (enV x.key x.day (some ⟨p, 0, none⟩) x.lns.length x.lns.length) ∧ POwn w' p x.lns ∧ Kept w w'
set_option maxHeartbeats 2000000 in
theorem cpe_any (x : Et) (a : Option Addr) (cap : Nat) (w : World) (hA : PArg w a x.lns) (hn : x.lns.length ≤ 1000) :
    Calls Try.prog 64 #[enV x.key x.day a x.lns.length cap] w (CpPost w x) := by
  have hK := (Kept.refl w).alloc (.cells #[.string x.key, .int .i64 x.day, .slice a x.lns.length cap] 64)
  have hB := EBx.new w x.key x.day (.slice a x.lns.length cap) 64
  have hA2 := Lib.hid hA
  have mk := make_lines x.lns.length (by omega)
  generalize hl : x.lns.length = n at *
  have HL := Lib.hid hl
  clear hl hA
  have hR := WBx.new (w.alloc (.cells #[.string x.key, .int .i64 x.day, .slice a n cap] 64)) ⟨#[]⟩ 0 (.slice none 0 0) 64 (w.heap.size + 1) (by simp)
  have hB2 := hB.later ((Kept.refl (w.alloc (.cells #[.string x.key, .int .i64 x.day, .slice a n cap] 64))).alloc (.cells #[.string ⟨#[]⟩, .int .i64 0, .slice none 0 0] 64))
  have hK2 := hK.alloc (.cells #[.string ⟨#[]⟩, .int .i64 0, .slice none 0 0] 64)
  have hS : ((w.alloc (.cells #[.string x.key, .int .i64 x.day, .slice a n cap] 64)).alloc (.cells #[.string ⟨#[]⟩, .int .i64 0, .slice none 0 0] 64)).heap.size = w.heap.size + 1 + 1 := by simp
  generalize hW : (w.alloc (.cells #[.string x.key, .int .i64 x.day, .slice a n cap] 64)).alloc (.cells #[.string ⟨#[]⟩, .int .i64 0, .slice none 0 0] 64) = W at hR hB2 hK2 hS
  have HR := Lib.hid hR
  have HB := Lib.hid hB2
  have HS := Lib.hid hS
  have HK := Lib.hid hK2
  have HW := Lib.hid hW
  clear hB hK hR hB2 hS hK2 hW
  go_enter Try.func64, Try.ntmps64
  go_wp2_with (with_reducible show wpList _ _ _ _ _ _; rw [HW.out]; refine wpList_copy_pr (o := ⟨some 11, _, _, _, _, _⟩) 97 62 pairLine Try.underlying62 (W := W) (l := x.lns) (m := List.replicate n noP) rfl _ _ rfl rfl rfl HL.out (by simp) (hA2.out.later (HK.out.alloc _)) (POwn.made HS.out) ((Kept.refl W).alloc _) (by rw [HS.out]; exact Nat.le_refl _) ?_)
  intro w2 hO2 hK2
  obtain ⟨b0, b1, b2, b3⟩ := HB.out.later hK2
  obtain ⟨⟨r0, r1, r2, r3⟩, f0, f1, f2⟩ := HR.out.later hK2
  have hKw := HK.out.trans hK2
  have hne : w.heap.size + 1 ≠ w.heap.size + 1 + 1 := by omega
  have hO3 := Lib.hid (((hO2.other (r := w.heap.size + 1) (i := 0) (v := .string x.key) hne).other (r := w.heap.size + 1) (i := 1) (v := .int .i64 x.day) hne).other (r := w.heap.size + 1) (i := 2) (v := .slice (some ⟨w.heap.size + 1 + 1, 0, none⟩) n n) hne)
  have hK3 := Lib.hid (((hKw.setAt (b := w.heap.size + 1) (i := 0) (by omega) (.string x.key)).setAt (b := w.heap.size + 1) (i := 1) (by omega) (.int .i64 x.day)).setAt (b := w.heap.size + 1) (i := 2) (by omega) (.slice (some ⟨w.heap.size + 1 + 1, 0, none⟩) n n))
  clear hO2 hK2 hKw
  go_wp2
  exact bodyPost_ret (v := enV x.key x.day (some ⟨w.heap.size + 1 + 1, 0, none⟩) n n) (by simp [results, Try.results64, go_sem, r1, r2, r3]) rfl ⟨w.heap.size + 1 + 1, by omega, by rw [HL.out], hO3.out, hK3.out⟩
/-- A value that points elsewhere. -/
def OffB (g : Nat) (v : Value) : Prop := ∀ p off n c, v = .slice (some ⟨p, off, none⟩) n c → g < p
theorem PRow.off {w : World} {p off r i : Nat} {l : List Pr} {v : Value} (h : PRow w p off l) (hr : p ≠ r) : PRow (w.setCell ⟨r, i, none⟩ v) p off l := by
  refine ⟨by simpa using h.lt, fun j hj => ?_, fun j hj => ?_⟩
  · have hc := h.c0 j hj
    go_simp
  · have hc := h.c1 j hj
    go_simp
theorem LnA.off {w : World} {g r i : Nat} {v u : Value} {l : List Pr} (h : LnA w v l) (ho : OffB g v) (hr : r ≤ g) : LnA (w.setCell ⟨r, i, none⟩ u) v l := by
  obtain ⟨a, cap, rfl, h1, h2, h3⟩ := h
  refine ⟨a, cap, rfl, h1, h2, ?_⟩
  rcases h3 with h3 | ⟨p, off, rfl, h3⟩
  · exact .inl h3
  · exact .inr ⟨p, off, rfl, h3.off (by have := ho p off _ _ rfl; omega)⟩
theorem Enc.off {w : World} {g r i : Nat} {u : Value} (hr : r ≤ g) : ∀ {l : List Et} {cs : List Value}, Enc w l cs → (∀ v ∈ cs, OffB g v) → Enc (w.setCell ⟨r, i, none⟩ u) l cs
  | [], _, h, _ => h
  | x :: _, _, ⟨v, t, e, h1, h2⟩, ho => ⟨v, t, e, h1.off (ho v (by rw [e]; simp)) hr, h2.off hr fun z hz => ho z (by rw [e]; simp [hz])⟩
/-- A value that points to memory of its own. -/
def NewV (B : Nat) (v : Value) : Prop := ∀ p off n c, v = .slice (some ⟨p, off, none⟩) n c → B ≤ p
theorem NewV.of {g B : Nat} {v : Value} (h : OffB g v) (hB : B ≤ g + 1) : NewV B v := fun p off n c e => by have := h p off n c e; omega
theorem NewV.mono {A B : Nat} {v : Value} (h : NewV B v) (hA : A ≤ B) : NewV A v := fun p off n c e => Nat.le_trans hA (h p off n c e)
theorem NewV.offB {B r : Nat} {v : Value} (h : NewV B v) (hr : r < B) : OffB r v := fun p off n c e => Nat.lt_of_lt_of_le hr (h p off n c e)
/-- A book in memory of its own. -/
structure BkF (w : World) (B : Nat) (q : BkA) (b : Bk) : Prop where
  acs : ∃ p, q.aa = some ⟨p, 0, none⟩ ∧ B ≤ p ∧ PRow w p 0 b.acs
  sha : Shortish b.acs
  la : b.acs.length ≤ q.ca
  lca : q.ca ≤ maxLen
  ens : ∃ p cs, q.ae = some ⟨p, 0, none⟩ ∧ B ≤ p ∧ p < w.heap.size ∧ Enc w b.ens cs ∧ (∀ j v, cs[j]? = some v → w.cell? ⟨p, j, none⟩ = some v) ∧ ∀ v ∈ cs, NewV B v
  she : EShort b.ens
  le : b.ens.length ≤ q.ce
  lce : q.ce ≤ maxLen
theorem BkF.m {w : World} {B : Nat} {q : BkA} {b : Bk} (h : BkF w B q b) : BkM w q b := by
  obtain ⟨p, e, _, hp⟩ := h.acs
  obtain ⟨g, cs, e2, _, hl, hc, hd, _⟩ := h.ens
  exact ⟨.inr ⟨p, 0, e, hp⟩, h.sha, h.la, h.lca, .inr ⟨g, 0, e2, hl, cs, hc, fun j v hj => by rw [Nat.zero_add]; exact hd j v hj⟩, h.she, h.le, h.lce⟩
theorem BkF.later {w w' : World} {B : Nat} {q : BkA} {b : Bk} (h : BkF w B q b) (k : Kept w w') : BkF w' B q b := by
  obtain ⟨p, e, h1, hp⟩ := h.acs
  obtain ⟨g, cs, e2, h2, hl, hc, hd, hn⟩ := h.ens
  exact ⟨⟨p, e, h1, hp.later k⟩, h.sha, h.la, h.lca, ⟨g, cs, e2, h2, Nat.lt_of_lt_of_le hl k.le, hc.later k, fun j v hj => (k.rd.1 _ _ hl).trans (hd j v hj), hn⟩, h.she, h.le, h.lce⟩
theorem BkF.mono {w : World} {A B : Nat} {q : BkA} {b : Bk} (h : BkF w B q b) (hA : A ≤ B) : BkF w A q b := by
  obtain ⟨p, e, h1, hp⟩ := h.acs
  obtain ⟨g, cs, e2, h2, hl, hc, hd, hn⟩ := h.ens
  exact ⟨⟨p, e, Nat.le_trans hA h1, hp⟩, h.sha, h.la, h.lca, ⟨g, cs, e2, Nat.le_trans hA h2, hl, hc, hd, fun v hv => (hn v hv).mono hA⟩, h.she, h.le, h.lce⟩
/-- .. which stays when a cell is written elsewhere. -/
theorem BkF.set {w : World} {B r i : Nat} {q : BkA} {b : Bk} {u : Value} (h : BkF w B q b) (hr : r < B) : BkF (w.setCell ⟨r, i, none⟩ u) B q b := by
  obtain ⟨p, e, h1, hp⟩ := h.acs
  obtain ⟨g, cs, e2, h2, hl, hc, hd, hn⟩ := h.ens
  refine ⟨⟨p, e, h1, hp.off (by omega)⟩, h.sha, h.la, h.lca, ⟨g, cs, e2, h2, by simpa using hl, hc.off (Nat.le_refl r) fun v hv => (hn v hv).offB hr, fun j v hj => ?_, hn⟩, h.she, h.le, h.lce⟩
  have := hd j v hj
  have n4 : g ≠ r := by omega
  go_simp
theorem BkF.shut {w : World} {B : Nat} {q : BkA} {b : Bk} (h : BkF w B q b) (d : Int) : BkF w B q ⟨b.acs, b.ens, d⟩ := ⟨h.acs, h.sha, h.la, h.lca, h.ens, h.she, h.le, h.lce⟩
/-- A book of the call's own. -/
def CopyPost (w : World) (b : Bk) (e : Ending) (w' : World) : Prop :=
  ∃ p g, e = .returned (bkV ⟨some ⟨p, 0, none⟩, b.acs.length, some ⟨g, 0, none⟩, b.ens.length⟩ b) ∧ BkF w' w.heap.size ⟨some ⟨p, 0, none⟩, b.acs.length, some ⟨g, 0, none⟩, b.ens.length⟩ b ∧ Kept w w'
theorem POwn.parg {w : World} {p : Nat} {l : List Pr} (h : POwn w p l) : PArg w (some ⟨p, 0, none⟩) l := .inr ⟨p, 0, rfl, h.row⟩
theorem POwn.lnA {w : World} {p : Nat} {l : List Pr} (h : POwn w p l) (hn : l.length ≤ 1000) : LnA w (.slice (some ⟨p, 0, none⟩) l.length l.length) l := ⟨_, _, rfl, Nat.le_refl _, by unfold maxLen; omega, h.parg⟩
abbrev noBk : Obj := .cells #[.slice none 0 0, .slice none 0 0, .int .i64 0] 58
/-- A struct of a book that may be written, in a box of its own. -/
structure VBk (w : World) (p : Nat) (q : BkA) (b : Bk) : Prop where
  box : BBx w p q b
  f0 : w.frozen? ⟨p, 0, none⟩ = false
  f1 : w.frozen? ⟨p, 1, none⟩ = false
  f2 : w.frozen? ⟨p, 2, none⟩ = false
theorem VBk.later {w w' : World} {p : Nat} {q : BkA} {b : Bk} (h : VBk w p q b) (k : Kept w w') : VBk w' p q b :=
  ⟨h.box.later k, (k.rd.2 _ _ h.box.lt).trans h.f0, (k.rd.2 _ _ h.box.lt).trans h.f1, (k.rd.2 _ _ h.box.lt).trans h.f2⟩
def noA : BkA := ⟨none, 0, none, 0⟩
def noB : Bk := ⟨[], [], 0⟩
theorem VBk.none (w : World) (p : Nat) (hp : w.heap.size = p) : VBk (w.alloc noBk) p noA noB := by
  subst hp; exact ⟨⟨by simp, by simp [noA, noB], by simp [noA, noB], by simp [noB]⟩, by simp, by simp, by simp⟩
theorem BBx.other {w : World} {p r i : Nat} {q : BkA} {b : Bk} {v : Value} (h : BBx w p q b) (hr : r ≠ p) : BBx (w.setCell ⟨r, i, Option.none⟩ v) p q b := by
  obtain ⟨a, c, d, e⟩ := h
  have hr' : p ≠ r := fun e => hr e.symm
  refine ⟨by simpa using a, ?_, ?_, ?_⟩ <;> go_simp
theorem ens_take {l : List Et} {k : Nat} (h : k < l.length) : l.take (k + 1) = l.take k ++ [l[k]] := List.take_succ_eq_append_getElem h
set_option maxHeartbeats 4000000 in
theorem copied_any (q : BkA) (b : Bk) (w : World) (hM : BkM w q b) (na : b.acs.length ≤ 24) (ne : b.ens.length ≤ 60) (nl : ∀ x ∈ b.ens, x.lns.length ≤ 12) :
    Calls Try.prog 58 #[bkV q b] w (CopyPost w b) := by
  have hK := (Kept.refl w).alloc (bkO q b)
  have hB := (BBx.new w q b).later ((Kept.refl (w.alloc (bkO q b))).alloc noBk)
  have hR := VBk.none (w.alloc (bkO q b)) (w.heap.size + 1) (by simp)
  have hK2 := hK.alloc noBk
  have hS : ((w.alloc (bkO q b)).alloc noBk).heap.size = w.heap.size + 1 + 1 := by simp
  have HM := Lib.hid hM
  have NL := Lib.hid nl
  have mkA := make_accts b.acs.length (by omega)
  have mkE := make_entries b.ens.length (by omega)
  generalize hW : (w.alloc (bkO q b)).alloc noBk = W at hB hR hK2 hS
  have HB := Lib.hid hB
  have HR := Lib.hid hR
  have HS := Lib.hid hS
  have HK := Lib.hid hK2
  have HW := Lib.hid hW
  clear hM nl hK hB hR hK2 hS hW
  go_enter Try.func58, Try.ntmps58
  go_wp2_with (with_reducible show wpList _ _ _ _ _ _; rw [HW.out]; refine wpList_copy_pr (o := ⟨some 14, _, _, _, _, _⟩) 84 55 pairAcct Try.underlying55 (W := W) (l := b.acs) (m := List.replicate b.acs.length noP) rfl _ _ rfl rfl rfl rfl (by simp) (HM.out.acs.later (HK.out.alloc _)) (POwn.made HS.out) ((Kept.refl W).alloc _) (by rw [HS.out]; exact Nat.le_refl _) ?_)
  intro w2 hO2 hK2
  obtain ⟨b0, b1, b2, b3⟩ := HB.out.later hK2
  have lt2 : w.heap.size + 1 + 1 < w2.heap.size := hO2.row.lt
  have kA := (Kept.refl w2).alloc (.cells (es b.ens.length) 64)
  have hE := EOwn.made (w := w2) (n := b.ens.length) (t := 64) rfl
  have HO2 := Lib.hid hO2
  have HK2 := Lib.hid hK2
  clear hO2 hK2
  go_wp2
  generalize w2.alloc (.cells (es b.ens.length) 64) = w3 at *
  generalize hg : w2.heap.size = g at hE lt2 ⊢
  have G := Lib.hid hg
  clear mkA mkE hg b0 b1 b2 b3
  go_loopw [22] (fun i wr => ∃ (k : Nat) (cs : List Value), k ≤ b.ens.length ∧ i = .int .i64 k ∧ Enc wr (b.ens.take k) cs ∧ EOwn wr g (b.ens.length * 3) cs ∧ Kept w2 wr ∧ Hid (∀ v ∈ cs, OffB g v)) (fun i _ => b.ens.length - (intOf i).toNat)
  case atStart => exact ⟨0, [], Nat.zero_le _, rfl, by simp [Enc], hE, kA, Lib.hid (by simp)⟩
  case round =>
    clear hE kA
    obtain ⟨k, cs, hk, rfl, hC, hO, hK, HOF⟩ := hrel
    have hKw := HK.out.trans (HK2.out.trans hK)
    by_cases hlt : k < b.ens.length
    · obtain ⟨p, off, hp, hR⟩ := (HM.out.ens.later hKw).at hlt
      obtain ⟨a, cap, c0, c1, c2, h1, h2, hL⟩ := hR.at k hlt
      have plt := hR.1
      have HT := Lib.hid (ens_take hlt)
      have hnl := NL.out _ (List.getElem_mem hlt)
      have cl := hC.len
      rw [List.length_take, Nat.min_eq_left hk] at cl
      clear hR
      rw [hp] at *
      generalize b.ens[k] = x at *
      have kE := (Kept.refl wr).alloc (.cells #[.string x.key, .int .i64 x.day, .slice a x.lns.length cap] 64)
      have HL := Lib.hid (hL.later kE)
      have hO1 := hO.later kE
      have hC1 := hC.later kE
      have hK1 := hK.trans kE
      clear hL hO hC kE hK hKw h1 h2
      go_wp2_with fail
      refine (cpe_any x a cap _ HL.out (by omega)).mono ?_
      rintro e w5 ⟨p5, hp5, rfl, hO5, hK5⟩
      have hO3 := hO1.later hK5
      have hC3 := hC1.later hK5
      have hK3 := hK1.trans hK5
      have olt := hO3.lt
      obtain ⟨u0, hu0⟩ := Option.isSome_iff_exists.1 (hO3.all (k * 3) (by omega))
      obtain ⟨u1, hu1⟩ := Option.isSome_iff_exists.1 (hO3.all (k * 3 + 1) (by omega))
      obtain ⟨u2, hu2⟩ := Option.isSome_iff_exists.1 (hO3.all (k * 3 + 2) (by omega))
      have fz0 := hO3.free (k * 3)
      have fz1 := hO3.free (k * 3 + 1)
      have fz2 := hO3.free (k * 3 + 2)
      have hw2 : w2.heap.size ≤ g := by rw [G.out]; exact Nat.le_refl _
      have NX := Lib.hid (show Kept w2 (((w5.setCell ⟨g, k * 3, none⟩ (.string x.key)).setCell ⟨g, k * 3 + 1, none⟩ (.int .i64 x.day)).setCell ⟨g, k * 3 + 2, none⟩ (.slice (some ⟨p5, 0, none⟩) x.lns.length x.lns.length)) from ((hK3.setAt hw2 _).setAt hw2 _).setAt hw2 _)
      have hw5 : g < p5 := by have := hO1.lt; omega
      have NO := Lib.hid (hO3.push (.string x.key) (.int .i64 x.day) (.slice (some ⟨p5, 0, none⟩) x.lns.length x.lns.length) cl (by omega))
      have NC := Lib.hid (show Enc (((w5.setCell ⟨g, k * 3, none⟩ (.string x.key)).setCell ⟨g, k * 3 + 1, none⟩ (.int .i64 x.day)).setCell ⟨g, k * 3 + 2, none⟩ (.slice (some ⟨p5, 0, none⟩) x.lns.length x.lns.length)) (b.ens.take (k + 1)) (cs ++ [.string x.key, .int .i64 x.day, .slice (some ⟨p5, 0, none⟩) x.lns.length x.lns.length]) by
        rw [HT.out]
        have ov : OffB g (.slice (some ⟨p5, 0, none⟩) x.lns.length x.lns.length) := fun p' o' n' c' e' => by
          have : p5 = p' := by simp at e'; exact e'.1.1
          subst this; exact hw5
        exact (((hC3.off (Nat.le_refl g) HOF.out).off (Nat.le_refl g) HOF.out).off (Nat.le_refl g) HOF.out).append (Enc.one ((((hO5.lnA (by omega)).off ov (Nat.le_refl g)).off ov (Nat.le_refl g)).off ov (Nat.le_refl g))))
      have NF := Lib.hid (show ∀ v ∈ cs ++ [.string x.key, .int .i64 x.day, .slice (some ⟨p5, 0, none⟩) x.lns.length x.lns.length], OffB g v from fun v hv => by
        rcases List.mem_append.1 hv with hv | hv
        · exact HOF.out v hv
        · intro p' o' n' c' e'
          simp at hv
          rcases hv with rfl | rfl | rfl
          · cases e'
          · cases e'
          · have : p5 = p' := by simp at e'; exact e'.1.1
            subst this; exact hw5)
      clear c0 c1 c2 plt hK5 hO5 hO3 hC3 hK3 hO1 hC1 hK1
      go_wp2
      go_roundw
      case rel => exact ⟨k + 1, _, by omega, by go_num, NC.out, NO.out, NX.out, NF⟩
      case measure => simp [intOf]; omega
    · obtain rfl : k = b.ens.length := by omega
      clear hlt
      rw [List.take_length] at hC
      obtain ⟨b0, b1, b2, b3⟩ := (HB.out.later HK2.out).later hK
      obtain ⟨⟨r0, r1, r2, r3⟩, f0, f1, f2⟩ := (HR.out.later HK2.out).later hK
      have hP := HO2.out.later hK
      have hgW : w.heap.size + 1 < g := by omega
      have eS : b.ens.length ≤ maxLen := by unfold maxLen; omega
      have aS : b.acs.length ≤ maxLen := by unfold maxLen; omega
      have n1 : w.heap.size + 1 ≠ g := by omega
      have n2 : w.heap.size + 1 ≠ w.heap.size + 1 + 1 := by omega
      have hKw := HK.out.trans (HK2.out.trans hK)
      have n3 : w.heap.size + 1 ≤ g := by omega
      have HE3 := Lib.hid (show g < (((wr.setCell ⟨w.heap.size + 1, 0, none⟩ (.slice (some ⟨w.heap.size + 1 + 1, 0, none⟩) b.acs.length b.acs.length)).setCell ⟨w.heap.size + 1, 1, none⟩ (.slice (some ⟨g, 0, none⟩) b.ens.length b.ens.length)).setCell ⟨w.heap.size + 1, 2, none⟩ (.int .i64 b.shut)).heap.size ∧ Enc (((wr.setCell ⟨w.heap.size + 1, 0, none⟩ (.slice (some ⟨w.heap.size + 1 + 1, 0, none⟩) b.acs.length b.acs.length)).setCell ⟨w.heap.size + 1, 1, none⟩ (.slice (some ⟨g, 0, none⟩) b.ens.length b.ens.length)).setCell ⟨w.heap.size + 1, 2, none⟩ (.int .i64 b.shut)) b.ens cs ∧ ∀ j v, cs[j]? = some v → (((wr.setCell ⟨w.heap.size + 1, 0, none⟩ (.slice (some ⟨w.heap.size + 1 + 1, 0, none⟩) b.acs.length b.acs.length)).setCell ⟨w.heap.size + 1, 1, none⟩ (.slice (some ⟨g, 0, none⟩) b.ens.length b.ens.length)).setCell ⟨w.heap.size + 1, 2, none⟩ (.int .i64 b.shut)).cell? ⟨g, j, none⟩ = some v from ⟨by simpa using hO.lt, ((hC.off n3 HOF.out).off n3 HOF.out).off n3 HOF.out, fun j v hj => by
        have := hO.pre j v hj
        have n4 : g ≠ w.heap.size + 1 := fun h => n1 h.symm
        go_simp⟩)
      have HP3 := Lib.hid (((hP.other (r := w.heap.size + 1) (i := 0) (v := .slice (some ⟨w.heap.size + 1 + 1, 0, none⟩) b.acs.length b.acs.length) n2).other (r := w.heap.size + 1) (i := 1) (v := .slice (some ⟨g, 0, none⟩) b.ens.length b.ens.length) n2).other (r := w.heap.size + 1) (i := 2) (v := .int .i64 b.shut) n2)
      have HK3 := Lib.hid (((hKw.setAt (b := w.heap.size + 1) (i := 0) (by omega) (.slice (some ⟨w.heap.size + 1 + 1, 0, none⟩) b.acs.length b.acs.length)).setAt (b := w.heap.size + 1) (i := 1) (by omega) (.slice (some ⟨g, 0, none⟩) b.ens.length b.ens.length)).setAt (b := w.heap.size + 1) (i := 2) (by omega) (.int .i64 b.shut))
      clear hP hKw hC hO hK
      go_wp2
      exact bodyPost_ret (v := bkV ⟨some ⟨w.heap.size + 1 + 1, 0, none⟩, b.acs.length, some ⟨g, 0, none⟩, b.ens.length⟩ b) (by simp [results, Try.results58, go_sem, r1, r2, r3]) rfl
        ⟨w.heap.size + 1 + 1, g, rfl, ⟨⟨_, rfl, by omega, HP3.out.row⟩, HM.out.sha, Nat.le_refl _, aS, ⟨g, cs, rfl, by omega, HE3.out.1, HE3.out.2.1, HE3.out.2.2, fun v hv => NewV.of (HOF.out v hv) (by omega)⟩, HM.out.she, Nat.le_refl _, eS⟩, HK3.out⟩
end Go.Proofs.Ytdgiljndoeldcaa
