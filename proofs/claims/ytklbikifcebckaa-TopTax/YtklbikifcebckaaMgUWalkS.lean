import Derived.Test.YtklbikifcebckaaMgVWalkC
import Derived.ArgAppend
import Derived.Laws.OwnMore
/-
  What the end-to-end tests' sum returns; a book in a box that is written. No condition but those that each theorem names.
-/
namespace Go.Proofs.Ytklbikifcebckaa
open Go.RowKit
set_option linter.unusedVariables false

set_option maxRecDepth 100000 in
set_option maxHeartbeats 2000000 in
theorem tsum_any (g : Nat → Int) (n : Nat) (a : Option Addr) (cap : Nat) (w : World) (hn : n ≤ 1000) (hb : ∀ i, i < n → -2000000000000 ≤ g i ∧ g i ≤ 2000000000000) (hA : Arg w a n g) :
    Calls Try.prog 43 #[.slice a n cap] w fun e w' => e = .returned (.int .i64 (sumTo g n)) ∧ w = w' := by
  have HA := Lib.hid hA
  have HB := Lib.hid hb
  clear hA hb
  go_enter Try.func43, Try.ntmps43
  go_wp2
  go_loop [3, 8] (fun s i => ∃ k : Nat, k ≤ n ∧ i = .int .i64 k ∧ s = .int .i64 (sumTo g k)) (fun _ i => n - (intOf i).toNat)
  case atStart => exact ⟨0, Nat.zero_le _, rfl, rfl⟩
  case round =>
    obtain ⟨k, hk, rfl, rfl⟩ := hrel
    by_cases hlt : k < n
    · obtain ⟨p, off, rfl, hR⟩ := HA.out.at (by omega)
      have c0 := hR.cell k (by rw [tab_len]; exact hlt)
      rw [tab_get] at c0
      have plt := hR.lt
      have S := sumTo_bd g 2000000000000 k (fun j hj => HB.out j (by omega))
      have z := HB.out k hlt
      have SS := Lib.hid (show sumTo g (k + 1) = sumTo g k + g k from rfl)
      have i0 : (0 : Int) ≤ (k : Int) := by omega
      have i1 : (k : Int) < (n : Int) := by omega
      generalize sumTo g k = S0 at *
      generalize g k = x at *
      have u1 : IntKind.i64.wrap (S0 + x) = S0 + x := IntWalk.i64_in _ (by omega)
      clear hR
      go_wp2
      go_round
      case rel => exact ⟨k + 1, by omega, by go_num, by rw [SS.out]⟩
      case measure => simp [intOf]; omega
    · obtain rfl : k = n := by omega
      clear hlt
      go_wp2
      go_ret
      exact ⟨rfl, rfl⟩
theorem uv_put {w : World} {p : Nat} {q q' : BkA} {b b' : Bk} (h : VBk w p q b) : VBk (((w.setCell ⟨p, 0, none⟩ (.slice q'.aa b'.acs.length q'.ca)).setCell ⟨p, 1, none⟩ (.slice q'.ae b'.ens.length q'.ce)).setCell ⟨p, 2, none⟩ (.int .i64 b'.shut)) p q' b' := by
  obtain ⟨⟨a, c, d, e⟩, f0, f1, f2⟩ := h
  refine ⟨⟨by simpa using a, ?_, ?_, ?_⟩, ?_, ?_, ?_⟩ <;> go_simp
theorem uv_new {w : World} {p : Nat} (hp : w.heap.size = p) (q : BkA) (b : Bk) : VBk (w.alloc (bkO q b)) p q b := by
  subst hp; exact ⟨BBx.new w q b, by simp, by simp, by simp⟩
/-- Where a loop's book lies: where it lay at W, or in memory of its own from a block on. -/
def BkU (W w : World) (p : Nat) (q : BkA) (b : Bk) : Prop := BkM W q b ∨ ∃ B, p < B ∧ BkF w B q b
theorem BkU.m {W w : World} {p : Nat} {q : BkA} {b : Bk} (h : BkU W w p q b) (k : Kept W w) : BkM w q b := by
  rcases h with h | ⟨B, _, h⟩
  · exact h.later k
  · exact h.m
theorem BkU.later {W w w' : World} {p : Nat} {q : BkA} {b : Bk} (h : BkU W w p q b) (k : Kept w w') : BkU W w' p q b := by
  rcases h with h | ⟨B, hB, h⟩
  · exact .inl h
  · exact .inr ⟨B, hB, h.later k⟩
end Go.Proofs.Ytklbikifcebckaa

/-
  Entries that are made by numbers and written on: one line more, one amount more, and what a posting makes of them. No condition but those that each theorem names.
-/
namespace Go.Proofs.Ytklbikifcebckaa
open Go.RowKit Go.WideShapes
set_option linter.unusedVariables false

/-- A line appended to a full row of lines: a new row, which may be written. -/
theorem app_full {w : World} {ops : Array Oper} {rest : List Oper} {o : Oper} {a : Act} {Q : Exit → Act → World → Prop} (hgd : o.guard = none) (s x : Operand)
    (ho : o.op = .call { callee := .builtin .append, args := #[s, x], argTypes := #[29, 29] }) {p hb n : Nat} {l : List Pr} {z : Pr}
    (hs : a.eval s = .slice (some ⟨p, 0, none⟩) n n) (hx : a.eval x = .slice (some ⟨hb, 0, none⟩) 1 1) (hl : l.length = n) (hR : PRow w p 0 l) (c0 : w.cell? ⟨hb, 0, none⟩ = some (.string z.1)) (c1 : w.cell? ⟨hb, 1, none⟩ = some (.int .i64 z.2)) (hn : n ≤ 1000)
    (h : ∀ q c w', POwn w' q (l ++ [z]) → w.heap.size ≤ q → n + 1 ≤ c → c ≤ maxLen → Kept w w' → wpList Try.prog ops Q rest (a.put o.dst (.slice (some ⟨q, 0, none⟩) (n + 1) c)) w') : wpList Try.prog ops Q (o :: rest) a w := by
  subst hl
  obtain ⟨i0, hi, hz0, hz1, hz2⟩ := info_parts pairLine
  refine wpList_append_grows w hgd s x 29 ho 51 i0 _ 2 24 Try.underlying29 hi hz0 hz1 hz2 rfl (by decide) (some ⟨p, 0, none⟩) l.length l.length (pcs l) hs (fun h => by cases h) (pcs_len l) ?_ ⟨hb, 0, none⟩ 1 1 (pc z) hx rfl ?_ (pc_one z) (by omega) (by unfold maxLen; omega) (by omega) ?_
  · intro b hb2 j u hj
    cases hb2
    have hlt := (List.getElem?_eq_some_iff.1 hj).1
    rw [pcs_len] at hlt
    have g := pcs_get l (j / 2) (by omega)
    rcases (show j = j / 2 * 2 ∨ j = j / 2 * 2 + 1 by omega) with e | e
    · have c := hR.c0 (j / 2) (by omega)
      rw [e] at hj ⊢
      rw [g.1] at hj
      rw [add_plain, c, hj]
    · have c := hR.c1 (j / 2) (by omega)
      rw [e] at hj ⊢
      rw [g.2] at hj
      rw [add_plain, ← Nat.add_assoc, c, hj]
  · intro j u hj
    match j, hj with
    | 0, hj => simp [pc] at hj; subst hj; simpa [Addr.add] using c0
    | 1, hj => simp [pc] at hj; subst hj; simpa [Addr.add] using c1
    | k + 2, hj => simp [pc] at hj
  · intro v' w' hO hG
    have hK := Below.grown (Kept.refl w) hG (Nat.le_refl _) (fun j e => by cases e)
    rcases hO.2 with ⟨_, h0⟩ | ⟨q, c, cur, rfl, hq, hh, hc1, hc2, _⟩
    · omega
    · refine h q c w' ⟨⟨(Array.getElem?_eq_some_iff.1 hh).1, fun j hj => ?_, fun j hj => ?_⟩, fun o ho => hO.frozenAt o⟩ hq hc1 hc2 hK
      · rw [Nat.zero_add, hO.cellAt (j * 2) (by simp at hj; omega)]
        have := (pcs_get (l ++ [z]) j hj).1
        rw [pcs_append, show pcs [z] = pc z by simp [pcs]] at this
        exact this
      · rw [Nat.zero_add, hO.cellAt (j * 2 + 1) (by simp at hj; omega)]
        have := (pcs_get (l ++ [z]) j hj).2
        rw [pcs_append, show pcs [z] = pc z by simp [pcs]] at this
        exact this
/-- A written box, and another one. -/
theorem EBx.otherU {w : World} {p r i : Nat} {k : ByteArray} {d : Int} {v u : Value} (h : EBx w p k d v) (hr : r ≠ p) : EBx (w.setCell ⟨r, i, none⟩ u) p k d v := by
  obtain ⟨h0, h1, h2, h3⟩ := h
  have hr' : p ≠ r := fun e => hr e.symm
  exact ⟨by simpa using h0, by go_simp, by go_simp, by go_simp⟩
theorem WBx.set2U {w : World} {p : Nat} {k : ByteArray} {d : Int} {v u : Value} (h : WBx w p k d v) : WBx (w.setCell ⟨p, 2, none⟩ u) p k d u := by
  obtain ⟨⟨h0, h1, h2, h3⟩, f0, f1, f2⟩ := h
  exact ⟨⟨by simpa using h0, by go_simp, by go_simp, by go_simp⟩, by go_simp, by go_simp, by go_simp⟩
/-- One amount written. -/
theorem POwn.amt {w : World} {p : Nat} {l : List Pr} (h : POwn w p l) (i : Nat) (z : Int) (hi : i < l.length) : POwn (w.setCell ⟨p, i * 2 + 1, none⟩ (.int .i64 z)) p (l.set i ((l[i]).1, z)) := by
  have hc1 := h.row.c1 i hi
  rw [Nat.zero_add] at hc1
  refine ⟨⟨by simpa using h.row.lt, fun j hj => ?_, fun j hj => ?_⟩, fun o ho => ?_⟩
  · rw [List.length_set] at hj
    have hcj := h.row.c0 j hj
    rw [Nat.zero_add] at hcj ⊢
    have e1 : j * 2 ≠ i * 2 + 1 := by omega
    by_cases e : i = j
    · subst e
      rw [List.getElem_set_self]
      go_simp
    · rw [List.getElem_set_ne e]
      go_simp
  · rw [List.length_set] at hj
    have hcj := h.row.c1 j hj
    rw [Nat.zero_add] at hcj ⊢
    by_cases e : i = j
    · subst e
      rw [List.getElem_set_self]
      go_simp
    · rw [List.getElem_set_ne e]
      have e2 : j * 2 + 1 ≠ i * 2 + 1 := by omega
      go_simp
  · rw [List.length_set] at ho
    have hf := h.free o ho
    go_simp
/-- Such an entry posted. -/
theorem ky_post {k n : Nat} {d : Int} {l : List Pr} {q : BkA} {b : Bk} {p c : Nat} {w : World} (hM : BkM w q b) (hk : k < 200) (hl : l.length = n) (hn : n ≤ 12) (hO : POwn w p l) (hs : ∀ x ∈ l, hasB x.1 topL = true) (h1 : n ≤ c) (h2 : c ≤ maxLen) (ok : poE b ⟨kyS k, d, l⟩ = 0) :
    Calls Try.prog 14 #[bkV q b, .agg #[.string (kyS k), .int .i64 d, .slice (some ⟨p, 0, none⟩) n c]] w (BkYes w (poV b ⟨kyS k, d, l⟩)) := by
  subst hl
  refine post_yes q b ⟨kyS k, d, l⟩ (some ⟨p, 0, none⟩) c w hM ⟨?_, ?_, .inr ⟨p, 0, rfl, hO.row⟩, fun x hx => ?_, h1, h2⟩ ok
  · have := kyS_size k hk; unfold maxLen; simp only []; omega
  · unfold maxLen; simp only []; omega
  · have h := hs x hx
    have : ∀ y ∈ topL, y.1.size ≤ 2 := by decide +kernel
    obtain ⟨y, hy, e⟩ := hasB_iff.1 h
    have := this y hy
    rw [e] at this
    unfold maxLen; omega
end Go.Proofs.Ytklbikifcebckaa

/-
  Bills with a tax in them: their lines, their parts by weights, and what they come to. No condition but those that each theorem names.
-/
namespace Go.Proofs.Ytklbikifcebckaa
open Go.RowKit Go.WideShapes
set_option linter.unusedVariables false

/-- By, whatever the weights: an error, or parts that are the amount. -/
def ByAny (w : World) (amount : Int) (n : Nat) (e : Ending) (w' : World) : Prop :=
  (∃ er : Int, er ≠ 0 ∧ e = .returned (.tuple #[.slice none 0 0, .int .i64 er]) ∧ Kept w w') ∨
  ∃ (pp : Nat) (g : Nat → Int), e = .returned (.tuple #[.slice (some ⟨pp, 0, none⟩) n n, .int .i64 0]) ∧ Own w' pp (tab n g) ∧ sumTo g n = amount ∧ (∀ i, i < n → -2000000000000 ≤ g i ∧ g i ≤ 2000000000000) ∧ n ≤ 40 ∧ Kept w w'
theorem by_any (amount : Int) (a : Option Addr) (n cap : Nat) (wt : Nat → Int) (w : World) (hn : n ≤ 4000000000000000000) (hA : Arg w a n wt) :
    Calls Try.prog 36 #[.int .i64 amount, .slice a n cap] w (ByAny w amount n) := by
  by_cases he : byE amount n wt = 0
  · obtain ⟨u, hu, hB⟩ := units_ex he
    refine (by_yes amount a n cap u wt w hA he hu).mono ?_
    rintro e w' ⟨pp, d, _, rfl, hO, hR, hK⟩
    have ok := hB d hO
    exact .inr ⟨pp, byV amount n u wt d, rfl, hR, ok.sum, fun i hi => by have := ok.bd i hi; omega, ok.n40, hK⟩
  · refine (by_no amount a n cap wt w hn hA he).mono ?_
    rintro e w' ⟨rfl, rfl⟩
    exact .inl ⟨_, he, rfl, Kept.refl _⟩
/-- One row and another one behind it. -/
def glueU (n : Nat) (g h : Nat → Int) : Nat → Int := fun j => if j < n then g j else h (j - n)
theorem tab_glueU (n m : Nat) (g h : Nat → Int) : tab (n + m) (glueU n g h) = tab n g ++ tab m h := by
  apply List.ext_getElem
  · simp [tab]
  · intro j h1 h2
    rw [tab_get]
    unfold glueU
    by_cases c : j < n
    · rw [if_pos c, List.getElem_append_left (by rw [tab_len]; exact c), tab_get]
    · rw [if_neg c, List.getElem_append_right (by rw [tab_len]; omega), tab_get, tab_len]
/-- A handed row appended to one of the call's own. -/
theorem run_append_arg (w : World) {B n m c : Nat} {v : Value} {ad : Option Addr} {g h : Nat → Int} (ty : TypeId) (a : Gr B w v n g) (hR : Arg w ad m h) (h0 : ad = none → m = 0 ∧ c = 0) (hm : n + m ≤ 1000000) (hB : B ≤ w.heap.size) :
    ∃ v' w', (Builtin.append_ #[47, 47] ty #[v, .slice ad m c]).run Try.prog w = .ok v' w' ∧ Gr B w' v' (n + m) (glueU n g h) ∧ w.grownBy w' v.ownBlock := by
  obtain ⟨i0, hi, hz0, hz1, hz2⟩ := info_parts infoInt
  cases ad with
  | none =>
    obtain ⟨rfl, rfl⟩ := h0 rfl
    refine ⟨v, w, run_append_owned_none w B 47 ty 3 i0 1 Try.underlying47 hi v n _ a.own, ?_, ⟨rfl, rfl, rfl, Nat.le_refl _, fun _ _ _ => rfl⟩⟩
    exact a.congr (fun j hj => by unfold glueU; rw [if_pos hj])
  | some q =>
    have h63 : n + m ≤ maxLen := by unfold maxLen; omega
    have hnews : ∀ (j : Nat) (x : Value), ((tab m h).map (Value.int .i64))[j]? = some x → w.cell? (q.add j) = some x := by
      intro j x hj
      have hl : j < (tab m h).length := by
        rw [List.getElem?_eq_some_iff] at hj; obtain ⟨z, _⟩ := hj; simpa using z
      obtain ⟨p, off, e, hd⟩ := hR.at (by rw [tab_len] at hl; omega)
      obtain rfl : q = ⟨p, off, none⟩ := by simpa using e
      rw [List.getElem?_map, List.getElem?_eq_getElem hl] at hj
      rw [add_plain, hd.cell j hl]; exact hj
    have h1 : ∀ x ∈ (tab m h).map (Value.int .i64), x.oneCell' = true := by
      intro x hx
      rw [List.mem_map] at hx
      obtain ⟨z, _, rfl⟩ := hx
      rfl
    obtain ⟨v', w', hrn, h2, h3, _⟩ := run_append_own (P := Try.prog) w B 47 ty 3 i0 (.int .i64 0) 1 8 Try.underlying47 hi hz0 hz1 hz2 rfl (by decide) v n _ a.own q m c _ (by rw [List.length_map, tab_len]; omega) hnews h1 h63 (by omega) hB
    refine ⟨v', w', hrn, ⟨?_⟩, h3⟩
    rw [tab_glueU, List.map_append]
    exact h2
theorem app_arg {w : World} {ops : Array Oper} {rest : List Oper} {o : Oper} {a : Act} {Q : Exit → Act → World → Prop} (hgd : o.guard = none) (s x : Operand)
    (ho : o.op = .call { callee := .builtin .append, args := #[s, x], argTypes := #[47, 47] }) {B n m c : Nat} {v : Value} {ad : Option Addr} {g h : Nat → Int}
    (hs : a.eval s = v) (hx : a.eval x = .slice ad m c) (ha : Gr B w v n g) (hR : Arg w ad m h) (h0 : ad = none → m = 0 ∧ c = 0) (hm : n + m ≤ 1000000) (hB : B ≤ w.heap.size)
    (k : ∀ v' w', Gr B w' v' (n + m) (glueU n g h) → w.grownBy w' v.ownBlock → wpList Try.prog ops Q rest (a.put o.dst v') w') : wpList Try.prog ops Q (o :: rest) a w := by
  refine wpList_plain hgd fun _ hK => ?_
  obtain ⟨v', w', hr, h2, h3⟩ := run_append_arg (c := c) w o.type ha hR h0 hm hB
  unfold Oper.wp execOp
  simp only [ho, resolve, invoke, builtin, Sem.run_bind, Sem.run_pure, Result.andThen_ok, List.map_toArray, List.map_cons, List.map_nil, hs, hx, hr]
  exact hK _ _ (k v' w' h2 h3)
theorem Gr.lit1 (w : World) (z : Int) (g : Nat → Int) (h : g 0 = z) : Gr w.heap.size (w.alloc (.cells #[.int .i64 z] 3)) (.slice (some ⟨w.heap.size, 0, none⟩) 1 1) 1 g :=
  ⟨by have := World.ownsRow_lit (base := w.heap.size) (e := 3) (size := 1) w #[.int .i64 z] 1 (Nat.le_refl _) (by decide) rfl
      simpa [tab, h] using this⟩
/-! What a bill comes to. -/
theorem net_bd {g r : Int} (g0 : 2 ≤ g) (g1 : g ≤ 1000001) (r0 : 0 ≤ r) (r1 : r ≤ 1000000) : okM g r 2 = true ∧ 1 ≤ inV g r 2 ∧ inV g r 2 ≤ g := by
  refine ⟨(okM_iff g r 2).2 ⟨⟨by omega, by omega⟩, ⟨r0, r1⟩, by decide, by decide⟩, ?_, ?_⟩
  · unfold inV
    exact rnd_ge _ _ _ _ (by omega) (by omega) (by decide) (by decide)
  · unfold inV
    refine rnd_le _ _ _ _ (by omega) ?_ (by decide) (by decide)
    have : g * 1000000 ≤ g * (1000000 + r) := Int.mul_le_mul_of_nonneg_left (by omega) (by omega)
    first | exact this | omega
end Go.Proofs.Ytklbikifcebckaa
