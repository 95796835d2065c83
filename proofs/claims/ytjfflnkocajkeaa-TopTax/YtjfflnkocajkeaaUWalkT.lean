/-
  Bills with a tax in them: their lines, their parts by weights, and what they come to. No condition but those that each theorem names.
-/
import Derived.Test.YtjfflnkocajkeaaLawSplitSum
import Derived.ArgAppend
import Derived.Laws.OwnMore
namespace Go.Proofs.Ytjfflnkocajkeaa
open Go.RowKit Go.WideShapes
set_option linter.unusedVariables false

/-- By, whatever the weights: an error, or parts that are the amount. -/
def ByAny (w : World) (amount : Int) (n : Nat) (e : Ending) (w' : World) : Prop :=
  (∃ er : Int, er ≠ 0 ∧ e = .returned (.tuple #[.slice none 0 0, .int .i64 er]) ∧ Kept w w') ∨
  ∃ (pp : Nat) (g : Nat → Int), e = .returned (.tuple #[.slice (some ⟨pp, 0, none⟩) n n, .int .i64 0]) ∧ Own w' pp (tab n g) ∧ sumTo g n = amount ∧ (∀ i, i < n → -2000000000000 ≤ g i ∧ g i ≤ 2000000000000) ∧ n ≤ 40 ∧ Kept w w'
theorem by_any (amount : Int) (a : Option Addr) (n cap : Nat) (wt : Nat → Int) (w : World) (hn : n ≤ 4000000000000000000) (hA : Arg w a n wt) :
    Calls Try.prog 36 #[.int .i64 amount, .slice a n cap] w (ByAny w amount n) := by
  by_cases he : byE amount n wt = 0
  · obtain ⟨u, hu, hB⟩ := units_ex he
    refine (by_yes amount a n cap u wt w hA he hu).mono ?_
    rintro e w' ⟨pp, d, _, rfl, hO, hR, hK⟩
    have ok := hB d hO
    exact .inr ⟨pp, byV amount n u wt d, rfl, hR, ok.sum, fun i hi => by have := ok.bd i hi; omega, ok.n40, hK⟩
  · refine (by_no amount a n cap wt w hn hA he).mono ?_
    rintro e w' ⟨rfl, rfl⟩
    exact .inl ⟨_, he, rfl, Kept.refl _⟩
/-- One row and another one behind it. -/
def glueU (n : Nat) (g h : Nat → Int) : Nat → Int := fun j => if j < n then g j else h (j - n)
theorem tab_glueU (n m : Nat) (g h : Nat → Int) : tab (n + m) (glueU n g h) = tab n g ++ tab m h := by
  apply List.ext_getElem
  · simp [tab]
  · intro j h1 h2
    rw [tab_get]
    unfold glueU
    by_cases c : j < n
    · rw [if_pos c, List.getElem_append_left (by rw [tab_len]; exact c), tab_get]
    · rw [if_neg c, List.getElem_append_right (by rw [tab_len]; omega), tab_get, tab_len]
/-- A handed row appended to one of the call's own. -/
theorem run_append_arg (w : World) {B n m c : Nat} {v : Value} {ad : Option Addr} {g h : Nat → Int} (ty : TypeId) (a : Gr B w v n g) (hR : Arg w ad m h) (h0 : ad = none → m = 0 ∧ c = 0) (hm : n + m ≤ 1000000) (hB : B ≤ w.heap.size) :
    ∃ v' w', (Builtin.append_ #[47, 47] ty #[v, .slice ad m c]).run Try.prog w = .ok v' w' ∧ Gr B w' v' (n + m) (glueU n g h) ∧ w.grownBy w' v.ownBlock := by
  obtain ⟨i0, hi, hz0, hz1, hz2⟩ := info_parts infoInt
  cases ad with
  | none =>
    obtain ⟨rfl, rfl⟩ := h0 rfl
    refine ⟨v, w, run_append_owned_none w B 47 ty 3 i0 1 Try.underlying47 hi v n _ a.own, ?_, ⟨rfl, rfl, rfl, Nat.le_refl _, fun _ _ _ => rfl⟩⟩
    exact a.congr (fun j hj => by unfold glueU; rw [if_pos hj])
  | some q =>
    have h63 : n + m ≤ maxLen := by unfold maxLen; omega
    have hnews : ∀ (j : Nat) (x : Value), ((tab m h).map (Value.int .i64))[j]? = some x → w.cell? (q.add j) = some x := by
      intro j x hj
      have hl : j < (tab m h).length := by
        rw [List.getElem?_eq_some_iff] at hj; obtain ⟨z, _⟩ := hj; simpa using z
      obtain ⟨p, off, e, hd⟩ := hR.at (by rw [tab_len] at hl; omega)
      obtain rfl : q = ⟨p, off, none⟩ := by simpa using e
      rw [List.getElem?_map, List.getElem?_eq_getElem hl] at hj
      rw [add_plain, hd.cell j hl]; exact hj
    have h1 : ∀ x ∈ (tab m h).map (Value.int .i64), x.oneCell' = true := by
      intro x hx
      rw [List.mem_map] at hx
      obtain ⟨z, _, rfl⟩ := hx
      rfl
    obtain ⟨v', w', hrn, h2, h3, _⟩ := run_append_own (P := Try.prog) w B 47 ty 3 i0 (.int .i64 0) 1 8 Try.underlying47 hi hz0 hz1 hz2 rfl (by decide) v n _ a.own q m c _ (by rw [List.length_map, tab_len]; omega) hnews h1 h63 (by omega) hB
    refine ⟨v', w', hrn, ⟨?_⟩, h3⟩
    rw [tab_glueU, List.map_append]
    exact h2
theorem app_arg {w : World} {ops : Array Oper} {rest : List Oper} {o : Oper} {a : Act} {Q : Exit → Act → World → Prop} (hgd : o.guard = none) (s x : Operand)
    (ho : o.op = .call { callee := .builtin .append, args := #[s, x], argTypes := #[47, 47] }) {B n m c : Nat} {v : Value} {ad : Option Addr} {g h : Nat → Int}
    (hs : a.eval s = v) (hx : a.eval x = .slice ad m c) (ha : Gr B w v n g) (hR : Arg w ad m h) (h0 : ad = none → m = 0 ∧ c = 0) (hm : n + m ≤ 1000000) (hB : B ≤ w.heap.size)
    (k : ∀ v' w', Gr B w' v' (n + m) (glueU n g h) → w.grownBy w' v.ownBlock → wpList Try.prog ops Q rest (a.put o.dst v') w') : wpList Try.prog ops Q (o :: rest) a w := by
  refine wpList_plain hgd fun _ hK => ?_
  obtain ⟨v', w', hr, h2, h3⟩ := run_append_arg (c := c) w o.type ha hR h0 hm hB
  unfold Oper.wp execOp
  simp only [ho, resolve, invoke, builtin, Sem.run_bind, Sem.run_pure, Result.andThen_ok, List.map_toArray, List.map_cons, List.map_nil, hs, hx, hr]
  exact hK _ _ (k v' w' h2 h3)
theorem Gr.lit1 (w : World) (z : Int) (g : Nat → Int) (h : g 0 = z) : Gr w.heap.size (w.alloc (.cells #[.int .i64 z] 3)) (.slice (some ⟨w.heap.size, 0, none⟩) 1 1) 1 g :=
  ⟨by have := World.ownsRow_lit (base := w.heap.size) (e := 3) (size := 1) w #[.int .i64 z] 1 (Nat.le_refl _) (by decide) rfl
      simpa [tab, h] using this⟩
/-! What a bill comes to. -/
theorem net_bd {g r : Int} (g0 : 2 ≤ g) (g1 : g ≤ 1000001) (r0 : 0 ≤ r) (r1 : r ≤ 1000000) : okM g r 2 = true ∧ 1 ≤ inV g r 2 ∧ inV g r 2 ≤ g := by
  refine ⟨(okM_iff g r 2).2 ⟨⟨by omega, by omega⟩, ⟨r0, r1⟩, by decide, by decide⟩, ?_, ?_⟩
  · unfold inV
    exact rnd_ge _ _ _ _ (by omega) (by omega) (by decide) (by decide)
  · unfold inV
    refine rnd_le _ _ _ _ (by omega) ?_ (by decide) (by decide)
    have : g * 1000000 ≤ g * (1000000 + r) := Int.mul_le_mul_of_nonneg_left (by omega) (by omega)
    first | exact this | omega
end Go.Proofs.Ytjfflnkocajkeaa
