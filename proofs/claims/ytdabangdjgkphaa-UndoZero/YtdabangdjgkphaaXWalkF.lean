/-
  What Undo and Get return, at every input, and the first reversal of talkeep's laws. No condition but those that each theorem names.
-/
import Derived.Test.YtdabangdjgkphaaXWalkE
namespace Go.Proofs.Ytdabangdjgkphaa
open Go.RowKit
set_option linter.unusedVariables false

/-- The book that Undo returns. -/
def unY (b : Bk) (k y : ByteArray) (d : Int) : Bk := if unE b k y d = 0 then poV b (unX b k y d) else noB
/-- The book that Undo returns, once it returns one. -/
theorem unY_ok {b : Bk} {k y : ByteArray} {d : Int} (h : unE b k y d = 0) : unY b k y d = poV b (unX b k y d) := by unfold unY; rw [if_pos h]
theorem unY_no {b : Bk} {k y : ByteArray} {d : Int} (h : unE b k y d ≠ 0) : unY b k y d = noB := by unfold unY; rw [if_neg h]
theorem noB_m (w : World) : BkM w noA noB := by
  exact ⟨.inl rfl, (fun x hx => by cases hx), Nat.le_refl _, (show (0 : Nat) ≤ maxLen by unfold maxLen; decide), .inl rfl, (fun x hx => by cases hx), Nat.le_refl _, (show (0 : Nat) ≤ maxLen by unfold maxLen; decide)⟩
/-- A book and an error, whatever they are. -/
def BkAny (w : World) (y : Bk) (er : Int) (e : Ending) (w' : World) : Prop := ∃ q, e = .returned (.tuple #[bkV q y, .int .i64 er]) ∧ BkM w' q y ∧ (er = 0 → BkF w' w.heap.size q y) ∧ (er ≠ 0 → q = noA) ∧ Kept w w'
theorem undo_any (q : BkA) (b : Bk) (k y : ByteArray) (d : Int) (w : World) (hM : BkM w q b) (hy : y.size ≤ maxLen) :
    Calls Try.prog 16 #[bkV q b, .string k, .string y, .int .i64 d] w (BkAny w (unY b k y d) (unE b k y d)) := by
  by_cases h : unE b k y d = 0
  · rw [unY_ok h, h]
    refine (undo_yes q b k y d w hM hy h).mono fun e w' hh => ?_
    obtain ⟨q', e1, hF, hk⟩ := hh
    exact ⟨q', e1, hF.m, fun _ => hF, fun h => absurd rfl h, hk⟩
  · rw [unY_no h]
    refine (undo_no q b k y d w hM hy h).mono fun e w' hh => ?_
    obtain ⟨e1, hk⟩ := hh
    exact ⟨noA, e1, noB_m _, fun h' => absurd h' h, fun _ => rfl, hk⟩
/-- An entry and an error, whatever they are. -/
def EnAny (w : World) (er : Int) (e : Ending) (w' : World) : Prop := ∃ (x : Et) (a : Option Addr) (cap : Nat), e = .returned (.tuple #[enV x.key x.day a x.lns.length cap, .int .i64 er]) ∧ Kept w w'
theorem get_any (q : BkA) (b : Bk) (k : ByteArray) (w : World) (hM : BkM w q b) : Calls Try.prog 12 #[bkV q b, .string k] w (EnAny w (gtE b k)) := by
  by_cases h : gtE b k = 0
  · obtain ⟨g, hk⟩ := gtE_ok h
    rw [h]
    refine (get_yes q b k w hM g _ rfl hk).mono fun e w' hh => ?_
    obtain ⟨p, _, e1, _, hk'⟩ := hh
    exact ⟨b.ens[kyI k b.ens], some ⟨p, 0, none⟩, _, e1, hk'⟩
  · refine (get_no q b k w hM h).mono fun e w' hh => ?_
    obtain ⟨e1, hk⟩ := hh
    exact ⟨noEt, none, 0, e1, hk⟩
/-- What two reversals, by keys that are new, leave. -/
theorem undo_twice {b : Bk} {k u v : ByteArray} {d : Int} (h1 : unE b k u d = 0) (h2 : unE (unY b k u d) u v d = 0) (g1 : gtE b u ≠ 0) (g2 : gtE b v ≠ 0) (uv : u ≠ v) :
    Good b ∧ Good (unY (unY b k u d) u v d) ∧ (unY (unY b k u d) u v d).acs = b.acs ∧ (unY (unY b k u d) u v d).ens.length = b.ens.length + 2 ∧ ∀ c i, d ≤ i → balS c i (unY (unY b k u d) u v d).ens = balS c i b.ens := by
  obtain ⟨a1, a2, a3⟩ := unE_ok h1
  obtain ⟨gd, hk⟩ := gtE_ok a1
  have nu : ∀ x, gtE b x ≠ 0 → ∀ e ∈ b.ens, e.key ≠ x := fun x hx e he hh => hx (by unfold gtE; rw [if_pos (bkE_iff.2 gd), if_pos (kyI_lt.2 ⟨e, he, hh⟩)])
  have n1 := nu u g1
  have n2 := nu v g2
  rw [unY_ok h1] at h2 ⊢
  obtain ⟨gy, hm, ea, es, hmem⟩ := Good.post a3
  obtain ⟨_, _, hor⟩ := poE_ok a3
  have e1 : poV b (unX b k u d) = ⟨b.acs, insE (unX b k u d) b.ens, b.shut⟩ := by
    rcases hor with ⟨hx, _⟩ | ⟨_, _, _, _, e⟩
    · exact absurd rfl (n1 _ hx)
    · exact e
  have ee : (poV b (unX b k u d)).ens = insE (unX b k u d) b.ens := by rw [e1]
  generalize hy : poV b (unX b k u d) = y at *
  obtain ⟨b1, b2, b3⟩ := unE_ok h2
  rw [unY_ok h2]
  obtain ⟨gz, _, ea2, _, _⟩ := Good.post b3
  obtain ⟨_, _, hor2⟩ := poE_ok b3
  have e2 : poV y (unX y u v d) = ⟨y.acs, insE (unX y u v d) y.ens, y.shut⟩ := by
    rcases hor2 with ⟨hx, _⟩ | ⟨_, _, _, _, e⟩
    · rcases (hmem _).1 hx with e | e
      · have : v = u := congrArg Et.key e
        exact absurd this.symm uv
      · exact absurd rfl (n2 _ e)
    · exact e
  have at1 : atK u y.ens = unX b k u d := by
    have hlt : kyI u y.ens < y.ens.length := kyI_lt.2 ⟨_, hm, rfl⟩
    rw [atK_eq hlt]
    exact gy.key_inj (List.getElem_mem _) hm (kyI_at hlt)
  refine ⟨gd, gz, ea2.trans ea, by rw [e2]; simp only [insE_len, ee], fun c i hi => ?_⟩
  rw [e2]
  simp only [balS_ins, ee]
  have d1 : (unX y u v d).day = d := rfl
  have d2 : (unX b k u d).day = d := rfl
  have l1 : (unX y u v d).lns = negL (atK u y.ens).lns := rfl
  have l2 : (unX b k u d).lns = negL (atK k b.ens).lns := rfl
  simp only [d1, d2, if_pos hi, l1, at1, l2, codeS_neg]
  omega
/-! The first reversal. -/
theorem u_un : unE saleB ⟨#[97]⟩ ⟨#[98]⟩ 9 = 0 := by decide +kernel
def unB : Bk := poV saleB (unX saleB ⟨#[97]⟩ ⟨#[98]⟩ 9)
theorem u_ba : baE unB ⟨#[49, 48]⟩ 9 = 0 := by decide +kernel
theorem u_bal : balS ⟨#[49, 48]⟩ 9 unB.ens = 0 := by decide +kernel
theorem u_len : unB.ens.length = 2 := by decide +kernel
theorem u_un5 : unE saleB ⟨#[97]⟩ ⟨#[98]⟩ 5 = 0 := by decide +kernel
def unB5 : Bk := poV saleB (unX saleB ⟨#[97]⟩ ⟨#[98]⟩ 5)
theorem u_two : unE unB5 ⟨#[98]⟩ ⟨#[99]⟩ 5 = 0 := by decide +kernel
def unB6 : Bk := poV unB5 (unX unB5 ⟨#[98]⟩ ⟨#[99]⟩ 5)
theorem u_ba6 : baE unB6 ⟨#[49, 48]⟩ 5 = 0 := by decide +kernel
theorem u_bal6 : balS ⟨#[49, 48]⟩ 5 unB6.ens = 7 := by decide +kernel
end Go.Proofs.Ytdabangdjgkphaa
