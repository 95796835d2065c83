/-
  What the library's sort.SliceStable does to the row of claims. No condition but those that each theorem names.
-/
import Derived.Test.YtpkdknddncnceaaQWalkF
namespace Go.Proofs.Ytpkdknddncnceaa
open Go.RowKit Go.Lib

noncomputable def infoSl : TypeInfo := (Try.prog.info? 45).get (by kernel_rfl)
theorem infoSl_is : Try.prog.info? 45 = some infoSl := (Option.some_get _).symm
theorem descSl : infoSl.desc = .slice 47 := by kernel_rfl
theorem packSl : Try.prog.packed 45 = false := by kernel_rfl
theorem globals0 : Try.prog.globals.size = 0 := by kernel_rfl
theorem kindCl (w : World) : (Extern.Rtype.kind 47).run Try.prog w = .ok 25 w := by kernel_rfl
theorem swK (n : Nat) (h2 : 2 ≤ n) : Lib.swapperK n infoCl 25 = 9 := by
  have a : infoCl.hasPointers = false := by kernel_rfl
  have b : infoCl.bytes = 24 := by kernel_rfl
  have c : (n == 0) = false := by simp; omega
  have d : (n == 1) = false := by simp; omega
  simp [Lib.swapperK, a, b, c, d]
theorem swK1 : Lib.swapperK 1 infoCl 25 = 2 := rfl
theorem swK0 : Lib.swapperK 0 infoCl 25 = 1 := rfl
/-- The exchange that the library makes. -/
theorem swapper_ok (B : World) (p N bx cap : Nat) (C : Cl) (h1 : 1 ≤ N) : ∃ (sf : Nat) (sb : Array Value),
    (∀ w, (Extern.ReflectliteSwapper.swapper "internal/reflectlite" (Extern.ReflectliteValue.valueError "Swapper") #[.iface 45 (.slice (some ⟨p, 0, none⟩) N cap)]).run Try.prog w = .ok (.func (.func sf) #[] sb) w) ∧ SwapOk B p N bx cap C sf sb := by
  by_cases h2 : 2 ≤ N
  · refine ⟨45, #[.slice (some ⟨p, 0, none⟩) N cap, typeHandle Try.prog 47], fun w => ?_, swapOk_9 B p N bx cap C⟩
    rw [run_swapper_slice (P := Try.prog) 45 47 infoSl infoCl infoSl_is descSl infoCl_is 25 kindCl (some ⟨p, 0, none⟩) N cap 45 (by rw [swK N h2]; kernel_rfl) w, swK N h2]
    rfl
  · obtain rfl : N = 1 := by omega
    refine ⟨38, #[], fun w => ?_, swapOk_none B p 1 bx cap C _ _ (Nat.le_refl _)⟩
    rw [run_swapper_slice (P := Try.prog) 45 47 infoSl infoCl infoSl_is descSl infoCl_is 25 kindCl (some ⟨p, 0, none⟩) 1 cap 38 (by rw [swK1]; kernel_rfl) w, swK1]
    rfl
section
variable {B w : World} {p N bx cap : Nat} {C : Cl} {k : Int → Int}
set_option maxRecDepth 100000 in
set_option maxHeartbeats 4000000 in
theorem sliceStable_any (hS : St B w p N bx cap C idn) (n1 : 1 ≤ N) (hN : N ≤ 1000000) (ok : ClOk C N) (key : ∀ x y : Int, 0 ≤ x → x < N → 0 ≤ y → y < N → lsB (C.v x.toNat) (C.d x.toNat) (C.v y.toNat) (C.d y.toNat) = decide (k y < k x)) :
    Calls Try.prog 28 #[.iface 45 (.slice (some ⟨p, 0, none⟩) N cap), lessV bx] w (StablePost B w p N bx cap C k) := by
  obtain ⟨sf, sb, hsw, hok⟩ := swapper_ok B p N bx cap C n1
  have EE : Hid (Env B p N bx cap C k sf sb) := ⟨hN, ok, key, hok⟩
  have hv0 := (run_valueOf_slice (P := Try.prog) 45 47 infoSl infoSl_is descSl (some ⟨p, 0, none⟩) N cap w)
  have hl0 := (fun a w ha => run_valueLen_slice (P := Try.prog) 45 47 infoSl infoSl_is descSl packSl a (some ⟨p, 0, none⟩) N cap w ha)
  simp only [typeHandle, globals0] at hv0 hl0
  have hv := Lib.hid hv0
  have hl := Lib.hid hl0
  clear hv0 hl0
  have HS := Lib.hid hS
  have HSW := Lib.hid hsw
  clear hS ok key hok hsw
  go_enter Try.func28, Try.ntmps28
  go_wp2
  rw [run_callFunc_extern Try.func33 (by kernel_rfl) (by kernel_rfl) (by kernel_rfl) (e := fun args => Extern.ReflectliteValue.unpack (args.getD 0 (.tuple #[]))) (by kernel_rfl),
    show Sem.run Try.prog ((fun args : Array Value => Extern.ReflectliteValue.unpack (args.getD 0 (.tuple #[]))) #[.iface 45 (.slice (some ⟨p, 0, none⟩) N cap)]) w = _ from hv.out]
  simp only [Result.andThen]
  rw [Oper.upon_value]
  go_wp2
  rw [run_callFunc_extern Try.func34 (by kernel_rfl) (by kernel_rfl) (by kernel_rfl) (e := Extern.ReflectliteSwapper.swapper "internal/reflectlite" (Extern.ReflectliteValue.valueError "Swapper")) (by kernel_rfl), HSW.out]
  simp only [Result.andThen]
  rw [Oper.upon_value]
  go_wp2
  rw [run_callFunc_extern Try.func36 (by kernel_rfl) (by kernel_rfl) (by kernel_rfl) (e := Extern.ReflectliteValue.method (Extern.ReflectliteValue.valueError "reflectlite.Value.Len" 0) Extern.ReflectliteValue.len) (by kernel_rfl),
    hl.out _ _ (by simp)]
  simp only [Result.andThen]
  rw [Oper.upon_value]
  go_wp2_with fail
  refine (stable_any EE.out (HS.out.later (((Kept.refl w).alloc _).alloc _))).mono ?_
  rintro e w1 ⟨d, rfl, hS1, hT1, hO⟩
  have hT2 := (Turn.kept (p := p) (((Kept.refl w).alloc _).alloc _)).trans hT1
  go_wp2
  go_end0
  exact ⟨d, rfl, hS1, hT2, hO⟩
end
set_option maxHeartbeats 1000000 in
theorem insertion_nil (f g : Value) (w : World) : Calls Try.prog 46 #[.agg #[f, g], .int .i64 0, .int .i64 0] w fun e w' => e = .returned (.tuple #[]) ∧ Kept w w' := by
  go_enter Try.func46, Try.ntmps46
  go_wp2_with fail
  go_loopw [6] (fun s wr => s = .int .i64 1 ∧ Kept w wr) (fun _ _ => 0)
  case atStart => exact ⟨rfl, (Kept.refl w).alloc _⟩
  case round =>
    obtain ⟨rfl, hK⟩ := hrel
    go_wp2
    go_end0
    exact ⟨rfl, hK⟩
set_option maxHeartbeats 1000000 in
theorem stable_nil (f g : Value) (w : World) : Calls Try.prog 35 #[.agg #[f, g], .int .i64 0] w fun e w' => e = .returned (.tuple #[]) ∧ Kept w w' := by
  have hK0 := (Kept.refl w).alloc (.cells #[f, g] 61)
  have hF := FB.new (w := w) (lv := f) (sv := g) (t := 61)
  go_enter Try.func35, Try.ntmps35
  go_wp2_with fail
  generalize w.alloc (.cells #[f, g] 61) = w1 at *
  go_loopw [5, 6] (fun s u wr => s = .int .i64 0 ∧ u = .int .i64 20 ∧ wr = w1) (fun _ _ _ => 0)
  case atStart => exact ⟨rfl, rfl, rfl⟩
  case round =>
    obtain ⟨rfl, rfl, rfl⟩ := hrel
    have c0 := hF.c0
    have c1 := hF.c1
    go_wp2_with fail
    refine (insertion_nil f g _).mono ?_
    rintro e w2 ⟨rfl, hK⟩
    have hK2 := hK0.trans hK
    clear hK hK0 hF c0 c1
    go_wp2
    go_loopw [4] (fun s wr => s = .int .i64 20 ∧ Kept w wr) (fun _ _ => 0)
    case atStart => exact ⟨rfl, hK2⟩
    case round =>
      obtain ⟨rfl, hK3⟩ := hrel
      go_wp2
      go_end0
      exact ⟨rfl, hK3⟩
theorem swapper_nil (w : World) : (Extern.ReflectliteSwapper.swapper "internal/reflectlite" (Extern.ReflectliteValue.valueError "Swapper") #[.iface 45 (.slice none 0 0)]).run Try.prog w = .ok (.func (.func 37) #[] #[]) w := by
  rw [run_swapper_slice (P := Try.prog) 45 47 infoSl infoCl infoSl_is descSl infoCl_is 25 kindCl none 0 0 37 (by rw [swK0]; kernel_rfl) w, swK0]
  rfl
set_option maxRecDepth 100000 in
set_option maxHeartbeats 4000000 in
theorem sliceStable_nil (bx : Nat) (w : World) :
    Calls Try.prog 28 #[.iface 45 (.slice none 0 0), lessV bx] w fun e w' => e = .returned (.tuple #[]) ∧ Kept w w' := by
  have hv0 := (run_valueOf_slice (P := Try.prog) 45 47 infoSl infoSl_is descSl none 0 0 w)
  have hl0 := (fun a w ha => run_valueLen_slice (P := Try.prog) 45 47 infoSl infoSl_is descSl packSl a none 0 0 w ha)
  simp only [typeHandle, globals0] at hv0 hl0
  have hv := Lib.hid hv0
  have hl := Lib.hid hl0
  clear hv0 hl0
  go_enter Try.func28, Try.ntmps28
  go_wp2
  rw [run_callFunc_extern Try.func33 (by kernel_rfl) (by kernel_rfl) (by kernel_rfl) (e := fun args => Extern.ReflectliteValue.unpack (args.getD 0 (.tuple #[]))) (by kernel_rfl),
    show Sem.run Try.prog ((fun args : Array Value => Extern.ReflectliteValue.unpack (args.getD 0 (.tuple #[]))) #[.iface 45 (.slice none 0 0)]) w = _ from hv.out]
  simp only [Result.andThen]
  rw [Oper.upon_value]
  go_wp2
  rw [run_callFunc_extern Try.func34 (by kernel_rfl) (by kernel_rfl) (by kernel_rfl) (e := Extern.ReflectliteSwapper.swapper "internal/reflectlite" (Extern.ReflectliteValue.valueError "Swapper")) (by kernel_rfl), swapper_nil]
  simp only [Result.andThen]
  rw [Oper.upon_value]
  go_wp2
  rw [run_callFunc_extern Try.func36 (by kernel_rfl) (by kernel_rfl) (by kernel_rfl) (e := Extern.ReflectliteValue.method (Extern.ReflectliteValue.valueError "reflectlite.Value.Len" 0) Extern.ReflectliteValue.len) (by kernel_rfl),
    hl.out _ _ (by simp)]
  simp only [Result.andThen]
  rw [Oper.upon_value]
  go_wp2_with fail
  refine (stable_nil _ _ _).mono ?_
  rintro e w1 ⟨rfl, hK⟩
  have hK2 := (((Kept.refl w).alloc _).alloc _).trans hK
  go_wp2
  go_end0
  exact ⟨rfl, hK2⟩

end Go.Proofs.Ytpkdknddncnceaa
