/-
  What the library's sort.Slice does to the row of entries, where the plain function says so. No condition but those that each theorem names.
-/
import Derived.Test.YtbaahnafmfjpaaaGreatDoorYWalkG
import Derived.Test.YtbaahnafmfjpaaaGreatDoorYBits
namespace Go.Proofs.YtbaahnafmfjpaaaGreatDoor
open Go.RowKit Go.Lib
set_option linter.unusedVariables false

theorem bitAux_le : ∀ f x : Nat, Lib.bitLenAux f x ≤ f
  | 0, x => by simp [Lib.bitLenAux]
  | f + 1, x => by
    have := bitAux_le f (x / 2)
    unfold Lib.bitLenAux
    split <;> omega
theorem bitLen_pos {n : Nat} (h : 1 ≤ n) (h2 : n ≤ 1000000) : 0 < Lib.bitLen n ∧ Lib.bitLen n ≤ 1000 := by
  have := bitAux_le 64 n
  refine ⟨?_, by unfold Lib.bitLen; omega⟩
  unfold Lib.bitLen Lib.bitLenAux
  rw [if_neg (by omega)]; omega
theorem bitsLen_any (n : Nat) (w : World) (h1 : 1 ≤ n) (h2 : n ≤ 1000000) :
    Calls Tryz.prog 69 #[.int .u64 (n : Int)] w fun e w' => e = .returned (.int .i64 ((Lib.bitLen n : Nat) : Int)) ∧ w' = w :=
  Any.bits_Len Tryz.lays125 (n : Int) w (by omega) (by omega)
theorem infoZ_map : (Tryz.prog.info? 23).map (fun i => i.desc) = some (.slice 38) := by kernel_rfl
theorem infoZ_get : ∃ i, Tryz.prog.info? 23 = some i ∧ i.desc = .slice 38 := by
  have h := infoZ_map
  cases e : Tryz.prog.info? 23 with
  | none => rw [e] at h; simp at h
  | some i => rw [e] at h; simp at h; exact ⟨i, rfl, h⟩
noncomputable def infoZ : TypeInfo := infoZ_get.choose
theorem infoZ_is : Tryz.prog.info? 23 = some infoZ := infoZ_get.choose_spec.1
theorem descZ : infoZ.desc = .slice 38 := infoZ_get.choose_spec.2
theorem packZ : Tryz.prog.packed 23 = false := by kernel_rfl
theorem kindY (w : World) : (Extern.Rtype.kind 38).run Tryz.prog w = .ok 25 w := by kernel_rfl
theorem swKY (n : Nat) (h2 : 2 ≤ n) : Lib.swapperK n infoY 25 = 9 := by
  have a := ptrsY
  have b := bytesY
  have c : (n == 0) = false := by simp; omega
  have d : (n == 1) = false := by simp; omega
  simp [Lib.swapperK, a, b, c, d]
theorem swKY1 : Lib.swapperK 1 infoY 25 = 2 := rfl
/-- The exchange that the library makes. -/
theorem swapperY_ok (B : World) (p N bx cap : Nat) (C : En) (h1 : 1 ≤ N) : ∃ (sf : Nat) (sb : Array Value),
    (∀ w, (Extern.ReflectliteSwapper.swapper "internal/reflectlite" (Extern.ReflectliteValue.valueError "Swapper") #[.iface 23 (.slice (some ⟨p, 0, none⟩) N cap)]).run Tryz.prog w = .ok (.func (.func sf) #[] sb) w) ∧ SwapY B p N bx cap C sf sb := by
  by_cases h2 : 2 ≤ N
  · refine ⟨93, #[.slice (some ⟨p, 0, none⟩) N cap, typeHandle Tryz.prog 38], fun w => ?_, swapY_9 B p N bx cap C⟩
    rw [run_swapper_slice (P := Tryz.prog) 23 38 infoZ infoY infoZ_is descZ infoY_is 25 kindY (some ⟨p, 0, none⟩) N cap 93 (by rw [swKY N h2]; kernel_rfl) w, swKY N h2]
    rfl
  · obtain rfl : N = 1 := by omega
    refine ⟨86, #[], fun w => ?_, swapY_none B p 1 bx cap C _ _ (Nat.le_refl _)⟩
    rw [run_swapper_slice (P := Tryz.prog) 23 38 infoZ infoY infoZ_is descZ infoY_is 25 kindY (some ⟨p, 0, none⟩) 1 cap 86 (by rw [swKY1]; kernel_rfl) w, swKY1]
    rfl
section
variable {B w : World} {p N bx cap : Nat} {C : En} {d d' : Nat → Nat}
set_option maxRecDepth 100000 in
set_option maxHeartbeats 4000000 in
theorem sliceY_any (hS : Sy B w p N bx cap C d) (n1 : 1 ≤ N) (hN : N ≤ 1000) (hI : InY N d) (key : ∀ x y : Nat, x < N → y < N → beY (C.d x) (C.k x) (C.d y) (C.k y) = Nat.blt x y) {n : Nat} (hp : pdqO n d 0 N true true = some d') :
    Calls Tryz.prog 48 #[.iface 23 (.slice (some ⟨p, 0, none⟩) N cap), lessW bx] w (WrY B w p N bx cap C d') := by
  obtain ⟨sf, sb, hsw, hok⟩ := swapperY_ok B p N bx cap C n1
  have EE : EnvY B p N bx cap C sf sb := ⟨by omega, key, hok⟩
  obtain ⟨b1, b2⟩ := bitLen_pos n1 (by omega : N ≤ 1000000)
  have hv0 := (run_valueOf_slice (P := Tryz.prog) 23 38 infoZ infoZ_is descZ (some ⟨p, 0, none⟩) N cap w)
  have hl0 := (fun a w ha => run_valueLen_slice (P := Tryz.prog) 23 38 infoZ infoZ_is descZ packZ a (some ⟨p, 0, none⟩) N cap w ha)
  obtain ⟨G, hg⟩ : ∃ G, Tryz.prog.globals.size = G := ⟨_, rfl⟩
  simp only [typeHandle, hg] at hv0 hl0
  have hv := Lib.hid hv0
  have hl := Lib.hid hl0
  have PD := Lib.hid (fun W (h : Sy B W p N bx cap C d) => pdqY_any EE (Lib.bitLen N) b1 b2 n 0 N d d' W 0 (N : Int) rfl rfl (Nat.zero_le _) (Nat.le_refl _) hI h hp)
  have BL := Lib.hid (fun W => bitsLen_any N W n1 (by omega))
  clear hv0 hl0 hg
  have HS := Lib.hid hS
  have HSW := Lib.hid hsw
  have u1 : IntKind.u64.wrap (N : Int) = (N : Int) := by rw [IntKind.wrap_u64]; omega
  clear hS key hok hsw EE hp hI
  go_enter Tryz.func48, Tryz.ntmps48
  go_wp2
  rw [run_callFunc_extern Tryz.func66 (by kernel_rfl) (by kernel_rfl) (by kernel_rfl) (e := fun args => Extern.ReflectliteValue.unpack (args.getD 0 (.tuple #[]))) (by kernel_rfl),
    show Sem.run Tryz.prog ((fun args : Array Value => Extern.ReflectliteValue.unpack (args.getD 0 (.tuple #[]))) #[.iface 23 (.slice (some ⟨p, 0, none⟩) N cap)]) w = _ from hv.out]
  simp only [Result.andThen]
  rw [Oper.upon_value]
  go_wp2
  rw [run_callFunc_extern Tryz.func67 (by kernel_rfl) (by kernel_rfl) (by kernel_rfl) (e := Extern.ReflectliteSwapper.swapper "internal/reflectlite" (Extern.ReflectliteValue.valueError "Swapper")) (by kernel_rfl), HSW.out]
  simp only [Result.andThen]
  rw [Oper.upon_value]
  go_wp2
  rw [run_callFunc_extern Tryz.func68 (by kernel_rfl) (by kernel_rfl) (by kernel_rfl) (e := Extern.ReflectliteValue.method (Extern.ReflectliteValue.valueError "reflectlite.Value.Len" 0) Extern.ReflectliteValue.len) (by kernel_rfl),
    hl.out _ _ (by simp)]
  simp only [Result.andThen]
  rw [Oper.upon_value]
  go_wp2_with fail
  refine (BL.out _).mono ?_
  rintro e w3 ⟨rfl, rfl⟩
  go_wp2_with fail
  refine (PD.out _ (HS.out.later (((Kept.refl w).alloc _).alloc _))).mono ?_
  rintro e w4 ⟨⟨rfl, hS4, hT4⟩, hI4⟩
  have hT5 := (Turn.kept (p := p) (((Kept.refl w).alloc _).alloc _)).trans hT4
  go_wp2
  go_end0
  exact ⟨rfl, hS4, hT5⟩
end
end Go.Proofs.YtbaahnafmfjpaaaGreatDoor
