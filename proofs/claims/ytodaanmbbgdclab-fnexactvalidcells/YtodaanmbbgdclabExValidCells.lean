/-
  The law FnExactValidCells.
-/
import Derived.Test.YtodaanmbbgdclabCelV
import Derived.Test.YtodaanmbbgdclabCelIn
namespace Go.Proofs.Ytodaanmbbgdclab.exValidCells
open Go.ChangeShapes Go.WideShapes Go.ChangeAt Go.RowKit Go.Deep
set_option linter.unusedVariables false
set_option linter.unusedSimpArgs false
set_option maxRecDepth 100000

theorem own : ownKnob Try.prog.godebug = none := by kernel_rfl
theorem laidOut : laidOutB Try.prog = true := by kernel_rfl
theorem bool_of_iff {a b : Bool} {p : Prop} (h : a = true ↔ p) (k : b = true ↔ p) : a = b := by
  rw [Bool.eq_iff_iff, h, k]

set_option maxHeartbeats 4000000 in
theorem walk (u : Value) (es : List Ent) (w : World) (h : InCels w u es) (hok : ∀ e ∈ es, e.ok) :
    Calls Try.prog 4 #[u] w fun e w' => e = .returned (.bool true) ∧ Below w.heap.size w w' := by
  have HE : Hid (InCels w u es ∧ ∀ e ∈ es, e.ok) := ⟨h, hok⟩
  obtain ⟨ua, un, uc, rfl⟩ : ∃ a n c, u = .slice a n c := by
    rcases h with ⟨a, cap, rfl, _⟩ | ⟨b, off, cap, rfl, _⟩ <;> exact ⟨_, _, _, rfl⟩
  clear h hok
  go_enter Try.func4, Try.ntmps4
  go_wp2_with fail
  refine (szCellS_any _ es _ w HE.out.1 HE.out.2 (by omega) (by omega)).mono ?_
  rintro e w1 ⟨x, rfl, hx, hb1⟩
  by_cases hx0 : x < 0
  · clear hx
    go_wp2_with fail
    go_ret
    exact ⟨rfl, hb1⟩
  have hn : es.length ≤ 1048576 := by omega
  clear hx
  have HE1 : Hid (InCels w1 (.slice ua un uc) es) := HE.out.1.below hb1 (Nat.le_refl _)
  go_wp2_with fail
  refine (toCellS_any _ es w1 HE1.out hn).mono ?_
  rintro e w2 ⟨g2, rfl, hO2, hb2⟩
  have HO2 : Hid (OwnC w2 w1.heap.size g2 es.length es) := hO2
  have HE2 : Hid (InCels w2 (.slice ua un uc) es) := HE1.out.below hb2 (Nat.le_refl _)
  have hs1 := hb1.size
  have hs2 := hb2.size
  clear hO2 HE1
  go_wp2_with fail
  refine (specCells_core g2 es.length es w1.heap.size w2 HO2.out HE.out.2 hn).mono ?_
  rintro e w3 ⟨r1, rfl, hr1, hb3⟩
  have HR1 : Hid (r1 = true ↔ GoodR (es.map putE)) := hr1
  have HE3 : Hid (InCels w3 (.slice ua un uc) es) := HE2.out.below hb3 (Nat.le_refl _)
  have hs3 := hb3.size
  clear hr1 HE2
  go_wp2_with fail
  refine (toCellS_any _ es w3 HE3.out hn).mono ?_
  rintro e w4 ⟨g4, rfl, hO4, hb4⟩
  have HO4 : Hid (OwnC w4 w3.heap.size g4 es.length es) := hO4
  have HE4 : Hid (InCels w4 (.slice ua un uc) es) := HE3.out.below hb4 (Nat.le_refl _)
  have hs4 := hb4.size
  clear hO4 HE3
  go_wp2_with fail
  refine (implCells_core g4 es.length es w3.heap.size w4 HO4.out HE.out.2 hn).mono ?_
  rintro e w5 ⟨r2, rfl, hr2, hb5⟩
  obtain rfl : r2 = r1 := bool_of_iff hr2 HR1.out
  have HO5 : Hid (OwnC w5 w3.heap.size g4 es.length es) := HO4.out.below hb5 HO4.out.lt.2
  have HE5 : Hid (InCels w5 (.slice ua un uc) es) := HE4.out.below hb5 (Nat.le_refl _)
  have hs5 := hb5.size
  clear hr2 HE4 HR1
  go_wp2_with fail
  refine (toCellS_any _ es w5 HE5.out hn).mono ?_
  rintro e w6 ⟨g6, rfl, hO6, hb6⟩
  have HO6 : Hid (OwnC w6 w3.heap.size g4 es.length es ∧ OwnC w6 w5.heap.size g6 es.length es) := ⟨HO5.out.below hb6 HO5.out.lt.2, hO6⟩
  have hs6 := hb6.size
  clear hO6
  go_wp2_with fail
  refine (eqCellS_own HO6.out.1 HO6.out.2).mono ?_
  rintro e w7 ⟨rfl, hb7⟩
  have k6 : Below w.heap.size w w6 := (((((hb1.trans (hb2.mono (by omega))).trans (hb3.mono (by omega))).trans (hb4.mono (by omega))).trans (hb5.mono (by omega))).trans (hb6.mono (by omega)))
  go_wp2_with fail
  go_ret
  exact ⟨rfl, k6.trans (hb7.mono (by omega))⟩

theorem lifted (os : Os) (started : os.Started) (H : Type) (enc : TypeId × Value → H) :
    ReturnsInHanded {} Try.checked os 4 .any (Rows.fnExactValidCellsSpec.pre6 enc Try.prog Try.f4 Rows.fnExactValidCellsRow.domain false) (Rows.fnExactValidCellsSpec.post enc Try.prog Try.f4 false true false false) := by
  refine returnsInHanded_of_change (C := Try.checked) own started (by kernel_rfl) Try.func4
    (ChangeSpec.witness6 (enc := enc) (C := Try.checked) false ⟨#[], #[.slice none 0 0], []⟩ 8 (by kernel_rfl) (by kernel_rfl) (by kernel_rfl) (by kernel_rfl)) ?_
  intro W base args ds gs before hval0 hW hcnd _
  have hval : ∀ (j : Nat) t v, Try.f4.params[j]? = some t → args[j]? = some v → Value.okWide Try.prog W .any base t v := hval0
  have hW' := hW
  obtain ⟨p, q, hA0, hV, rfl, hfz, hnd⟩ := hW
  have hA : DataW.TrodAll enc Try.prog W 0 (fun _ => true) true Try.f4.params.toList args.toList ds p := hA0
  rw [Try.params4] at hA hval
  obtain ⟨v0, vs0, d0, ds0, p0, q0, hargs, rfl, rfl, h0, r0⟩ := trodAll_cons hA
  obtain ⟨rfl, rfl, rfl⟩ := trodAll_nil r0
  obtain rfl : args = #[v0] := by cases args; simp_all
  obtain ⟨rfl, rfl⟩ := trodVars_none hV
  have k0 := h0
  have lt0 : ∀ x ∈ p0, x.block < W.heap.size := by obtain ⟨m, hm⟩ := k0; exact DataW.trod_lt m _ _ _ hm
  obtain ⟨es, hin, ok0⟩ : ∃ es, InCels W v0 es ∧ ∀ e ∈ es, e.ok := by
    obtain ⟨a0, len0, cap0, rfl⟩ := okWide_slice Try.underlying33 (hval 0 33 v0 rfl rfl)
    obtain ⟨fuel, hf⟩ := h0
    exact cels_of_trod (by simpa [Value.cells] using hf)
  clear hA0 hval0
  refine (walk v0 es W hin ok0).mono fun e W' ⟨he, bel⟩ => ?_
  subst he
  exact ⟨_, rfl, _, _, _, [], _, [], hW', trodAll_mk1 (shut_bool Try.underlying4 _), (trodAll_cons_mk (Below.trod laidOut (by kernel_rfl) (of_decide_eq_true (by kernel_rfl)) k0 bel lt0) trodAll_mk0), rfl, bel.frame _, fun h => by cases h⟩

theorem over : Rows.fnExactValidCellsRow.holds Try.pinned (OpenSpec.ofChange Rows.fnExactValidCellsSpec) :=
  OpenClaim.holds_of_wide 4 Try.f4 rfl rfl rfl rfl rfl rfl rfl ⟨rfl, rfl, rfl, rfl, rfl⟩ rfl rfl rfl rfl rfl (by kernel_rfl) Try.func4 (by kernel_rfl)
    (of_decide_eq_true (by kernel_rfl)) (by unfold Func.isWrapper; first | (rw [if_pos (by decide +kernel)]; kernel_rfl) | (rw [if_neg (by decide +kernel)]; exact ⟨rfl, rfl⟩))
    (fun os started H enc _ => lifted os started H enc)

end Go.Proofs.Ytodaanmbbgdclab.exValidCells
namespace Go.Proofs.Ytodaanmbbgdclab
theorem exactValidCells_holds : Rows.FnExactValidCellsSaid := exValidCells.over
#print axioms exactValidCells_holds
end Go.Proofs.Ytodaanmbbgdclab
