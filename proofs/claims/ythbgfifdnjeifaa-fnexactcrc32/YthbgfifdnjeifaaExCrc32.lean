/-
  The law FnExactCrc32.
-/
import Derived.Test.YthbgfifdnjeifaaOpenB
import Derived.Test.YthbgfifdnjeifaaCrcI
namespace Go.Proofs.Ythbgfifdnjeifaa.exCrc32
open Go.ChangeShapes Go.WideShapes Go.ChangeAt Go.RowKit
set_option linter.unusedVariables false

theorem own : ownKnob Try.prog.godebug = none := by kernel_rfl
theorem laidOut : laidOutB Try.prog = true := by kernel_rfl

set_option maxHeartbeats 400000 in
theorem walk (v : Value) (xs : List UInt8) (w : World) (h : BysIn w v xs) :
    Calls Try.prog 4 #[v] w fun e w' => e = .returned (.bool true) ∧ Below w.heap.size w w' := by
  obtain ⟨a, cap, hv⟩ := h.slice
  subst hv
  have HI : Hid (BysIn w (.slice a xs.length cap) xs) := h
  have hr := h.1
  unfold maxLen at hr
  clear h
  by_cases hbig : 1048576 < xs.length
  · have z : ¬ ((xs.length : Int) ≤ 1048576) := by omega
    go_enter Try.func4, Try.ntmps4
    go_wp2_with fail
    go_ret
    exact ⟨rfl, Below.refl _ _⟩
  have h1 : xs.length ≤ 1048576 := by omega
  have hm : xs.length ≤ maxLen := by unfold maxLen; omega
  have HM : Hid (xs.length ≤ maxLen) := hm
  clear hm
  go_enter Try.func4, Try.ntmps4
  go_wp2_with fail
  refine (toByteS_in _ xs _ HI.out h1).mono ?_
  rintro e w1 ⟨g1, rfl, ho1, hb1⟩
  have Ho1 : Hid (OwnY w1 w.heap.size g1 xs.length xs) := ho1
  clear ho1
  go_wp2_with fail
  refine (specCrc_core g1 0 xs.length xs _ Ho1.out.at HM.out).mono ?_
  rintro e w2 ⟨rfl, hw2⟩
  rw [hw2]
  clear hw2
  go_wp2_with fail
  refine (toByteS_in _ xs _ (HI.out.below hb1) h1).mono ?_
  rintro e w3 ⟨g3, rfl, ho3, hb3⟩
  have Ho3 : Hid (OwnY w3 w1.heap.size g3 xs.length xs) := ho3
  clear ho3
  go_wp2_with fail
  refine (implCrc_core g3 0 xs.length xs _ Ho3.out.at Ho3.out.lt.2 HM.out).mono ?_
  rintro e w4 ⟨rfl, hb4⟩
  have k4 : Below w.heap.size w w4 := (hb1.trans (hb3.mono hb1.size)).trans (hb4.mono (Nat.le_trans hb1.size hb3.size))
  have Ho4 : Hid (OwnY w4 w1.heap.size g3 xs.length xs) := Ho3.out.below hb4
  clear Ho3 Ho1
  go_wp2_with fail
  refine (toByteS_in _ xs _ (HI.out.below k4) h1).mono ?_
  rintro e w5 ⟨g5, rfl, ho5, hb5⟩
  have Ho5 : Hid (OwnY w5 w4.heap.size g5 xs.length xs ∧ OwnY w5 w1.heap.size g3 xs.length xs) := ⟨ho5, Ho4.out.below hb5⟩
  clear ho5 Ho4
  go_wp2_with fail
  refine (eqByteS_same g3 0 xs.length g5 0 xs.length xs _ Ho5.out.2.at Ho5.out.1.at Ho5.out.2.lt.2 Ho5.out.1.lt.2 HM.out).mono ?_
  rintro e w6 ⟨rfl, hb6⟩
  go_wp2_with fail
  go_ret
  exact ⟨rfl, (k4.trans (hb5.mono k4.size)).trans (hb6.mono (Nat.le_trans k4.size hb5.size))⟩

set_option maxRecDepth 100000 in
theorem lifted (os : Os) (started : os.Started) (H : Type) (enc : TypeId × Value → H) :
    ReturnsInHanded {} Try.checked os 4 .any (Rows.fnExactCrc32Spec.pre6 enc Try.prog Try.f4 Rows.fnExactCrc32Row.domain false) (Rows.fnExactCrc32Spec.post enc Try.prog Try.f4 false true false false) := by
  refine returnsInHanded_of_change (C := Try.checked) own started (by kernel_rfl) Try.func4
    (ChangeSpec.witness6 (enc := enc) (C := Try.checked) false ⟨#[], #[.slice none 0 0], []⟩ 8 (by kernel_rfl) (by kernel_rfl) (by kernel_rfl) (by kernel_rfl)) ?_
  intro W base args ds gs before hval0 hW hcnd _
  have hval : ∀ (j : Nat) t v, Try.f4.params[j]? = some t → args[j]? = some v → Value.okWide Try.prog W .any base t v := hval0
  have hW' := hW
  obtain ⟨p, q, hA0, hV, rfl, hfz, hnd⟩ := hW
  have hA : DataW.TrodAll enc Try.prog W 0 (fun _ => true) true Try.f4.params.toList args.toList ds p := hA0
  rw [Try.params4] at hA hval
  obtain ⟨v0, vs0, d0, ds0, p0, q0, hargs, rfl, rfl, h0, r0⟩ := trodAll_cons hA
  obtain ⟨rfl, rfl, rfl⟩ := trodAll_nil r0
  obtain rfl : args = #[v0] := by cases args; simp_all
  obtain ⟨rfl, rfl⟩ := trodVars_none hV
  have k0 := h0
  have lt0 : ∀ x ∈ p0, x.block < W.heap.size := by obtain ⟨m, hm⟩ := k0; exact DataW.trod_lt m _ _ _ hm
  obtain ⟨xs, hxs⟩ : ∃ xs, BysIn W v0 xs := by
    obtain ⟨a0, len0, cap0, rfl⟩ := okWide_slice Try.underlying30 (hval 0 30 v0 rfl rfl)
    obtain ⟨fuel, hf⟩ := h0
    exact bysIn_of_trod (x := (d0, p0)) (by simpa [Value.cells] using hf) lt0
  clear hA0 hval0
  refine (walk v0 xs W hxs).mono fun e W' ⟨he, bel⟩ => ?_
  subst he
  exact ⟨_, rfl, _, _, _, [], _, [], hW', trodAll_mk1 (shut_bool Try.underlying4 _), (trodAll_cons_mk (Below.trod laidOut (by kernel_rfl) (of_decide_eq_true (by kernel_rfl)) k0 bel lt0) trodAll_mk0), rfl, bel.frame _, fun h => by cases h⟩

theorem over : Rows.fnExactCrc32Row.holds Try.pinned (OpenSpec.ofChange Rows.fnExactCrc32Spec) :=
  OpenClaim.holds_of_wide 4 Try.f4 rfl rfl rfl rfl rfl rfl rfl ⟨rfl, rfl, rfl, rfl, rfl⟩ rfl rfl rfl rfl rfl (by kernel_rfl) Try.func4 (by kernel_rfl)
    (of_decide_eq_true (by kernel_rfl)) (by unfold Func.isWrapper; first | (rw [if_pos (by decide +kernel)]; kernel_rfl) | (rw [if_neg (by decide +kernel)]; exact ⟨rfl, rfl⟩))
    (fun os started H enc _ => lifted os started H enc)

end Go.Proofs.Ythbgfifdnjeifaa.exCrc32
namespace Go.Proofs.Ythbgfifdnjeifaa
theorem exactCrc32_holds : Rows.FnExactCrc32Said := exCrc32.over
#print axioms exactCrc32_holds
end Go.Proofs.Ythbgfifdnjeifaa
