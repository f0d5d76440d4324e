/-
  The law FnExactCheckRegex.
-/
import Derived.Test.YtnncedndlhfdkaaPkAB
namespace Go.Proofs.Ytnncedndlhfdkaa.exCheckRegex
open Go.ChangeShapes Go.WideShapes Go.ChangeAt Go.RowKit Go.Deep
open Go.ChangeMaps (open_string shut_string)
set_option linter.unusedVariables false
set_option linter.unusedSimpArgs false
set_option maxRecDepth 100000

theorem own : ownKnob Try.prog.godebug = none := by kernel_rfl
theorem laidOut : laidOutB Try.prog = true := by kernel_rfl
theorem same (p : List UInt8) : specM p = checkM p := rfl

set_option maxHeartbeats 1000000 in
theorem eqRes_same (c k : Int) (w : World) : Calls Try.prog 25 #[.agg #[.int .i64 c, .int .i64 k], .agg #[.int .i64 c, .int .i64 k]] w fun e w' => e = .returned (.bool true) ∧ Below w.heap.size w w' := by
  go_enter Try.func25, Try.ntmps25
  go_wp2
  go_ret
  exact ⟨rfl, ((Below.refl _ _).alloc (Nat.le_refl _) _).alloc (by simp) _⟩

set_option maxHeartbeats 2000000 in
theorem walk (p : ByteArray) (w : World) (hp : p.size ≤ maxLen) :
    Calls Try.prog 7 #[.string p] w fun e w' => e = .returned (.bool true) ∧ Below w.heap.size w w' := by
  have HP : Hid (p.size ≤ maxLen) := hp
  unfold maxLen at hp
  by_cases hbig : 1048576 < p.size
  · have z : (1048576 : Int) < (p.size : Int) := by omega
    go_enter Try.func7, Try.ntmps7
    go_wp2_with fail
    go_ret
    exact ⟨rfl, Below.refl _ _⟩
  have z : ¬ (1048576 : Int) < (p.size : Int) := by omega
  obtain ⟨c, hc⟩ : ∃ c, c = (checkM (sb p)).1 := ⟨_, rfl⟩
  obtain ⟨k, hk⟩ : ∃ k : Int, k = ((checkM (sb p)).2 : Int) := ⟨_, rfl⟩
  have HS : Hid (∀ w, Calls Try.prog 23 #[.string p] w fun e w' => e = .returned (.agg #[.int .i64 c, .int .i64 k]) ∧ Below w.heap.size w w') := fun w => by
    rw [hc, hk]; exact specCheck_core p w HP.out
  have HI : Hid (∀ w, Calls Try.prog 24 #[.string p] w fun e w' => e = .returned (.agg #[.int .i64 c, .int .i64 k]) ∧ Below w.heap.size w w') := fun w => by
    rw [hc, hk]; exact implCheck_core p w HP.out
  clear hc hk hp hbig
  go_enter Try.func7, Try.ntmps7
  go_wp2_with fail
  refine (HS.out w).mono ?_
  rintro e w1 ⟨rfl, hb1⟩
  obtain ⟨W2, hW2⟩ : ∃ W2 : World, W2 = w1.alloc (Obj.cells #[.int .i64 c, .int .i64 k] 46) := ⟨_, rfl⟩
  have HW2 : Hid (BoxAt W2 w.heap.size 46 2 w1.heap.size [.int .i64 c, .int .i64 k] ∧ Below w.heap.size w W2) := by
    rw [hW2]; exact ⟨boxAt_new w1 _ hb1.size rfl, hb1.trans ((Below.refl _ _).alloc hb1.size _)⟩
  clear hb1
  go_upto_region 4 with fail
  rw [← hW2]
  clear hW2
  go_wp2_with fail
  refine (HI.out W2).mono ?_
  rintro e w3 ⟨rfl, hb3⟩
  have hs2 := HW2.out.2.size
  have hs3 := hb3.size
  obtain ⟨W4, hW4⟩ : ∃ W4 : World, W4 = w3.alloc (Obj.cells #[.int .i64 c, .int .i64 k] 46) := ⟨_, rfl⟩
  have HW4 : Hid (BoxAt W4 w.heap.size 46 2 w1.heap.size [.int .i64 c, .int .i64 k] ∧ BoxAt W4 w.heap.size 46 2 w3.heap.size [.int .i64 c, .int .i64 k] ∧ Below w.heap.size w W4) := by
    have hb4 : Below w3.heap.size w3 W4 := by rw [hW4]; exact (Below.refl _ _).alloc (Nat.le_refl _) _
    refine ⟨(HW2.out.1.below hb3).below hb4, ?_, (HW2.out.2.trans (hb3.mono hs2)).trans (hb4.mono (by omega))⟩
    rw [hW4]; exact boxAt_new w3 _ (by omega) rfl
  clear hb3 HW2
  go_upto_region 5 with fail
  rw [← hW4]
  clear hW4
  have b0 := HW4.out.1.cell (j := 0) rfl
  have b1 := HW4.out.1.cell (j := 1) rfl
  have d0 := HW4.out.2.1.cell (j := 0) rfl
  have d1 := HW4.out.2.1.cell (j := 1) rfl
  go_wp2_with fail
  refine (eqRes_same c k W4).mono ?_
  rintro e w5 ⟨rfl, hb5⟩
  go_wp2_with fail
  go_ret
  exact ⟨rfl, HW4.out.2.2.trans (hb5.mono HW4.out.2.2.size)⟩

theorem lifted (os : Os) (started : os.Started) (H : Type) (enc : TypeId × Value → H) :
    ReturnsInHanded {} Try.checked os 7 .any (Rows.fnExactCheckRegexSpec.pre6 enc Try.prog Try.f7 Rows.fnExactCheckRegexRow.domain false) (Rows.fnExactCheckRegexSpec.post enc Try.prog Try.f7 false true false false) := by
  refine returnsInHanded_of_change (C := Try.checked) own started (by kernel_rfl) Try.func7
    (ChangeSpec.witness6 (enc := enc) (C := Try.checked) false ⟨#[], #[.string ⟨#[]⟩], []⟩ 8 (by kernel_rfl) (by kernel_rfl) (by kernel_rfl) (by kernel_rfl)) ?_
  intro W base args ds gs before hval0 hW hcnd _
  have hval : ∀ (j : Nat) t v, Try.f7.params[j]? = some t → args[j]? = some v → Value.okWide Try.prog W .any base t v := hval0
  have hW' := hW
  obtain ⟨p, q, hA0, hV, rfl, hfz, hnd⟩ := hW
  have hA : DataW.TrodAll enc Try.prog W 0 (fun _ => true) true Try.f7.params.toList args.toList ds p := hA0
  rw [Try.params7] at hA hval
  obtain ⟨v0, vs0, d0, ds0, p0, q0, hargs, rfl, rfl, h0, r0⟩ := trodAll_cons hA
  obtain ⟨rfl, rfl, rfl⟩ := trodAll_nil r0
  obtain rfl : args = #[v0] := by cases args; simp_all
  obtain ⟨rfl, rfl⟩ := trodVars_none hV
  have k0 := h0
  have lt0 : ∀ x ∈ p0, x.block < W.heap.size := by obtain ⟨m, hm⟩ := k0; exact DataW.trod_lt m _ _ _ hm
  obtain ⟨s, rfl, _, _, hs⟩ := open_string Try.underlying9 (hval 0 9 v0 rfl rfl) h0
  clear hA0 hval0
  refine (walk s W hs).mono fun e W' ⟨he, bel⟩ => ?_
  subst he
  exact ⟨_, rfl, _, _, _, [], _, [], hW', trodAll_mk1 (shut_bool Try.underlying4 _), (trodAll_cons_mk (Below.trod laidOut (by kernel_rfl) (of_decide_eq_true (by kernel_rfl)) k0 bel lt0) trodAll_mk0), rfl, bel.frame _, fun h => by cases h⟩

theorem over : Rows.fnExactCheckRegexRow.holds Try.pinned (OpenSpec.ofChange Rows.fnExactCheckRegexSpec) :=
  OpenClaim.holds_of_wide 7 Try.f7 rfl rfl rfl rfl rfl rfl rfl ⟨rfl, rfl, rfl, rfl, rfl⟩ rfl rfl rfl rfl rfl (by kernel_rfl) Try.func7 (by kernel_rfl)
    (of_decide_eq_true (by kernel_rfl)) (by unfold Func.isWrapper; first | (rw [if_pos (by decide +kernel)]; kernel_rfl) | (rw [if_neg (by decide +kernel)]; exact ⟨rfl, rfl⟩))
    (fun os started H enc _ => lifted os started H enc)

end Go.Proofs.Ytnncedndlhfdkaa.exCheckRegex
namespace Go.Proofs.Ytnncedndlhfdkaa
theorem exactCheckRegex_holds : Rows.FnExactCheckRegexSaid := exCheckRegex.over
#print axioms exactCheckRegex_holds
end Go.Proofs.Ytnncedndlhfdkaa
