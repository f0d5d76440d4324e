/-
  The law FnExactEmptyStore.
-/
import Derived.Test.YtlgeffinhbodeabEmS
namespace Go.Proofs.Ytlgeffinhbodeab.exEmptyStore
open Go.ChangeShapes Go.WideShapes Go.ChangeAt Go.RowKit Go.Deep
set_option linter.unusedVariables false
set_option linter.unusedSimpArgs false
set_option maxRecDepth 100000

theorem own : ownKnob Try.prog.godebug = none := by kernel_rfl
theorem laidOut : laidOutB Try.prog = true := by kernel_rfl
def tx0 : List Tx := [⟨⟨#[]⟩, .slice none 0 0, []⟩]
theorem vw0 (x : Value) : vwT ([⟨⟨#[]⟩, .slice none 0 0, []⟩].map Tx.tn) = vwT [⟨⟨#[]⟩, x, []⟩] := rfl
theorem vwM {ts : List Tx} (h : ts.map shpT = [⟨⟨#[]⟩, .slice none 0 0, []⟩].map shpT) : totX ts = 1 := by rw [shpT_tot h]; rfl

set_option maxHeartbeats 4000000 in
theorem walk (w : World) :
    Calls Try.prog 5 #[] w fun e w' => e = .returned (.bool true) ∧ Below w.heap.size w w' := by
  go_enter Try.func5, Try.ntmps5
  go_wp2_with fail
  refine (specEmpty_core _).mono ?_
  rintro e w1 ⟨gv, rfl, hI1, hb1⟩
  obtain ⟨x, hx⟩ : ∃ x : Value, x = .slice (some ⟨w.heap.size + 1, 0, none⟩) 0 0 := ⟨_, rfl⟩
  rw [← hx] at hI1
  clear hx
  obtain ⟨W2, hW2⟩ : ∃ W2 : World, W2 = w1.alloc (Obj.cells #[.slice (some ⟨gv, 0, none⟩) 1 1] 42) := ⟨_, rfl⟩
  have hb2 : Below w1.heap.size w1 W2 := by rw [hW2]; exact (Below.refl _ _).alloc (Nat.le_refl _) _
  have hz2 : W2.heap.size = w1.heap.size + 1 := by rw [hW2]; simp
  have s1 := hb1.size
  have HW : Hid (InTabs W2 (.slice (some ⟨gv, 0, none⟩) 1 1) [⟨⟨#[]⟩, x, []⟩] ∧ W2.cell? ⟨w1.heap.size, 0, none⟩ = some (.slice (some ⟨gv, 0, none⟩) 1 1) ∧ Below w.heap.size w W2) := ⟨hI1.below hb2, by rw [hW2]; simp, hb1.trans (hb2.mono s1)⟩
  clear hI1
  go_wp2_with fail
  rw [← hW2]
  clear hW2
  refine (implEmpty_core _).mono ?_
  rintro e w3 ⟨gu, rfl, hS3, hb3⟩
  have s3 := hb3.size
  obtain ⟨W4, hW4⟩ : ∃ W4 : World, W4 = w3.alloc (Obj.cells #[.slice (some ⟨gu, 0, none⟩) 1 1] 42) := ⟨_, rfl⟩
  have hb4 : Below w3.heap.size w3 W4 := by rw [hW4]; exact (Below.refl _ _).alloc (Nat.le_refl _) _
  have hz4 : W4.heap.size = w3.heap.size + 1 := by rw [hW4]; simp
  have k24 : Below W2.heap.size W2 W4 := hb3.trans (hb4.mono (by omega))
  have HS : Hid (OwnSt W4 W2.heap.size (.slice (some ⟨gu, 0, none⟩) 1 1) [⟨⟨#[]⟩, .slice none 0 0, []⟩] ∧ ∀ wx, Below W4.heap.size W4 wx → wx.cell? ⟨w3.heap.size, 0, none⟩ = some (.slice (some ⟨gu, 0, none⟩) 1 1)) := ⟨hS3.below hb4, fun wx hx => by rw [hx.cell (p := ⟨w3.heap.size, 0, none⟩) (by show w3.heap.size < W4.heap.size; omega), hW4]; simp⟩
  have HK3 : Hid (OwnSt w3 W2.heap.size (.slice (some ⟨gu, 0, none⟩) 1 1) [⟨⟨#[]⟩, .slice none 0 0, []⟩]) := hS3
  clear hS3
  have cu := HS.out.2 W4 (Below.refl _ _)
  have cv : W4.cell? ⟨w1.heap.size, 0, none⟩ = some (.slice (some ⟨gv, 0, none⟩) 1 1) := by rw [k24.cell (p := ⟨w1.heap.size, 0, none⟩) (by show w1.heap.size < _; omega)]; exact HW.out.2.1
  go_upto_region 3 with fail
  rw [← hW4]
  clear hW4
  go_wp2_with fail
  refine (eqStore_any _ _ _ _ _ HS.out.1.ins (HW.out.1.below k24) (vw0 x)).mono ?_
  rintro e w5 ⟨rfl, hb5⟩
  have s5 := hb5.size
  have HS5 : Hid (OwnSt w5 W2.heap.size (.slice (some ⟨gu, 0, none⟩) 1 1) [⟨⟨#[]⟩, .slice none 0 0, []⟩]) := HS.out.1.below hb5
  have k25 : Below W2.heap.size W2 w5 := k24.trans (hb5.mono (by omega))
  clear cu cv
  have cu := HS.out.2 w5 hb5
  go_wp2_with fail
  refine (markStore_gen W2.heap.size _ _ 1 _ HS5.out List.Pairwise.nil (by omega) (by decide) (fun t ht => by simp at ht; subst ht; exact ⟨by decide, by decide⟩) (by decide)).mono ?_
  rintro e w6 ⟨ts', rfl, hsh, hS6, hmk6, hC6⟩
  have s6 := hC6.size
  have hkey : ∀ k, KeysT (.slice (some ⟨gu, 0, none⟩) 1 1) [⟨⟨#[]⟩, .slice none 0 0, []⟩] k → W2.heap.size ≤ k ∧ k < W4.heap.size ∧ k ≠ w3.heap.size := by
    intro k hk
    have h3 := HK3.out.key hk
    omega
  have HS6 : Hid (OwnSt w6 W2.heap.size (.slice (some ⟨gu, 0, none⟩) 1 1) ts' ∧ MarkedT 1 ts' ∧ ts'.map shpT = [⟨⟨#[]⟩, .slice none 0 0, []⟩].map shpT) := ⟨hS6, hmk6, hsh⟩
  have k26 : Below W2.heap.size W2 w6 := Chg.below k25 hC6 k25.size (fun k q => (hkey k q).1)
  have cu6 : w6.cell? ⟨w3.heap.size, 0, none⟩ = some (.slice (some ⟨gu, 0, none⟩) 1 1) := by rw [hC6.cell (p := ⟨w3.heap.size, 0, none⟩) (by show w3.heap.size < w5.heap.size; omega) (fun q => (hkey _ q).2.2 rfl)]; exact HS.out.2 w5 hb5
  clear hS6 hmk6 hsh hC6 hkey cu
  go_wp2_with fail
  refine (heldStore_gen W2.heap.size _ ts' 1 _ HS6.out.1 HS6.out.2.1 (by omega) (by rw [vwM HS6.out.2.2]; decide) (shpT_ok HS6.out.2.2 (fun t ht => by simp at ht; subst ht; exact ⟨by decide, by decide⟩)) (by have := congrArg List.length HS6.out.2.2; simp at this; omega)).mono ?_
  rintro e w7 ⟨rfl, hb7⟩
  have s7 := hb7.size
  have k27 : Below W2.heap.size W2 w7 := k26.trans (hb7.mono k26.size)
  have ht1 : totX ts' = 1 := vwM HS6.out.2.2
  have ht0 : totX [(⟨⟨#[]⟩, .slice none 0 0, []⟩ : Tx)] = 1 := rfl
  rw [ht1]
  clear cu6
  go_wp2_with fail
  refine (implEmpty_core _).mono ?_
  rintro e w8 ⟨gh, rfl, hS8, hb8⟩
  have s8 := hb8.size
  obtain ⟨W9, hW9⟩ : ∃ W9 : World, W9 = w8.alloc (Obj.cells #[.slice (some ⟨gh, 0, none⟩) 1 1] 42) := ⟨_, rfl⟩
  have hb9 : Below w8.heap.size w8 W9 := by rw [hW9]; exact (Below.refl _ _).alloc (Nat.le_refl _) _
  have k29 : Below W2.heap.size W2 W9 := k27.trans ((hb8.trans (hb9.mono s8)).mono k27.size)
  have HS9 : Hid (OwnSt W9 w7.heap.size (.slice (some ⟨gh, 0, none⟩) 1 1) [⟨⟨#[]⟩, .slice none 0 0, []⟩]) := hS8.below hb9
  have ch : W9.cell? ⟨w8.heap.size, 0, none⟩ = some (.slice (some ⟨gh, 0, none⟩) 1 1) := by rw [hW9]; simp
  have cv : W9.cell? ⟨w1.heap.size, 0, none⟩ = some (.slice (some ⟨gv, 0, none⟩) 1 1) := by rw [k29.cell (p := ⟨w1.heap.size, 0, none⟩) (by show w1.heap.size < _; omega)]; exact HW.out.2.1
  clear hS8
  go_upto_region 14 with fail
  rw [← hW9]
  clear hW9
  go_wp2_with fail
  refine (eqStore_any _ _ _ _ _ HS9.out.ins (HW.out.1.below k29) (vw0 x)).mono ?_
  rintro e w10 ⟨rfl, hb10⟩
  have k210 : Below W2.heap.size W2 w10 := k29.trans (hb10.mono k29.size)
  go_wp2_with fail
  go_ret
  exact ⟨rfl, HW.out.2.2.trans (k210.mono (by omega))⟩

theorem lifted (os : Os) (started : os.Started) (H : Type) (enc : TypeId × Value → H) :
    ReturnsInHanded {} Try.checked os 5 .any (Rows.fnExactEmptyStoreSpec.pre6 enc Try.prog Try.f5 Rows.fnExactEmptyStoreRow.domain false) (Rows.fnExactEmptyStoreSpec.post enc Try.prog Try.f5 false true false false) := by
  refine returnsInHanded_of_change (C := Try.checked) own started (by kernel_rfl) Try.func5
    (ChangeSpec.witness6 (enc := enc) (C := Try.checked) false ⟨#[], #[], []⟩ 8 (by kernel_rfl) (by kernel_rfl) (by kernel_rfl) (by kernel_rfl)) ?_
  intro W base args ds gs before hval0 hW hcnd _
  have hW' := hW
  obtain ⟨p, q, hA0, hV, rfl, hfz, hnd⟩ := hW
  have hA : DataW.TrodAll enc Try.prog W 0 (fun _ => true) true Try.f5.params.toList args.toList ds p := hA0
  rw [Try.params5] at hA
  obtain ⟨hargs, rfl, rfl⟩ := trodAll_nil hA
  obtain rfl : args = #[] := by cases args; simp_all
  obtain ⟨rfl, rfl⟩ := trodVars_none hV
  clear hA0 hval0
  refine (walk W).mono fun e W' ⟨he, bel⟩ => ?_
  subst he
  exact ⟨_, rfl, _, _, _, [], _, [], hW', trodAll_mk1 (shut_bool Try.underlying4 _), trodAll_mk0, rfl, bel.frame _, fun h => by cases h⟩

theorem over : Rows.fnExactEmptyStoreRow.holds Try.pinned (OpenSpec.ofChange Rows.fnExactEmptyStoreSpec) :=
  OpenClaim.holds_of_wide 5 Try.f5 rfl rfl rfl rfl rfl rfl rfl ⟨rfl, rfl, rfl, rfl, rfl⟩ rfl rfl rfl rfl rfl (by kernel_rfl) Try.func5 (by kernel_rfl)
    (of_decide_eq_true (by kernel_rfl)) (by unfold Func.isWrapper; first | (rw [if_pos (by decide +kernel)]; kernel_rfl) | (rw [if_neg (by decide +kernel)]; exact ⟨rfl, rfl⟩))
    (fun os started H enc _ => lifted os started H enc)

end Go.Proofs.Ytlgeffinhbodeab.exEmptyStore
namespace Go.Proofs.Ytlgeffinhbodeab
theorem exactEmptyStore_holds : Rows.FnExactEmptyStoreSaid := exEmptyStore.over
#print axioms exactEmptyStore_holds
end Go.Proofs.Ytlgeffinhbodeab
