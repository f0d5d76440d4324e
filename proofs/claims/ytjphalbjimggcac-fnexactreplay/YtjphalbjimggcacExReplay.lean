/-
  The law FnExactReplay.
-/
import Derived.Test.YtjphalbjimggcacRepI
namespace Go.Proofs.Ytjphalbjimggcac.exReplay
open Go.ChangeShapes Go.WideShapes Go.ChangeAt Go.RowKit Go.Deep
set_option linter.unusedVariables false
set_option linter.unusedSimpArgs false

theorem own : ownKnob Try.prog.godebug = none := by kernel_rfl
theorem laidOut : laidOutB Try.prog = true := by kernel_rfl

theorem InEnts.cells {w : World} {v : Value} {es : List Ent} (h : InEnts w v es) : v.cells = #[v] := by
  rcases h with ⟨a, cap, rfl, _⟩ | ⟨b, off, cap, rfl, _⟩ <;> rfl

set_option maxHeartbeats 4000000 in
theorem walk (v : Value) (es : List Ent) (w : World) (h : InEnts w v es) (hok : ∀ e ∈ es, e.ok) :
    Calls Try.prog 3 #[v] w fun e w' => e = .returned (.bool true) ∧ Below w.heap.size w w' := by
  have HE : Hid (InEnts w v es ∧ ∀ e ∈ es, e.ok) := ⟨h, hok⟩
  clear h hok
  go_enter Try.func3, Try.ntmps3
  go_wp2_with fail
  refine (szEntryS_any v es _ _ HE.out.1 HE.out.2 (by omega) (by omega)).mono ?_
  rintro e w1 ⟨x, rfl, hx, hb1⟩
  have hs1 := hb1.size
  by_cases hx0 : x < 0
  · clear hx
    go_wp2_with fail
    go_ret
    exact ⟨rfl, hb1⟩
  have hn : es.length ≤ 1048576 := by omega
  clear hx
  have HE1 : Hid (InEnts w1 v es) := HE.out.1.below hb1 (Nat.le_refl _)
  go_wp2_with fail
  refine (toEntryS_any v es _ HE1.out hn).mono ?_
  rintro e w2 ⟨ga, rfl, hO2, hb2⟩
  have hs2 := hb2.size
  have HO2 : Hid (OwnE w2 w1.heap.size ga es.length es) := hO2
  have HE2 : Hid (InEnts w2 v es) := HE1.out.below hb2 (Nat.le_refl _)
  clear hO2
  go_wp2_with fail
  refine (specReplay_core ga 0 es.length es _ HO2.out.at HE.out.2 HO2.out.lt.2 hn).mono ?_
  rintro e w3 ⟨gs, cs, L, rfl, hS, hb3, hLl, hRs⟩
  have hs3 := hb3.size
  have hgs := hS.lt
  have HS3 : Hid (OwnC w3 w2.heap.size gs cs L ∧ RepOf es L) := ⟨hS, hRs⟩
  have HE3 : Hid (InEnts w3 v es) := HE2.out.below hb3 (Nat.le_refl _)
  clear hS hRs
  go_wp2_with fail
  refine (toEntryS_any v es _ HE3.out hn).mono ?_
  rintro e w4 ⟨gx, rfl, hO4, hb4⟩
  have hs4 := hb4.size
  have HO4 : Hid (OwnE w4 w3.heap.size gx es.length es) := hO4
  have hgx := hO4.lt
  clear hO4
  go_wp2_with fail
  refine (implReplay_any gx es _ _ HO4.out HE.out.2 hn).mono ?_
  rintro e w5 ⟨gi, ci, R, rfl, hI, hRi, hb5⟩
  have hs5 := hb5.size
  have hgi := hI.lt
  have hLR : L = puts R := repOf_puts HS3.out.2 hRi
  rw [← hLR] at hI ⊢
  have HI5 : Hid (OwnC w5 w4.heap.size gi ci L) := hI
  have k35 : Below w3.heap.size w3 w5 := hb4.trans (hb5.mono (by omega))
  have HS5 : Hid (OwnC w5 w2.heap.size gs cs L) := HS3.out.1.below k35 hgs.2
  have HX5 : Hid (OwnE w5 w3.heap.size gx es.length es) := HO4.out.below hb5 hgx.2
  have HE5 : Hid (InEnts w5 v es) := HE3.out.below k35 (Nat.le_refl _)
  have HR : Hid (RepOf es L) := HS3.out.2
  clear hI hRi hLR
  go_wp2_with fail
  refine (eqCellS_own HI5.out HS5.out).mono ?_
  rintro e w6 ⟨rfl, hb6⟩
  have hs6 := hb6.size
  have HE6 : Hid (InEnts w6 v es) := HE5.out.below hb6 (Nat.le_refl _)
  go_wp2_with fail
  refine (toEntryS_any v es _ HE6.out hn).mono ?_
  rintro e w7 ⟨gy, rfl, hO7, hb7⟩
  have hs7 := hb7.size
  have hgy := hO7.lt
  have HO7 : Hid (OwnE w7 w6.heap.size gy es.length es) := hO7
  clear hO7
  have HM : Hid (es.length ≤ maxLen) := Nat.le_trans hn (by decide)
  have k57 : Below w5.heap.size w5 w7 := hb6.trans (hb7.mono (by omega))
  have HX7 : Hid (OwnE w7 w3.heap.size gx es.length es) := HX5.out.below k57 (by omega)
  go_wp2_with fail
  refine (eqEntryS_any (.slice (some ⟨gx, 0, none⟩) es.length es.length) (.slice (some ⟨gy, 0, none⟩) es.length es.length) es _ (InEnts.own HX7.out (Nat.le_refl _) HM.out) (InEnts.own HO7.out (Nat.le_refl _) HM.out)).mono ?_
  rintro e w8 ⟨rfl, hb8⟩
  have hs8 := hb8.size
  have k58 : Below w5.heap.size w5 w8 := k57.trans (hb8.mono (by omega))
  have HX8 : Hid (OwnE w8 w3.heap.size gx es.length es) := HX5.out.below k58 (by omega)
  have HS8 : Hid (OwnC w8 w2.heap.size gs cs L) := HS5.out.below k58 (by omega)
  have HI8 : Hid (OwnC w8 w4.heap.size gi ci L) := HI5.out.below k58 (by omega)
  have k8 : Below w.heap.size w w8 := ((((hb1.trans (hb2.mono (by omega))).trans (hb3.mono (by omega))).trans (k35.mono (by omega))).trans (k58.mono (by omega)))
  have hRn : L.length ≤ 1048576 := by omega
  go_wp2_with fail
  refine (markEntryS_core w3.heap.size gx es.length es 1 _ HX8.out (by omega) (by omega) hn).mono ?_
  rintro e w9 ⟨fx, rfl, _, _, _, hg9⟩
  have hs9 := hg9.size
  have HS9 : Hid (OwnC w9 w2.heap.size gs cs L) := HS8.out.kept hg9 (fun q => by have := Option.some.inj q; omega)
  have HI9 : Hid (OwnC w9 w4.heap.size gi ci L) := HI8.out.kept hg9 (fun q => by have := Option.some.inj q; omega)
  have k9 : Below w.heap.size w w9 := k8.grown hg9 (by omega) (fun j hj => by cases hj; omega)
  have hk1 : (0 : Int) ≤ 1 + (es.length : Int) * 6 := by omega
  go_wp2_with fail
  refine (eqCellS_own HI9.out HS9.out).mono ?_
  rintro e w10 ⟨rfl, hb10⟩
  have hs10 := hb10.size
  have HI10 : Hid (OwnC w10 w4.heap.size gi ci L) := HI9.out.below hb10 (by omega)
  have HS10 : Hid (OwnC w10 w2.heap.size gs cs L) := HS9.out.below hb10 (by omega)
  go_wp2_with fail
  refine (markCellS_core w4.heap.size gi ci L 1 _ HI10.out (by omega) (by omega) hRn).mono ?_
  rintro e w11 ⟨fs, rfl, hU11, hl11, hm11, hg11⟩
  have hs11 := hg11.size
  have HF11 : Hid (OwnC w11 w4.heap.size gi ci fs ∧ fs.length = L.length ∧ markedC 1 fs fs.length) := ⟨hU11, hl11, by rw [hl11]; exact hm11⟩
  have HS11 : Hid (OwnC w11 w2.heap.size gs cs L) := HS10.out.kept hg11 (fun q => by have := Option.some.inj q; omega)
  have k11 : Below w.heap.size w w11 := (k9.trans (hb10.mono (by omega))).grown hg11 (by omega) (fun j hj => by cases hj; omega)
  have HRl : Hid (fs.length = L.length) := hl11
  clear hU11 hm11 hg11 hl11
  go_wp2_with fail
  rw [← HRl.out]
  refine (heldCellS_core gi 0 ci fs 1 _ HF11.out.1.at HF11.out.2.2 HF11.out.1.lt.2 (by omega) (by omega) (by rw [HRl.out]; exact hRn)).mono ?_
  rintro e w12 ⟨rfl, hb12⟩
  rw [HRl.out]
  have hs12 := hb12.size
  have HS12 : Hid (OwnC w12 w2.heap.size gs cs L) := HS11.out.below hb12 (by omega)
  have k12 : Below w.heap.size w w12 := k11.trans (hb12.mono (by omega))
  have HE12 : Hid (InEnts w12 v es) := HE.out.1.below k12 (Nat.le_refl _)
  have hk2 : (0 : Int) ≤ 1 + (L.length : Int) * 5 := by omega
  go_wp2_with fail
  refine (toEntryS_any v es _ HE12.out hn).mono ?_
  rintro e w13 ⟨gz, rfl, hO13, hb13⟩
  have hs13 := hb13.size
  have HO13 : Hid (OwnE w13 w12.heap.size gz es.length es) := hO13
  clear hO13
  go_wp2_with fail
  refine (implReplay_any gz es _ _ HO13.out HE.out.2 hn).mono ?_
  rintro e w14 ⟨gj, cj, R2, rfl, hJ, hRj, hb14⟩
  have hs14 := hb14.size
  have hLR : L = puts R2 := repOf_puts HR.out hRj
  rw [← hLR] at hJ ⊢
  have k14 : Below w12.heap.size w12 w14 := hb13.trans (hb14.mono (by omega))
  have HJ : Hid (OwnC w14 w13.heap.size gj cj L) := hJ
  have HS14 : Hid (OwnC w14 w2.heap.size gs cs L) := HS12.out.below k14 (by omega)
  clear hJ hRj hLR
  go_wp2_with fail
  refine (eqCellS_own HJ.out HS14.out).mono ?_
  rintro e w16 ⟨rfl, hb16⟩
  go_wp2_with fail
  go_ret
  exact ⟨rfl, (k12.trans (k14.mono (by omega))).trans (hb16.mono (by omega))⟩

set_option maxRecDepth 100000 in
theorem lifted (os : Os) (started : os.Started) (H : Type) (enc : TypeId × Value → H) :
    ReturnsInHanded {} Try.checked os 3 .any (Rows.fnExactReplaySpec.pre6 enc Try.prog Try.f3 Rows.fnExactReplayRow.domain false) (Rows.fnExactReplaySpec.post enc Try.prog Try.f3 false true false false) := by
  refine returnsInHanded_of_change (C := Try.checked) own started (by kernel_rfl) Try.func3
    (ChangeSpec.witness6 (enc := enc) (C := Try.checked) false ⟨#[], #[.slice none 0 0], []⟩ 8 (by kernel_rfl) (by kernel_rfl) (by kernel_rfl) (by kernel_rfl)) ?_
  intro W base args ds gs before hval0 hW hcnd _
  have hval : ∀ (j : Nat) t v, Try.f3.params[j]? = some t → args[j]? = some v → Value.okWide Try.prog W .any base t v := hval0
  have hW' := hW
  obtain ⟨p, q, hA0, hV, rfl, hfz, hnd⟩ := hW
  have hA : DataW.TrodAll enc Try.prog W 0 (fun _ => true) true Try.f3.params.toList args.toList ds p := hA0
  rw [Try.params3] at hA hval
  obtain ⟨v0, vs0, d0, ds0, p0, q0, hargs, rfl, rfl, h0, r0⟩ := trodAll_cons hA
  obtain ⟨rfl, rfl, rfl⟩ := trodAll_nil r0
  obtain rfl : args = #[v0] := by cases args; simp_all
  obtain ⟨rfl, rfl⟩ := trodVars_none hV
  have k0 := h0
  have lt0 : ∀ x ∈ p0, x.block < W.heap.size := by obtain ⟨m, hm⟩ := k0; exact DataW.trod_lt m _ _ _ hm
  obtain ⟨es, hin, ok0⟩ : ∃ es : List Ent, InEnts W v0 es ∧ ∀ e ∈ es, e.ok := by
    obtain ⟨a0, len0, cap0, rfl⟩ := okWide_slice Try.underlying22 (hval 0 22 v0 rfl rfl)
    obtain ⟨fuel, hf⟩ := h0
    exact ents_of_trod (by simpa [Value.cells] using hf)
  clear hA0 hval0
  refine (walk v0 es W hin ok0).mono fun e W' ⟨he, bel⟩ => ?_
  subst he
  exact ⟨_, rfl, _, _, _, [], _, [], hW', trodAll_mk1 (shut_bool Try.underlying4 _), (trodAll_cons_mk (Below.trod laidOut (by kernel_rfl) (of_decide_eq_true (by kernel_rfl)) k0 bel lt0) trodAll_mk0), rfl, bel.frame _, fun h => by cases h⟩

theorem over : Rows.fnExactReplayRow.holds Try.pinned (OpenSpec.ofChange Rows.fnExactReplaySpec) :=
  OpenClaim.holds_of_wide 3 Try.f3 rfl rfl rfl rfl rfl rfl rfl ⟨rfl, rfl, rfl, rfl, rfl⟩ rfl rfl rfl rfl rfl (by kernel_rfl) Try.func3 (by kernel_rfl)
    (of_decide_eq_true (by kernel_rfl)) (by unfold Func.isWrapper; first | (rw [if_pos (by decide +kernel)]; kernel_rfl) | (rw [if_neg (by decide +kernel)]; exact ⟨rfl, rfl⟩))
    (fun os started H enc _ => lifted os started H enc)

end Go.Proofs.Ytjphalbjimggcac.exReplay
namespace Go.Proofs.Ytjphalbjimggcac
theorem exactReplay_holds : Rows.FnExactReplaySaid := exReplay.over
#print axioms exactReplay_holds
end Go.Proofs.Ytjphalbjimggcac
