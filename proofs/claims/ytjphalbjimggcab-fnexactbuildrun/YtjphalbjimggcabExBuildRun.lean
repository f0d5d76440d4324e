/-
  The law FnExactBuildRun.
-/
import Derived.Test.YtjphalbjimggcabMarkR
namespace Go.Proofs.Ytjphalbjimggcab.exBuildRun
open Go.ChangeShapes Go.WideShapes Go.ChangeAt Go.RowKit Go.Deep
set_option linter.unusedVariables false

theorem own : ownKnob Try.prog.godebug = none := by kernel_rfl
theorem laidOut : laidOutB Try.prog = true := by kernel_rfl

theorem InEnts.cells {w : World} {v : Value} {es : List Ent} (h : InEnts w v es) : v.cells = #[v] := by
  rcases h with ⟨a, cap, rfl, _⟩ | ⟨b, off, cap, rfl, _⟩ <;> rfl

set_option maxHeartbeats 4000000 in
theorem walk (v : Value) (es : List Ent) (w : World) (h : InEnts w v es) (hok : ∀ e ∈ es, e.ok) :
    Calls Try.prog 4 #[v] w fun e w' => e = .returned (.bool true) ∧ Below w.heap.size w w' := by
  have HE : Hid (InEnts w v es ∧ ∀ e ∈ es, e.ok) := ⟨h, hok⟩
  clear h hok
  go_enter Try.func4, Try.ntmps4
  go_wp2_with fail
  refine (szEntryS_any v es _ _ HE.out.1 HE.out.2 (by omega) (by omega)).mono ?_
  rintro e w1 ⟨x, rfl, hx, hb1⟩
  have hs1 := hb1.size
  by_cases hx0 : x < 0
  · clear hx
    go_wp2_with fail
    go_ret
    exact ⟨rfl, hb1⟩
  have hn : es.length ≤ 1048576 := by omega
  clear hx
  have HE1 : Hid (InEnts w1 v es) := HE.out.1.below hb1 (Nat.le_refl _)
  go_wp2_with fail
  refine (toEntryS_any v es _ HE1.out hn).mono ?_
  rintro e w2 ⟨ga, rfl, hO2, hb2⟩
  have hs2 := hb2.size
  have HO2 : Hid (OwnE w2 w1.heap.size ga es.length es) := hO2
  have HE2 : Hid (InEnts w2 v es) := HE1.out.below hb2 (Nat.le_refl _)
  clear hO2
  go_wp2_with fail
  refine (specBuild_any ga es _ _ HO2.out HE.out.2 hn).mono ?_
  rintro e w3 ⟨sa, sn, sc, Rs, rfl, hUs, hRs, hRl, hb3⟩
  have hs3 := hb3.size
  obtain ⟨W3, hW3⟩ : ∃ W3 : World, W3 = w3.alloc (Obj.cells #[(.slice sa sn sc)] 29) := ⟨_, rfl⟩
  have hb3' : Below w3.heap.size w3 W3 := by rw [hW3]; exact (Below.refl _ _).alloc (Nat.le_refl _) _
  have hz3 : w3.heap.size < W3.heap.size := by rw [hW3]; simp
  have cs3 : W3.cell? ⟨w3.heap.size, 0, none⟩ = some (.slice sa sn sc) := by rw [hW3]; simp
  have HS3 : Hid (OwnU W3 w2.heap.size (.slice sa sn sc) Rs ∧ RunOf es Rs) := ⟨hUs.kept (grown_of_below hb3' none) (fun g q => by cases q), hRs⟩
  have HE3 : Hid (InEnts W3 v es) := (HE2.out.below hb3 (Nat.le_refl _)).below hb3' (Nat.le_refl _)
  clear hUs hRs
  go_wp2_with fail
  rw [← hW3]
  clear hW3
  refine (toEntryS_any v es _ HE3.out hn).mono ?_
  rintro e w4 ⟨gx, rfl, hO4, hb4⟩
  have hs4 := hb4.size
  have HO4 : Hid (OwnE w4 W3.heap.size gx es.length es) := hO4
  have hgx := hO4.lt
  clear hO4
  go_wp2_with fail
  refine (implBuild_any gx es _ _ HO4.out HE.out.2 hn).mono ?_
  rintro e w5 ⟨ia, ni, ic, Ri, rfl, hUi, hRi, hb5⟩
  have hs5 := hb5.size
  obtain rfl : Ri = Rs := runOf_uniq hRi HS3.out.2
  obtain ⟨W5, hW5⟩ : ∃ W5 : World, W5 = w5.alloc (Obj.cells #[(.slice ia ni ic)] 29) := ⟨_, rfl⟩
  have hb5' : Below w5.heap.size w5 W5 := by rw [hW5]; exact (Below.refl _ _).alloc (Nat.le_refl _) _
  have hz5 : w5.heap.size < W5.heap.size := by rw [hW5]; simp
  have ci5 : W5.cell? ⟨w5.heap.size, 0, none⟩ = some (.slice ia ni ic) := by rw [hW5]; simp
  have k35 : Below W3.heap.size W3 W5 := (hb4.trans (hb5.mono (by omega))).trans (hb5'.mono (by omega))
  have cs5 : W5.cell? ⟨w3.heap.size, 0, none⟩ = some (.slice sa sn sc) := by rw [k35.cell (p := ⟨w3.heap.size, 0, none⟩) hz3]; exact cs3
  have hlt35 : w3.heap.size < w5.heap.size := by omega
  have cs5w : w5.cell? ⟨w3.heap.size, 0, none⟩ = some (.slice sa sn sc) := by rw [(hb4.trans (hb5.mono (by omega))).cell (p := ⟨w3.heap.size, 0, none⟩) hz3]; exact cs3
  have HI5 : Hid (OwnU W5 w4.heap.size (.slice ia ni ic) Ri) := hUi.kept (grown_of_below hb5' none) (fun g q => by cases q)
  have HS5 : Hid (OwnU W5 w2.heap.size (.slice sa sn sc) Ri) := HS3.out.1.kept (grown_of_below k35 none) (fun g q => by cases q)
  have HX5 : Hid (OwnE W5 W3.heap.size gx es.length es) := (HO4.out.below hb5 hgx.2).below hb5' (by omega)
  have HE5 : Hid (InEnts W5 v es) := HE3.out.below k35 (Nat.le_refl _)
  have HR : Hid (RunOf es Ri) := HS3.out.2
  have HW : Hid (∀ g, (Value.slice ia ni ic).ownBlock = some g → w4.heap.size ≤ g ∧ g < w5.heap.size) := fun g q => hUi.row g q
  clear hUi hRi
  go_wp2_with fail
  rw [← hW5]
  clear hW5
  refine (eqRun_any (.slice ia ni ic) (.slice sa sn sc) Ri _ HI5.out.ins HS5.out.ins).mono ?_
  rintro e w6 ⟨rfl, hb6⟩
  have hs6 := hb6.size
  have HE6 : Hid (InEnts w6 v es) := HE5.out.below hb6 (Nat.le_refl _)
  go_wp2_with fail
  refine (toEntryS_any v es _ HE6.out hn).mono ?_
  rintro e w7 ⟨gy, rfl, hO7, hb7⟩
  have hs7 := hb7.size
  have hgy := hO7.lt
  have HO7 : Hid (OwnE w7 w6.heap.size gy es.length es) := hO7
  clear hO7
  have HM : Hid (es.length ≤ maxLen) := Nat.le_trans hn (by decide)
  have k57 : Below W5.heap.size W5 w7 := hb6.trans (hb7.mono (by omega))
  have HX7 : Hid (OwnE w7 W3.heap.size gx es.length es) := HX5.out.below k57 (by omega)
  go_wp2_with fail
  refine (eqEntryS_any (.slice (some ⟨gx, 0, none⟩) es.length es.length) (.slice (some ⟨gy, 0, none⟩) es.length es.length) es _ (InEnts.own HX7.out (Nat.le_refl _) HM.out) (InEnts.own HO7.out (Nat.le_refl _) HM.out)).mono ?_
  rintro e w8 ⟨rfl, hb8⟩
  have hs8 := hb8.size
  have k58 : Below W5.heap.size W5 w8 := k57.trans (hb8.mono (by omega))
  have HX8 : Hid (OwnE w8 W3.heap.size gx es.length es) := HX5.out.below k58 (by omega)
  have hlt55 : w5.heap.size < w8.heap.size := by omega
  -- where the rows lie
  have rs : ∀ g, (Value.slice sa sn sc).ownBlock = some g → g < W3.heap.size := fun g q => (HS3.out.1.row g q).2
  have ri : ∀ g, (Value.slice ia ni ic).ownBlock = some g → w4.heap.size ≤ g ∧ g < w5.heap.size := fun g q => HW.out g q
  have HRs : Hid (∀ g, (Value.slice sa sn sc).ownBlock = some g → g < W3.heap.size) := rs
  have HRi : Hid (∀ g, (Value.slice ia ni ic).ownBlock = some g → w4.heap.size ≤ g ∧ g < w5.heap.size) := ri
  clear rs ri
  have HS8 : Hid (OwnU w8 w2.heap.size (.slice sa sn sc) Ri) := HS5.out.kept (grown_of_below k58 none) (fun g q => by cases q)
  have HI8 : Hid (OwnU w8 w4.heap.size (.slice ia ni ic) Ri) := HI5.out.kept (grown_of_below k58 none) (fun g q => by cases q)
  have HE8 : Hid (InEnts w8 v es) := HE5.out.below k58 (Nat.le_refl _)
  have cs8 : w8.cell? ⟨w3.heap.size, 0, none⟩ = some (.slice sa sn sc) := by rw [k58.cell (p := ⟨w3.heap.size, 0, none⟩) (by show w3.heap.size < _; omega)]; exact cs5
  have ci8 : w8.cell? ⟨w5.heap.size, 0, none⟩ = some (.slice ia ni ic) := by rw [k58.cell (p := ⟨w5.heap.size, 0, none⟩) hz5]; exact ci5
  have k8 : Below w.heap.size w w8 := (((((hb1.trans (hb2.mono (by omega))).trans (hb3.mono (by omega))).trans (hb3'.mono (by omega))).trans (k35.mono (by omega))).trans (k58.mono (by omega)))
  have hRn : Ri.length ≤ 1048576 := by omega
  go_wp2_with fail
  refine (markEntryS_core W3.heap.size gx es.length es 1 _ HX8.out (by omega) (by omega) hn).mono ?_
  rintro e w9 ⟨fx, rfl, _, _, _, hg9⟩
  have hs9 := hg9.size
  have HS9 : Hid (OwnU w9 w2.heap.size (.slice sa sn sc) Ri) := HS8.out.keptNe hg9 (fun g q q2 => by have := HRs.out g q; have := Option.some.inj q2; omega)
  have HI9 : Hid (OwnU w9 w4.heap.size (.slice ia ni ic) Ri) := HI8.out.keptNe hg9 (fun g q q2 => by have := HRi.out g q; have := Option.some.inj q2; omega)
  have cs9 : w9.cell? ⟨w3.heap.size, 0, none⟩ = some (.slice sa sn sc) := hg9.cell cs8 (fun q => by have q' : w3.heap.size = gx := Option.some.inj q; omega)
  have ci9 : w9.cell? ⟨w5.heap.size, 0, none⟩ = some (.slice ia ni ic) := hg9.cell ci8 (fun q => by have q' : w5.heap.size = gx := Option.some.inj q; omega)
  have k9 : Below w.heap.size w w9 := k8.grown hg9 (by omega) (fun j hj => by cases hj; omega)
  have HE9 : Hid (InEnts w9 v es) := HE.out.1.below k9 (Nat.le_refl _)
  have hk1 : (0 : Int) ≤ 1 + (es.length : Int) * 6 := by omega
  go_wp2_with fail
  refine (eqRun_any (.slice ia ni ic) (.slice sa sn sc) Ri _ HI9.out.ins HS9.out.ins).mono ?_
  rintro e w10 ⟨rfl, hb10⟩
  have hs10 := hb10.size
  have HI10 : Hid (OwnU w10 w4.heap.size (.slice ia ni ic) Ri) := HI9.out.kept (grown_of_below hb10 none) (fun g q => by cases q)
  have HS10 : Hid (OwnU w10 w2.heap.size (.slice sa sn sc) Ri) := HS9.out.kept (grown_of_below hb10 none) (fun g q => by cases q)
  have cs10 : w10.cell? ⟨w3.heap.size, 0, none⟩ = some (.slice sa sn sc) := by rw [hb10.cell (p := ⟨w3.heap.size, 0, none⟩) (by show w3.heap.size < _; omega)]; exact cs9
  have ci10 : w10.cell? ⟨w5.heap.size, 0, none⟩ = some (.slice ia ni ic) := by rw [hb10.cell (p := ⟨w5.heap.size, 0, none⟩) (by show w5.heap.size < _; omega)]; exact ci9
  go_wp2_with fail
  refine (markRun_own w4.heap.size (.slice ia ni ic) Ri 1 _ HI10.out (by omega) (by omega) hRn (by omega)).mono ?_
  rintro e w11 ⟨R', rfl, hU11, hl11, hm11, hg11⟩
  have hs11 := hg11.size
  have HF11 : Hid (OwnU w11 w4.heap.size (.slice ia ni ic) R' ∧ R'.length = Ri.length ∧ marked 1 R' R'.length) := ⟨hU11, hl11, hm11⟩
  have HS11 : Hid (OwnU w11 w2.heap.size (.slice sa sn sc) Ri) := HS10.out.keptNe hg11 (fun g q q2 => by have := HRs.out g q; have := (HRi.out g q2).1; omega)
  have cs11 : w11.cell? ⟨w3.heap.size, 0, none⟩ = some (.slice sa sn sc) := hg11.cell cs10 (fun q => by have := (HRi.out w3.heap.size q.symm).1; omega)
  have ci11 : w11.cell? ⟨w5.heap.size, 0, none⟩ = some (.slice ia ni ic) := hg11.cell ci10 (fun q => by have := (HRi.out w5.heap.size q.symm).2; omega)
  have k11 : Below w.heap.size w w11 := (k9.trans (hb10.mono (by omega))).grown hg11 (by omega) (fun j hj => by have := (HRi.out j hj).1; omega)
  have HRl : Hid (R'.length = Ri.length) := hl11
  have hRn' : R'.length ≤ 1048576 := by omega
  clear hU11 hl11 hm11 hg11
  go_wp2_with fail
  refine (heldRun_own w4.heap.size (.slice ia ni ic) R' 1 _ HF11.out.1 HF11.out.2.2 (by omega) (by omega) hRn').mono ?_
  rintro e w12 ⟨rfl, hb12⟩
  rw [HRl.out]
  have hs12 := hb12.size
  have HS12 : Hid (OwnU w12 w2.heap.size (.slice sa sn sc) Ri) := HS11.out.kept (grown_of_below hb12 none) (fun g q => by cases q)
  have cs12 : w12.cell? ⟨w3.heap.size, 0, none⟩ = some (.slice sa sn sc) := by rw [hb12.cell (p := ⟨w3.heap.size, 0, none⟩) (by show w3.heap.size < _; omega)]; exact cs11
  have k12 : Below w.heap.size w w12 := k11.trans (hb12.mono (by omega))
  have HE12 : Hid (InEnts w12 v es) := HE.out.1.below k12 (Nat.le_refl _)
  have hk2 : (0 : Int) ≤ 1 + (Ri.length : Int) * 6 := by omega
  go_wp2_with fail
  refine (toEntryS_any v es _ HE12.out hn).mono ?_
  rintro e w13 ⟨gz, rfl, hO13, hb13⟩
  have hs13 := hb13.size
  have HO13 : Hid (OwnE w13 w12.heap.size gz es.length es) := hO13
  clear hO13
  go_wp2_with fail
  refine (implBuild_any gz es _ _ HO13.out HE.out.2 hn).mono ?_
  rintro e w14 ⟨ja, nj, jc, Rj, rfl, hUj, hRj, hb14⟩
  have hs14 := hb14.size
  obtain rfl : Rj = Ri := runOf_uniq hRj HR.out
  have k14 : Below w12.heap.size w12 w14 := hb13.trans (hb14.mono (by omega))
  have cs14 : w14.cell? ⟨w3.heap.size, 0, none⟩ = some (.slice sa sn sc) := by rw [k14.cell (p := ⟨w3.heap.size, 0, none⟩) (by show w3.heap.size < _; omega)]; exact cs12
  have hlt314 : w3.heap.size < w14.heap.size := by omega
  have hb15 : Below w14.heap.size w14 (w14.alloc (Obj.cells #[.slice ja nj jc] 29)) := (Below.refl _ _).alloc (Nat.le_refl _) _
  have HJ : Hid (OwnU (w14.alloc (Obj.cells #[.slice ja nj jc] 29)) w13.heap.size (.slice ja nj jc) Rj) := hUj.kept (grown_of_below hb15 none) (fun g q => by cases q)
  have HS15 : Hid (OwnU (w14.alloc (Obj.cells #[.slice ja nj jc] 29)) w2.heap.size (.slice sa sn sc) Rj) := (HS12.out.kept (grown_of_below k14 none) (fun g q => by cases q)).kept (grown_of_below hb15 none) (fun g q => by cases q)
  clear hUj hRj
  go_wp2_with fail
  refine (eqRun_any (.slice ja nj jc) (.slice sa sn sc) Rj _ HJ.out.ins HS15.out.ins).mono ?_
  rintro e w16 ⟨rfl, hb16⟩
  go_wp2_with fail
  go_ret
  exact ⟨rfl, ((k12.trans (k14.mono (by omega))).trans (hb15.mono (by omega))).trans (hb16.mono (by simp; omega))⟩

set_option maxRecDepth 100000 in
theorem lifted (os : Os) (started : os.Started) (H : Type) (enc : TypeId × Value → H) :
    ReturnsInHanded {} Try.checked os 4 .any (Rows.fnExactBuildRunSpec.pre6 enc Try.prog Try.f4 Rows.fnExactBuildRunRow.domain false) (Rows.fnExactBuildRunSpec.post enc Try.prog Try.f4 false true false false) := by
  refine returnsInHanded_of_change (C := Try.checked) own started (by kernel_rfl) Try.func4
    (ChangeSpec.witness6 (enc := enc) (C := Try.checked) false ⟨#[], #[.slice none 0 0], []⟩ 8 (by kernel_rfl) (by kernel_rfl) (by kernel_rfl) (by kernel_rfl)) ?_
  intro W base args ds gs before hval0 hW hcnd _
  have hval : ∀ (j : Nat) t v, Try.f4.params[j]? = some t → args[j]? = some v → Value.okWide Try.prog W .any base t v := hval0
  have hW' := hW
  obtain ⟨p, q, hA0, hV, rfl, hfz, hnd⟩ := hW
  have hA : DataW.TrodAll enc Try.prog W 0 (fun _ => true) true Try.f4.params.toList args.toList ds p := hA0
  rw [Try.params4] at hA hval
  obtain ⟨v0, vs0, d0, ds0, p0, q0, hargs, rfl, rfl, h0, r0⟩ := trodAll_cons hA
  obtain ⟨rfl, rfl, rfl⟩ := trodAll_nil r0
  obtain rfl : args = #[v0] := by cases args; simp_all
  obtain ⟨rfl, rfl⟩ := trodVars_none hV
  have k0 := h0
  have lt0 : ∀ x ∈ p0, x.block < W.heap.size := by obtain ⟨m, hm⟩ := k0; exact DataW.trod_lt m _ _ _ hm
  obtain ⟨es, hin, ok0⟩ : ∃ es : List Ent, InEnts W v0 es ∧ ∀ e ∈ es, e.ok := by
    obtain ⟨a0, len0, cap0, rfl⟩ := okWide_slice Try.underlying22 (hval 0 22 v0 rfl rfl)
    obtain ⟨fuel, hf⟩ := h0
    exact ents_of_trod (by simpa [Value.cells] using hf)
  clear hA0 hval0
  refine (walk v0 es W hin ok0).mono fun e W' ⟨he, bel⟩ => ?_
  subst he
  exact ⟨_, rfl, _, _, _, [], _, [], hW', trodAll_mk1 (shut_bool Try.underlying4 _), (trodAll_cons_mk (Below.trod laidOut (by kernel_rfl) (of_decide_eq_true (by kernel_rfl)) k0 bel lt0) trodAll_mk0), rfl, bel.frame _, fun h => by cases h⟩

theorem over : Rows.fnExactBuildRunRow.holds Try.pinned (OpenSpec.ofChange Rows.fnExactBuildRunSpec) :=
  OpenClaim.holds_of_wide 4 Try.f4 rfl rfl rfl rfl rfl rfl rfl ⟨rfl, rfl, rfl, rfl, rfl⟩ rfl rfl rfl rfl rfl (by kernel_rfl) Try.func4 (by kernel_rfl)
    (of_decide_eq_true (by kernel_rfl)) (by unfold Func.isWrapper; first | (rw [if_pos (by decide +kernel)]; kernel_rfl) | (rw [if_neg (by decide +kernel)]; exact ⟨rfl, rfl⟩))
    (fun os started H enc _ => lifted os started H enc)

end Go.Proofs.Ytjphalbjimggcab.exBuildRun
namespace Go.Proofs.Ytjphalbjimggcab
theorem exactBuildRun_holds : Rows.FnExactBuildRunSaid := exBuildRun.over
#print axioms exactBuildRun_holds
end Go.Proofs.Ytjphalbjimggcab
