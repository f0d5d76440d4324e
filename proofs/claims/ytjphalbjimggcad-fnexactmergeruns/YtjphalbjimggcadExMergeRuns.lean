/-
  The law FnExactMergeRuns.
-/
import Derived.Test.YtjphalbjimggcadMrgO
namespace Go.Proofs.Ytjphalbjimggcad.exMergeRuns
open Go.ChangeShapes Go.WideShapes Go.ChangeAt Go.RowKit Go.Deep
set_option linter.unusedVariables false
set_option linter.unusedSimpArgs false
set_option maxRecDepth 100000

theorem own : ownKnob Try.prog.godebug = none := by kernel_rfl
theorem laidOut : laidOutB Try.prog = true := by kernel_rfl

set_option maxHeartbeats 8000000 in
theorem walk (v : Value) (rs : List Rn) (lo hi : ByteArray) (hh : Bool) (w : World) (h : InRuns w v rs) (hok : okR rs) (hlo : lo.size ≤ maxLen) (hhi : hi.size ≤ maxLen) :
    Calls Try.prog 3 #[v, .agg #[.string lo, .bool hh, .string hi]] w fun e w' => e = .returned (.bool true) ∧ Below w.heap.size w w' := by
  obtain ⟨W0, hW0⟩ : ∃ W0 : World, W0 = w.alloc (Obj.cells #[.string lo, .bool hh, .string hi] 24) := ⟨_, rfl⟩
  have hb0 : Below w.heap.size w W0 := by rw [hW0]; exact (Below.refl _ _).alloc (Nat.le_refl _) _
  have hz0 : W0.heap.size = w.heap.size + 1 := by rw [hW0]; simp
  have HC0 : Hid (W0.cell? ⟨w.heap.size, 0, none⟩ = some (.string lo) ∧ W0.cell? ⟨w.heap.size, 1, none⟩ = some (.bool hh) ∧ W0.cell? ⟨w.heap.size, 2, none⟩ = some (.string hi)) := by
    refine ⟨?_, ?_, ?_⟩ <;> (rw [hW0]; simp)
  have HRg : Hid (∀ wx, Below W0.heap.size W0 wx → wx.cell? ⟨w.heap.size, 0, none⟩ = some (.string lo) ∧ wx.cell? ⟨w.heap.size, 1, none⟩ = some (.bool hh) ∧ wx.cell? ⟨w.heap.size, 2, none⟩ = some (.string hi)) := by
    intro wx hx
    refine ⟨?_, ?_, ?_⟩
    · rw [hx.cell (p := ⟨w.heap.size, 0, none⟩) (by show w.heap.size < W0.heap.size; omega)]; exact HC0.out.1
    · rw [hx.cell (p := ⟨w.heap.size, 1, none⟩) (by show w.heap.size < W0.heap.size; omega)]; exact HC0.out.2.1
    · rw [hx.cell (p := ⟨w.heap.size, 2, none⟩) (by show w.heap.size < W0.heap.size; omega)]; exact HC0.out.2.2
  have HE0 : Hid (InRuns W0 v rs) := h.below hb0
  have HO : Hid (okR rs) := hok
  clear h hok HC0
  go_enter Try.func3, Try.ntmps3
  go_wp2_with fail
  rw [← hW0]
  clear hW0
  refine (szRunS_any v rs _ _ HE0.out HO.out (by omega) (by omega)).mono ?_
  rintro e w1 ⟨x, rfl, hx, hb1⟩
  have hs1 := hb1.size
  by_cases hx0 : x < 0
  · clear hx
    go_wp2_with fail
    go_ret
    exact ⟨rfl, hb0.trans (hb1.mono (by omega))⟩
  have hn : rs.length + tot rs ≤ 1048576 := by omega
  have hx1 : x ≤ 1048576 := by omega
  have hx2 : 0 ≤ x := by omega
  clear hx
  obtain ⟨q0, q1, q2⟩ := HRg.out w1 hb1
  go_wp2_with fail
  refine (szRange_core lo hi hh _ _ hlo hhi (by omega) (by omega)).mono ?_
  rintro e w2 ⟨y, rfl, hy, hb2⟩
  have hs2 := hb2.size
  have k2 : Below W0.heap.size W0 w2 := hb1.trans (hb2.mono (by omega))
  by_cases hy0 : y < 0
  · clear hy
    go_wp2_with fail
    go_ret
    exact ⟨rfl, hb0.trans (k2.mono (by omega))⟩
  have hy1 : 0 ≤ y := by omega
  clear hy q0 q1 q2
  have HE2 : Hid (InRuns w2 v rs) := HE0.out.below k2
  obtain ⟨q0, q1, q2⟩ := HRg.out w2 k2
  go_upto_region 8 with fail
  go_region_held3 (fun w' => w'.cell? ⟨w.heap.size, 0, none⟩ = some (.string lo) ∧ w'.cell? ⟨w.heap.size, 1, none⟩ = some (.bool hh) ∧ w'.cell? ⟨w.heap.size, 2, none⟩ = some (.string hi)) (go_keep)
    ((first
      | (go_at_call 9; refine (toRuns_own v rs _ (HE2.out.below ((Below.refl _ _).drew)) hn).mono ?_; rintro e' w3 ⟨ga, la, rfl, hoA, hmA, hnA, hb3⟩; have k3 : Below w2.heap.size w2 w3 := ((Below.refl w2.heap.size w2).drew).trans hb3; obtain ⟨y0, y1, y2⟩ := HRg.out w3 (k2.trans (k3.mono k2.size)); have HA3 : Hid (OwnRuns w3 w2.heap.size ga la ∧ la.map Prod.snd = esOf rs ∧ la.length + totL la ≤ 1048576) := ⟨hoA, hmA, hnA⟩; clear hoA hmA hnA hb3)
      | (go_at_call 10; refine (toRange_core lo hi hh _).mono ?_; rintro e' w4 ⟨rfl, hb4⟩; have k4 : Below w2.heap.size w2 w4 := k3.trans (hb4.mono k3.size); have HA4 : Hid (OwnRuns w4 w2.heap.size ga la) := HA3.out.1.below hb4; clear y0 y1 y2; obtain ⟨y0, y1, y2⟩ := HRg.out w4 (k2.trans (k4.mono k2.size)); clear hb4)
      | (go_at_call 8; refine (specMerge_own w2.heap.size ga la lo hi hh _ HA4.out (okL_of HA3.out.2.1 HO.out) (by have := HA3.out.2.2; omega)).mono ?_; rintro e' w5 ⟨gs, cs, L, rfl, hS5, hb5, hLl, hRs⟩; have k5 : Below w2.heap.size w2 w5 := k4.trans (hb5.mono k4.size); have HS5 : Hid (OwnC w5 w2.heap.size gs cs L ∧ MrgOf (esOf rs) (inR lo hh hi) L) := ⟨hS5.mono k4.size, by { rw [← HA3.out.2.1]; exact hRs }⟩; clear y0 y1 y2; obtain ⟨y0, y1, y2⟩ := HRg.out w5 (k2.trans (k5.mono k2.size)); clear hS5 hb5 hRs)))
  clear q0 q1 q2 y0 y1 y2
  have s5 := k5.size
  have hgs := HS5.out.1.lt
  have kk5 : Below W0.heap.size W0 w5 := k2.trans (k5.mono k2.size)
  have HE5 : Hid (InRuns w5 v rs) := HE2.out.below k5
  go_wp2_with fail
  refine (toRuns_own v rs _ HE5.out hn).mono ?_
  rintro e w6 ⟨gx, lx, rfl, hoX, hmX, hnX, hb6⟩
  have s6 := hb6.size
  have HX6 : Hid (OwnRuns w6 w5.heap.size gx lx ∧ lx.map Prod.snd = esOf rs ∧ lx.length + totL lx ≤ 1048576) := ⟨hoX, hmX, hnX⟩
  have kk6 : Below W0.heap.size W0 w6 := kk5.trans (hb6.mono (by have := kk5.size; omega))
  clear hoX hmX hnX
  obtain ⟨q0, q1, q2⟩ := HRg.out w6 kk6
  go_wp2_with fail
  refine (toRange_core lo hi hh _).mono ?_
  rintro e w7 ⟨rfl, hb7⟩
  have s7 := hb7.size
  have HX7 : Hid (OwnRuns w7 w5.heap.size gx lx) := HX6.out.1.below hb7
  have kk7 : Below W0.heap.size W0 w7 := kk6.trans (hb7.mono (by have := kk6.size; omega))
  clear q0 q1 q2
  go_wp2_with fail
  refine (implMerge_own w5.heap.size gx lx lo hi hh _ HX7.out (okL_of HX6.out.2.1 HO.out) (by have := HX6.out.2.2; omega)).mono ?_
  rintro e w8 ⟨gi, ci, L', rfl, hI8, hb8, hRi⟩
  have s8 := hb8.size
  have hLL : L' = L := mrgOf_uniq (by rw [HX6.out.2.1] at hRi; exact hRi) HS5.out.2
  subst hLL
  have hgi := hI8.lt
  have HI8 : Hid (OwnC w8 w7.heap.size gi ci L') := hI8
  have k58 : Below w5.heap.size w5 w8 := (hb6.trans (hb7.mono s6)).trans (hb8.mono (by omega))
  have HS8 : Hid (OwnC w8 w2.heap.size gs cs L') := HS5.out.1.below k58 hgs.2
  have HX8 : Hid (OwnRuns w8 w5.heap.size gx lx) := HX7.out.below hb8
  have kk8 : Below W0.heap.size W0 w8 := kk7.trans (hb8.mono (by have := kk7.size; omega))
  clear hI8 hRi
  go_wp2_with fail
  refine (eqCellS_own HI8.out HS8.out).mono ?_
  rintro e w9 ⟨rfl, hb9⟩
  have s9 := hb9.size
  have kk9 : Below W0.heap.size W0 w9 := kk8.trans (hb9.mono (by have := kk8.size; omega))
  have HE9 : Hid (InRuns w9 v rs) := HE0.out.below kk9
  go_wp2_with fail
  refine (toRuns_own v rs _ HE9.out hn).mono ?_
  rintro e w10 ⟨gy, ly, rfl, hoY, hmY, hnY, hb10⟩
  have s10 := hb10.size
  have HY10 : Hid (OwnRuns w10 w9.heap.size gy ly ∧ ly.map Prod.snd = esOf rs) := ⟨hoY, hmY⟩
  have k810 : Below w8.heap.size w8 w10 := hb9.trans (hb10.mono s9)
  have HX10 : Hid (OwnRuns w10 w5.heap.size gx lx) := HX8.out.below k810
  clear hoY hmY hnY
  go_wp2_with fail
  refine (eqRunS_own w5.heap.size gx w9.heap.size gy lx ly _ HX10.out HY10.out.1 (by rw [HX6.out.2.1, HY10.out.2]) (by have := HX6.out.2.2; omega)).mono ?_
  rintro e w11 ⟨rfl, hb11⟩
  have s11 := hb11.size
  have k811 : Below w8.heap.size w8 w11 := k810.trans (hb11.mono (by omega))
  have HX11 : Hid (OwnRuns w11 w5.heap.size gx lx) := HX8.out.below k811
  have HI11 : Hid (OwnC w11 w7.heap.size gi ci L') := HI8.out.below k811 hgi.2
  have HS11 : Hid (OwnC w11 w2.heap.size gs cs L') := HS8.out.below k811 (by omega)
  have kk11 : Below W0.heap.size W0 w11 := kk8.trans (k811.mono (by have := kk8.size; omega))
  go_wp2_with fail
  refine (markRunS_core w5.heap.size gx lx _ HX11.out HX6.out.2.2).mono ?_
  rintro e w12 ⟨a, rfl, ha, hC12⟩
  have s12 := hC12.size
  have hrow : ∀ k, RowsOf lx k → w5.heap.size ≤ k ∧ k < w7.heap.size := by
    rintro k ⟨p, hp, rfl⟩
    exact ⟨(HX11.out.rows.2 p hp).lt.1, (HX7.out.rows.2 p hp).lt.2⟩
  have HI12 : Hid (OwnC w12 w7.heap.size gi ci L') := HI11.out.chg hC12 (fun q => by have := hrow gi q; omega)
  have HS12 : Hid (OwnC w12 w2.heap.size gs cs L') := HS11.out.chg hC12 (fun q => by have := hrow gs q; omega)
  have kk12 : Below W0.heap.size W0 w12 := Chg.below kk11 hC12 kk11.size (fun k q => by have := hrow k q; have := kk5.size; omega)
  clear hC12 hrow
  go_wp2_with fail
  refine (eqCellS_own HI12.out HS12.out).mono ?_
  rintro e w13 ⟨rfl, hb13⟩
  have s13 := hb13.size
  have HI13 : Hid (OwnC w13 w7.heap.size gi ci L') := HI12.out.below hb13 HI12.out.lt.2
  have HS13 : Hid (OwnC w13 w2.heap.size gs cs L') := HS12.out.below hb13 HS12.out.lt.2
  have kk13 : Below W0.heap.size W0 w13 := kk12.trans (hb13.mono kk12.size)
  go_wp2_with fail
  refine (markCellS_core w7.heap.size gi ci L' 1 _ HI13.out (by omega) (by omega) (by omega)).mono ?_
  rintro e w14 ⟨fs, rfl, hU, hl14, hm14, hg14⟩
  have s14 := hg14.size
  have HF14 : Hid (OwnC w14 w7.heap.size gi ci fs ∧ fs.length = L'.length ∧ markedC 1 fs fs.length) := ⟨hU, hl14, by rw [hl14]; exact hm14⟩
  have HS14 : Hid (OwnC w14 w2.heap.size gs cs L') := HS13.out.kept hg14 (fun q => by have := Option.some.inj q; omega)
  have kk14 : Below W0.heap.size W0 w14 := kk13.grown hg14 kk13.size (fun j hj => by cases hj; have := kk7.size; omega)
  have HRl : Hid (fs.length = L'.length) := hl14
  clear hU hl14 hm14 hg14
  go_wp2_with fail
  rw [← HRl.out]
  refine (heldCellS_core gi 0 ci fs 1 _ HF14.out.1.at HF14.out.2.2 HF14.out.1.lt.2 (by omega) (by omega) (by rw [HRl.out]; omega)).mono ?_
  rintro e w15 ⟨rfl, hb15⟩
  rw [HRl.out]
  have s15 := hb15.size
  have HS15 : Hid (OwnC w15 w2.heap.size gs cs L') := HS14.out.below hb15 HS14.out.lt.2
  have kk15 : Below W0.heap.size W0 w15 := kk14.trans (hb15.mono kk14.size)
  have HE15 : Hid (InRuns w15 v rs) := HE0.out.below kk15
  have hk2 : (0 : Int) ≤ 1 + (L'.length : Int) * 5 := by omega
  obtain ⟨q0, q1, q2⟩ := HRg.out w15 kk15
  go_upto_region 27 with fail
  go_region_held3 (fun w' => w'.cell? ⟨w.heap.size, 0, none⟩ = some (.string lo) ∧ w'.cell? ⟨w.heap.size, 1, none⟩ = some (.bool hh) ∧ w'.cell? ⟨w.heap.size, 2, none⟩ = some (.string hi)) (go_keep)
    ((first
      | (go_at_call 9; refine (toRuns_own v rs _ (HE15.out.below ((Below.refl _ _).drew)) hn).mono ?_; rintro e' w16 ⟨gz, lz, rfl, hoZ, hmZ, hnZ, hb16⟩; have k16 : Below w15.heap.size w15 w16 := ((Below.refl w15.heap.size w15).drew).trans hb16; obtain ⟨y0, y1, y2⟩ := HRg.out w16 (kk15.trans (k16.mono kk15.size)); have HZ16 : Hid (OwnRuns w16 w15.heap.size gz lz ∧ lz.map Prod.snd = esOf rs ∧ lz.length + totL lz ≤ 1048576) := ⟨hoZ, hmZ, hnZ⟩; clear hoZ hmZ hnZ hb16)
      | (go_at_call 10; refine (toRange_core lo hi hh _).mono ?_; rintro e' w17 ⟨rfl, hb17⟩; have k17 : Below w15.heap.size w15 w17 := k16.trans (hb17.mono k16.size); have HZ17 : Hid (OwnRuns w17 w15.heap.size gz lz) := HZ16.out.1.below hb17; clear y0 y1 y2; obtain ⟨y0, y1, y2⟩ := HRg.out w17 (kk15.trans (k17.mono kk15.size)); clear hb17)
      | (go_at_call 11; refine (implMerge_own w15.heap.size gz lz lo hi hh _ HZ17.out (okL_of HZ16.out.2.1 HO.out) (by have := HZ16.out.2.2; omega)).mono ?_; rintro e' w18 ⟨gj, cj, M, rfl, hJ18, hb18, hRj⟩; have k18 : Below w15.heap.size w15 w18 := k17.trans (hb18.mono k17.size); have HJ18 : Hid (OwnC w18 w15.heap.size gj cj M ∧ MrgOf (esOf rs) (inR lo hh hi) M) := ⟨hJ18.mono k17.size, by { rw [← HZ16.out.2.1]; exact hRj }⟩; clear y0 y1 y2; obtain ⟨y0, y1, y2⟩ := HRg.out w18 (kk15.trans (k18.mono kk15.size)); clear hJ18 hb18 hRj)))
  clear q0 q1 q2 y0 y1 y2
  have hML : M = L' := mrgOf_uniq HJ18.out.2 HS5.out.2
  subst hML
  have HS18 : Hid (OwnC w18 w2.heap.size gs cs M) := HS15.out.below k18 HS15.out.lt.2
  have kk18 : Below W0.heap.size W0 w18 := kk15.trans (k18.mono kk15.size)
  go_wp2_with fail
  refine (eqCellS_own HJ18.out.1 HS18.out).mono ?_
  rintro e w19 ⟨rfl, hb19⟩
  have kk19 : Below W0.heap.size W0 w19 := kk18.trans (hb19.mono kk18.size)
  go_wp2_with fail
  go_ret
  exact ⟨rfl, hb0.trans (kk19.mono (by omega))⟩

theorem lifted (os : Os) (started : os.Started) (H : Type) (enc : TypeId × Value → H) :
    ReturnsInHanded {} Try.checked os 3 .any (Rows.fnExactMergeRunsSpec.pre6 enc Try.prog Try.f3 Rows.fnExactMergeRunsRow.domain false) (Rows.fnExactMergeRunsSpec.post enc Try.prog Try.f3 false true false false) := by
  refine returnsInHanded_of_change (C := Try.checked) own started (by kernel_rfl) Try.func3
    (ChangeSpec.witness6 (enc := enc) (C := Try.checked) false ⟨#[], #[.slice none 0 0, .agg #[.string ⟨#[]⟩, .bool false, .string ⟨#[]⟩]], []⟩ 8 (by kernel_rfl) (by kernel_rfl) (by kernel_rfl) (by kernel_rfl)) ?_
  intro W base args ds gs before hval0 hW hcnd _
  have hval : ∀ (j : Nat) t v, Try.f3.params[j]? = some t → args[j]? = some v → Value.okWide Try.prog W .any base t v := hval0
  have hW' := hW
  obtain ⟨p, q, hA0, hV, rfl, hfz, hnd⟩ := hW
  have hA : DataW.TrodAll enc Try.prog W 0 (fun _ => true) true Try.f3.params.toList args.toList ds p := hA0
  rw [Try.params3] at hA hval
  obtain ⟨v0, vs0, d0, ds0, p0, q0, hargs, rfl, rfl, h0, r0⟩ := trodAll_cons hA
  obtain ⟨v1, vs1, d1, ds1, p1, q1, rfl, rfl, rfl, h1, r1⟩ := trodAll_cons r0
  obtain ⟨rfl, rfl, rfl⟩ := trodAll_nil r1
  obtain rfl : args = #[v0, v1] := by cases args; simp_all
  obtain ⟨rfl, rfl⟩ := trodVars_none hV
  have k0 := h0
  have lt0 : ∀ x ∈ p0, x.block < W.heap.size := by obtain ⟨m, hm⟩ := k0; exact DataW.trod_lt m _ _ _ hm
  obtain ⟨rs, hin, ok0⟩ : ∃ rs : List Rn, InRuns W v0 rs ∧ okR rs := by
    obtain ⟨a0, len0, cap0, rfl⟩ := okWide_slice Try.underlying22 (hval 0 22 v0 rfl rfl)
    obtain ⟨fuel, hf⟩ := h0
    exact runs_of_trod (by simpa [Value.cells] using hf)
  have k1 := h1
  have lt1 : ∀ x ∈ p1, x.block < W.heap.size := by obtain ⟨m, hm⟩ := k1; exact DataW.trod_lt m _ _ _ hm
  obtain ⟨lo, hi, hh, ol, oh, rfl⟩ := open_rng (hval 1 24 v1 rfl rfl) h1
  clear hA0 hval0
  refine (walk v0 rs lo hi hh W hin ok0 ol oh).mono fun e W' ⟨he, bel⟩ => ?_
  subst he
  exact ⟨_, rfl, _, _, _, [], _, [], hW', trodAll_mk1 (shut_bool Try.underlying4 _), (trodAll_cons_mk (Below.trod laidOut (by kernel_rfl) (of_decide_eq_true (by kernel_rfl)) k0 bel lt0) (trodAll_cons_mk (Below.trod laidOut (by kernel_rfl) (of_decide_eq_true (by kernel_rfl)) k1 bel lt1) trodAll_mk0)), rfl, bel.frame _, fun h => by cases h⟩

theorem over : Rows.fnExactMergeRunsRow.holds Try.pinned (OpenSpec.ofChange Rows.fnExactMergeRunsSpec) :=
  OpenClaim.holds_of_wide 3 Try.f3 rfl rfl rfl rfl rfl rfl rfl ⟨rfl, rfl, rfl, rfl, rfl⟩ rfl rfl rfl rfl rfl (by kernel_rfl) Try.func3 (by kernel_rfl)
    (of_decide_eq_true (by kernel_rfl)) (by unfold Func.isWrapper; first | (rw [if_pos (by decide +kernel)]; kernel_rfl) | (rw [if_neg (by decide +kernel)]; exact ⟨rfl, rfl⟩))
    (fun os started H enc _ => lifted os started H enc)

end Go.Proofs.Ytjphalbjimggcad.exMergeRuns
namespace Go.Proofs.Ytjphalbjimggcad
theorem exactMergeRuns_holds : Rows.FnExactMergeRunsSaid := exMergeRuns.over
#print axioms exactMergeRuns_holds
end Go.Proofs.Ytjphalbjimggcad
