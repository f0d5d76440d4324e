/-
  The law FnExactCompactRuns.
-/
import Derived.Test.YtnncedndlhfdkacPkAG
namespace Go.Proofs.Ytnncedndlhfdkac.exCompactRuns
open Go.ChangeShapes Go.WideShapes Go.ChangeAt Go.RowKit Go.Deep
set_option linter.unusedVariables false
set_option linter.unusedSimpArgs false
set_option maxRecDepth 100000

theorem own : ownKnob Try.prog.godebug = none := by kernel_rfl
theorem laidOut : laidOutB Try.prog = true := by kernel_rfl
theorem OwnU.below {w w' : World} {base : Nat} {u : Value} {R : List Ent} (h : OwnU w base u R) (hb : Below w.heap.size w w') : OwnU w' base u R := h.kept (grown_of_below hb none) (fun g q => by cases q)
theorem OwnU.chg {T : Nat → Prop} {w w' : World} {base : Nat} {u : Value} {R : List Ent} (h : OwnU w base u R) (hb : Chg T w w') (hn : ∀ k, u.ownBlock = some k → ¬ T k) : OwnU w' base u R := by
  rcases h with h | ⟨g, cp, rfl, hO⟩
  · exact .inl h
  · exact .inr ⟨g, cp, rfl, own_chg hO hb hn⟩
theorem OwnU.mono {w : World} {base base' : Nat} {u : Value} {R : List Ent} (h : OwnU w base u R) (hb : base' ≤ base) : OwnU w base' u R := by
  rcases h with h | ⟨g, cp, rfl, hO⟩
  · exact .inl h
  · exact .inr ⟨g, cp, rfl, OwnE.mono hO hb⟩

set_option maxHeartbeats 8000000 in
theorem walk (v : Value) (rs : List Rn) (w : World) (h : InRuns w v rs) (hok : okR rs) :
    Calls Try.prog 4 #[v] w fun e w' => e = .returned (.bool true) ∧ Below w.heap.size w w' := by
  have HE0 : Hid (InRuns w v rs) := h
  have HO : Hid (okR rs) := hok
  clear h hok
  go_enter Try.func4, Try.ntmps4
  go_wp2_with fail
  refine (szRunS_any v rs _ _ HE0.out HO.out (by omega) (by omega)).mono ?_
  rintro e w1 ⟨x, rfl, hx, hb1⟩
  have s1 := hb1.size
  by_cases hx0 : x < 0
  · clear hx
    go_wp2_with fail
    go_ret
    exact ⟨rfl, hb1⟩
  have hn : rs.length + tot rs ≤ 1048576 := by omega
  have hx2 : 0 ≤ x := by omega
  clear hx
  have HE1 : Hid (InRuns w1 v rs) := HE0.out.below hb1
  go_wp2_with fail
  refine (toRuns_own v rs _ HE1.out hn).mono ?_
  rintro e w2 ⟨ga, la, rfl, hoA, hmA, hnA, hb2⟩
  have s2 := hb2.size
  have HA2 : Hid (OwnRuns w2 w1.heap.size ga la ∧ la.map Prod.snd = esOf rs) := ⟨hoA, hmA⟩
  have hla : la.length ≤ 1048576 := by omega
  clear hoA hmA hnA
  go_wp2_with fail
  refine (specCompact_own w1.heap.size ga la _ HA2.out.1 (okL_of HA2.out.2 HO.out) hla).mono ?_
  rintro e w3 ⟨a0, n0, c0, R, rfl, hU3, hR3, hb3⟩
  have s3 := hb3.size
  have hRl := cmpOf_len hR3
  have HU3 : Hid (OwnU w3 w2.heap.size (.slice a0 n0 c0) R ∧ CmpOf (esOf rs) R) := ⟨hU3, by rw [HA2.out.2] at hR3; exact hR3⟩
  clear hU3 hR3
  obtain ⟨W4, hW4⟩ : ∃ W4 : World, W4 = w3.alloc (Obj.cells #[.slice a0 n0 c0] 40) := ⟨_, rfl⟩
  have hb4 : Below w3.heap.size w3 W4 := by rw [hW4]; exact (Below.refl _ _).alloc (Nat.le_refl _) _
  have s4 : W4.heap.size = w3.heap.size + 1 := by rw [hW4]; simp
  have HC4 : Hid (W4.cell? ⟨w3.heap.size, 0, none⟩ = some (.slice a0 n0 c0)) := by show W4.cell? _ = _; rw [hW4]; simp
  have k4 : Below w.heap.size w W4 := ((hb1.trans (hb2.mono (by omega))).trans (hb3.mono (by omega))).trans (hb4.mono (by omega))
  have HE4 : Hid (InRuns W4 v rs) := HE0.out.below k4
  have HU4 : Hid (OwnU W4 w2.heap.size (.slice a0 n0 c0) R) := OwnU.below HU3.out.1 hb4
  have hu0 : ∀ k, (Value.slice a0 n0 c0).ownBlock = some k → w2.heap.size ≤ k ∧ k < W4.heap.size := HU4.out.row
  go_upto_region 6 with fail
  rw [← hW4]
  clear hW4
  go_wp2_with fail
  refine (toRuns_own v rs _ HE4.out hn).mono ?_
  rintro e w5 ⟨gx, lx, rfl, hoX, hmX, hnX, hb5⟩
  have s5 := hb5.size
  have HX5 : Hid (OwnRuns w5 W4.heap.size gx lx ∧ lx.map Prod.snd = esOf rs ∧ lx.length + totL lx ≤ 1048576) := ⟨hoX, hmX, hnX⟩
  have hlx : lx.length ≤ 1048576 := by omega
  clear hoX hmX hnX
  go_wp2_with fail
  refine (implCompact_own W4.heap.size gx lx _ HX5.out.1 (okL_of HX5.out.2.1 HO.out) hlx).mono ?_
  rintro e w6 ⟨a1, n1, c1, R', rfl, hU6, hR6, hb6⟩
  have s6 := hb6.size
  have hRR : R' = R := cmpOf_uniq (by rw [HX5.out.2.1] at hR6; exact hR6) HU3.out.2
  subst hRR
  have HU6 : Hid (OwnU w6 w5.heap.size (.slice a1 n1 c1) R') := hU6
  clear hU6 hR6
  obtain ⟨W7, hW7⟩ : ∃ W7 : World, W7 = w6.alloc (Obj.cells #[.slice a1 n1 c1] 40) := ⟨_, rfl⟩
  have hb7 : Below w6.heap.size w6 W7 := by rw [hW7]; exact (Below.refl _ _).alloc (Nat.le_refl _) _
  have s7 : W7.heap.size = w6.heap.size + 1 := by rw [hW7]; simp
  have k47 : Below W4.heap.size W4 W7 := (hb5.trans (hb6.mono (by omega))).trans (hb7.mono (by omega))
  have HC7 : Hid (W7.cell? ⟨w6.heap.size, 0, none⟩ = some (.slice a1 n1 c1) ∧ W7.cell? ⟨w3.heap.size, 0, none⟩ = some (.slice a0 n0 c0)) := by
    refine ⟨by rw [hW7]; simp, ?_⟩
    rw [k47.cell (p := ⟨w3.heap.size, 0, none⟩) (by show w3.heap.size < W4.heap.size; omega)]; exact HC4.out
  have HU7 : Hid (OwnU W7 w2.heap.size (.slice a0 n0 c0) R' ∧ OwnU W7 w5.heap.size (.slice a1 n1 c1) R') := ⟨OwnU.below HU4.out k47, OwnU.below HU6.out hb7⟩
  have HX7 : Hid (OwnRuns W7 W4.heap.size gx lx) := (HX5.out.1.below hb6).below hb7
  have hu1 : ∀ k, (Value.slice a1 n1 c1).ownBlock = some k → w5.heap.size ≤ k ∧ k < w6.heap.size := HU6.out.row
  have k7 : Below w.heap.size w W7 := k4.trans (k47.mono (by have := k4.size; omega))
  go_upto_region 8 with fail
  rw [← hW7]
  clear hW7
  obtain ⟨q1, q0⟩ := HC7.out
  go_wp2_with fail
  refine (eqRun_any _ _ R' _ HU7.out.2.ins HU7.out.1.ins).mono ?_
  rintro e w8 ⟨rfl, hb8⟩
  have s8 := hb8.size
  have k8 : Below w.heap.size w w8 := k7.trans (hb8.mono (by have := k7.size; omega))
  have HE8 : Hid (InRuns w8 v rs) := HE0.out.below k8
  clear q0 q1
  go_wp2_with fail
  refine (toRuns_own v rs _ HE8.out hn).mono ?_
  rintro e w9 ⟨gy, ly, rfl, hoY, hmY, hnY, hb9⟩
  have s9 := hb9.size
  have HY9 : Hid (OwnRuns w9 w8.heap.size gy ly ∧ ly.map Prod.snd = esOf rs) := ⟨hoY, hmY⟩
  have k79 : Below W7.heap.size W7 w9 := hb8.trans (hb9.mono (by omega))
  have HX9 : Hid (OwnRuns w9 W4.heap.size gx lx) := HX7.out.below k79
  clear hoY hmY hnY
  go_wp2_with fail
  refine (eqRunS_own W4.heap.size gx w8.heap.size gy lx ly _ HX9.out HY9.out.1 (by rw [HX5.out.2.1, HY9.out.2]) hlx).mono ?_
  rintro e w10 ⟨rfl, hb10⟩
  have s10 := hb10.size
  have k710 : Below W7.heap.size W7 w10 := k79.trans (hb10.mono (by omega))
  have HX10 : Hid (OwnRuns w10 W4.heap.size gx lx) := HX7.out.below k710
  go_wp2_with fail
  refine (markRunS_core W4.heap.size gx lx _ HX10.out HX5.out.2.2).mono ?_
  rintro e w11 ⟨am, rfl, ham, hC11⟩
  have s11 := hC11.size
  have hrow : ∀ k, RowsOf lx k → W4.heap.size ≤ k ∧ k < w5.heap.size := by
    rintro k ⟨p, hp, rfl⟩
    exact ⟨(HX10.out.rows.2 p hp).lt.1, (HX5.out.1.rows.2 p hp).lt.2⟩
  have HC11 : Hid (w11.cell? ⟨w6.heap.size, 0, none⟩ = some (.slice a1 n1 c1) ∧ w11.cell? ⟨w3.heap.size, 0, none⟩ = some (.slice a0 n0 c0)) := by
    refine ⟨?_, ?_⟩
    · rw [hC11.cell (p := ⟨w6.heap.size, 0, none⟩) (by show w6.heap.size < w10.heap.size; omega) (fun q => by have h1 : W4.heap.size ≤ w6.heap.size ∧ w6.heap.size < w5.heap.size := hrow _ q; omega), k710.cell (p := ⟨w6.heap.size, 0, none⟩) (by show w6.heap.size < W7.heap.size; omega)]; exact HC7.out.1
    · rw [hC11.cell (p := ⟨w3.heap.size, 0, none⟩) (by show w3.heap.size < w10.heap.size; omega) (fun q => by have h1 : W4.heap.size ≤ w3.heap.size ∧ w3.heap.size < w5.heap.size := hrow _ q; omega), k710.cell (p := ⟨w3.heap.size, 0, none⟩) (by show w3.heap.size < W7.heap.size; omega)]; exact HC7.out.2
  have HU11 : Hid (OwnU w11 w2.heap.size (.slice a0 n0 c0) R' ∧ OwnU w11 w5.heap.size (.slice a1 n1 c1) R') :=
    ⟨OwnU.chg (OwnU.below HU7.out.1 k710) hC11 (fun k hk q => by have := hu0 k hk; have := hrow k q; omega), OwnU.chg (OwnU.below HU7.out.2 k710) hC11 (fun k hk q => by have := hu1 k hk; have := hrow k q; omega)⟩
  have k10 : Below w.heap.size w w10 := k7.trans (k710.mono (by have := k7.size; omega))
  have k11 : Below w.heap.size w w11 := Chg.below k10 hC11 k10.size (fun k q => by have := hrow k q; have := k4.size; omega)
  clear hC11 hrow
  obtain ⟨q1, q0⟩ := HC11.out
  go_wp2_with fail
  refine (eqRun_any _ _ R' _ HU11.out.2.ins HU11.out.1.ins).mono ?_
  rintro e w12 ⟨rfl, hb12⟩
  have s12 := hb12.size
  have HU12 : Hid (OwnU w12 w2.heap.size (.slice a0 n0 c0) R' ∧ OwnU w12 w5.heap.size (.slice a1 n1 c1) R') := ⟨OwnU.below HU11.out.1 hb12, OwnU.below HU11.out.2 hb12⟩
  have HC12 : Hid (w12.cell? ⟨w6.heap.size, 0, none⟩ = some (.slice a1 n1 c1) ∧ w12.cell? ⟨w3.heap.size, 0, none⟩ = some (.slice a0 n0 c0)) := by
    refine ⟨?_, ?_⟩
    · rw [hb12.cell (p := ⟨w6.heap.size, 0, none⟩) (by show w6.heap.size < w11.heap.size; omega)]; exact HC11.out.1
    · rw [hb12.cell (p := ⟨w3.heap.size, 0, none⟩) (by show w3.heap.size < w11.heap.size; omega)]; exact HC11.out.2
  have k12 : Below w.heap.size w w12 := k11.trans (hb12.mono (by have := k11.size; omega))
  clear q0 q1
  obtain ⟨q1, q0⟩ := HC12.out
  go_wp2_with fail
  refine (markRun_own w5.heap.size _ R' 1 _ HU12.out.2 (by omega) (by omega) (by omega) (by omega)).mono ?_
  rintro e w13 ⟨R1, rfl, hU13, hl13, hm13, hg13⟩
  have s13 := hg13.size
  have HC13 : Hid (w13.cell? ⟨w6.heap.size, 0, none⟩ = some (.slice a1 n1 c1) ∧ w13.cell? ⟨w3.heap.size, 0, none⟩ = some (.slice a0 n0 c0)) := by
    refine ⟨?_, ?_⟩
    · rw [hg13.cell_far ⟨w6.heap.size, 0, none⟩ (by show w6.heap.size < w12.heap.size; omega) (fun q => by have h1 : w5.heap.size ≤ w6.heap.size ∧ w6.heap.size < w6.heap.size := hu1 _ q.symm; omega)]; exact HC12.out.1
    · rw [hg13.cell_far ⟨w3.heap.size, 0, none⟩ (by show w3.heap.size < w12.heap.size; omega) (fun q => by have h1 : w5.heap.size ≤ w3.heap.size ∧ w3.heap.size < w6.heap.size := hu1 _ q.symm; omega)]; exact HC12.out.2
  have HU13 : Hid (OwnU w13 w2.heap.size (.slice a0 n0 c0) R') := HU12.out.1.keptNe hg13 (fun g hg q => by have h1 := hu0 g hg; have h2 := hu1 g q; omega)
  have HM13 : Hid (OwnU w13 w5.heap.size (.slice a1 n1 c1) R1 ∧ marked 1 R1 R1.length) := ⟨hU13, hm13⟩
  have k13 : Below w.heap.size w w13 := k12.grown hg13 k12.size (fun j hj => by have h2 := hu1 j hj; have := k4.size; omega)
  have HRl : Hid (R1.length = R'.length) := hl13
  clear hU13 hm13 hg13 hl13 q0 q1
  obtain ⟨q1, q0⟩ := HC13.out
  go_wp2_with fail
  rw [← HRl.out]
  refine (heldRun_own w5.heap.size _ R1 1 _ HM13.out.1 HM13.out.2 (by omega) (by omega) (by rw [HRl.out]; omega)).mono ?_
  rintro e w14 ⟨rfl, hb14⟩
  rw [HRl.out]
  have s14 := hb14.size
  have HU14 : Hid (OwnU w14 w2.heap.size (.slice a0 n0 c0) R') := OwnU.below HU13.out hb14
  have HC14 : Hid (w14.cell? ⟨w3.heap.size, 0, none⟩ = some (.slice a0 n0 c0)) := by
    show w14.cell? _ = _
    rw [hb14.cell (p := ⟨w3.heap.size, 0, none⟩) (by show w3.heap.size < w13.heap.size; omega)]; exact HC13.out.2
  have k14 : Below w.heap.size w w14 := k13.trans (hb14.mono (by have := k13.size; omega))
  have HE14 : Hid (InRuns w14 v rs) := HE0.out.below k14
  have hk2 : (0 : Int) ≤ 1 + (R'.length : Int) * 6 := by omega
  clear q0 q1
  go_wp2_with fail
  refine (toRuns_own v rs _ HE14.out hn).mono ?_
  rintro e w15 ⟨gz, lz, rfl, hoZ, hmZ, hnZ, hb15⟩
  have s15 := hb15.size
  have HZ15 : Hid (OwnRuns w15 w14.heap.size gz lz ∧ lz.map Prod.snd = esOf rs) := ⟨hoZ, hmZ⟩
  have hlz : lz.length ≤ 1048576 := by omega
  clear hoZ hmZ hnZ
  go_wp2_with fail
  refine (implCompact_own w14.heap.size gz lz _ HZ15.out.1 (okL_of HZ15.out.2 HO.out) hlz).mono ?_
  rintro e w16 ⟨a2, n2, c2, R2, rfl, hU16, hR16, hb16⟩
  have s16 := hb16.size
  have hRR : R2 = R' := cmpOf_uniq (by rw [HZ15.out.2] at hR16; exact hR16) HU3.out.2
  subst hRR
  have k1416 : Below w14.heap.size w14 w16 := hb15.trans (hb16.mono (by omega))
  obtain ⟨W17, hW17⟩ : ∃ W17 : World, W17 = w16.alloc (Obj.cells #[.slice a2 n2 c2] 40) := ⟨_, rfl⟩
  have hb17 : Below w16.heap.size w16 W17 := by rw [hW17]; exact (Below.refl _ _).alloc (Nat.le_refl _) _
  have k1417 : Below w14.heap.size w14 W17 := k1416.trans (hb17.mono (by omega))
  have HU17 : Hid (OwnU W17 w2.heap.size (.slice a0 n0 c0) R2 ∧ OwnU W17 w15.heap.size (.slice a2 n2 c2) R2) := ⟨OwnU.below HU14.out k1417, OwnU.below hU16 hb17⟩
  have HC17 : Hid (W17.cell? ⟨w16.heap.size, 0, none⟩ = some (.slice a2 n2 c2) ∧ W17.cell? ⟨w3.heap.size, 0, none⟩ = some (.slice a0 n0 c0)) := by
    refine ⟨by rw [hW17]; simp, ?_⟩
    rw [k1417.cell (p := ⟨w3.heap.size, 0, none⟩) (by show w3.heap.size < w14.heap.size; omega)]; exact HC14.out
  have k17 : Below w.heap.size w W17 := k14.trans (k1417.mono (by have := k14.size; omega))
  clear hU16 hR16
  go_upto_region 25 with fail
  rw [← hW17]
  clear hW17
  obtain ⟨q1, q0⟩ := HC17.out
  go_wp2_with fail
  refine (eqRun_any _ _ R2 _ HU17.out.2.ins HU17.out.1.ins).mono ?_
  rintro e w18 ⟨rfl, hb18⟩
  have k18 : Below w.heap.size w w18 := k17.trans (hb18.mono (by have := k17.size; omega))
  go_wp2_with fail
  go_ret
  exact ⟨rfl, k18⟩

theorem lifted (os : Os) (started : os.Started) (H : Type) (enc : TypeId × Value → H) :
    ReturnsInHanded {} Try.checked os 4 .any (Rows.fnExactCompactRunsSpec.pre6 enc Try.prog Try.f4 Rows.fnExactCompactRunsRow.domain false) (Rows.fnExactCompactRunsSpec.post enc Try.prog Try.f4 false true false false) := by
  refine returnsInHanded_of_change (C := Try.checked) own started (by kernel_rfl) Try.func4
    (ChangeSpec.witness6 (enc := enc) (C := Try.checked) false ⟨#[], #[.slice none 0 0], []⟩ 8 (by kernel_rfl) (by kernel_rfl) (by kernel_rfl) (by kernel_rfl)) ?_
  intro W base args ds gs before hval0 hW hcnd _
  have hval : ∀ (j : Nat) t v, Try.f4.params[j]? = some t → args[j]? = some v → Value.okWide Try.prog W .any base t v := hval0
  have hW' := hW
  obtain ⟨p, q, hA0, hV, rfl, hfz, hnd⟩ := hW
  have hA : DataW.TrodAll enc Try.prog W 0 (fun _ => true) true Try.f4.params.toList args.toList ds p := hA0
  rw [Try.params4] at hA hval
  obtain ⟨v0, vs0, d0, ds0, p0, q0, hargs, rfl, rfl, h0, r0⟩ := trodAll_cons hA
  obtain ⟨rfl, rfl, rfl⟩ := trodAll_nil r0
  obtain rfl : args = #[v0] := by cases args; simp_all
  obtain ⟨rfl, rfl⟩ := trodVars_none hV
  have k0 := h0
  have lt0 : ∀ x ∈ p0, x.block < W.heap.size := by obtain ⟨m, hm⟩ := k0; exact DataW.trod_lt m _ _ _ hm
  obtain ⟨rs, hin, ok0⟩ : ∃ rs : List Rn, InRuns W v0 rs ∧ okR rs := by
    obtain ⟨a0, len0, cap0, rfl⟩ := okWide_slice Try.underlying22 (hval 0 22 v0 rfl rfl)
    obtain ⟨fuel, hf⟩ := h0
    exact runs_of_trod (by simpa [Value.cells] using hf)
  clear hA0 hval0
  refine (walk v0 rs W hin ok0).mono fun e W' ⟨he, bel⟩ => ?_
  subst he
  exact ⟨_, rfl, _, _, _, [], _, [], hW', trodAll_mk1 (shut_bool Try.underlying4 _), (trodAll_cons_mk (Below.trod laidOut (by kernel_rfl) (of_decide_eq_true (by kernel_rfl)) k0 bel lt0) trodAll_mk0), rfl, bel.frame _, fun h => by cases h⟩

theorem over : Rows.fnExactCompactRunsRow.holds Try.pinned (OpenSpec.ofChange Rows.fnExactCompactRunsSpec) :=
  OpenClaim.holds_of_wide 4 Try.f4 rfl rfl rfl rfl rfl rfl rfl ⟨rfl, rfl, rfl, rfl, rfl⟩ rfl rfl rfl rfl rfl (by kernel_rfl) Try.func4 (by kernel_rfl)
    (of_decide_eq_true (by kernel_rfl)) (by unfold Func.isWrapper; first | (rw [if_pos (by decide +kernel)]; kernel_rfl) | (rw [if_neg (by decide +kernel)]; exact ⟨rfl, rfl⟩))
    (fun os started H enc _ => lifted os started H enc)

end Go.Proofs.Ytnncedndlhfdkac.exCompactRuns
namespace Go.Proofs.Ytnncedndlhfdkac
theorem exactCompactRuns_holds : Rows.FnExactCompactRunsSaid := exCompactRuns.over
#print axioms exactCompactRuns_holds
end Go.Proofs.Ytnncedndlhfdkac
