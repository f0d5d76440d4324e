import Derived.Test.YtkbmdkgfgfbilaaPkAI
import Derived.Test.YtkbmdkgfgfbilaaPkAF
import Derived.Test.YtkbmdkgfgfbilaaPkAG
/-
  (*impl.Code).addConds: an if.
-/
namespace Go.Proofs.Ytkbmdkgfgfbilaa
open Go.ChangeShapes Go.WideShapes Go.ChangeAt Go.RowKit Go.Deep
set_option linter.unusedVariables false
set_option linter.unusedSimpArgs false
set_option maxRecDepth 100000

theorem gen_ne (t : CT) : ∀ (s : Bool) (f : Nat), t.gen s f ≠ [] := by
  induction t with
  | leaf n => intro s f; simp [CT.gen]
  | chain n a b ha hb => intro s f; simp only [CT.gen]; intro q; exact ha s f (List.append_eq_nil_iff.1 q).1
  | inter n a b ha hb => intro s f; simp [CT.gen]
  | cond n a b c ha hb hc => intro s f; simp [CT.gen]
theorem absG_ne {l : List Ix} (k c : Nat) (h : l ≠ []) : absG k c l ≠ [] := fun q => h (by have := congrArg List.length q; rw [absG_length] at this; exact List.length_eq_zero_iff.1 this)
/-- A block added to the code's conditions. -/
theorem CoAt.app {w w' : World} {cb base : Nat} {cv cv' v : Value} {X : List (List Ix)} {bs : List Bk} {l : List Ix} (h : CoAt w cb cv X bs) (hR : RowX w base v (absG 0 0 l)) (hb : cb + 1 ≤ base) (hap : ∀ x ∈ bs, x.v.ownBlock ≠ v.ownBlock) (hne : l ≠ []) (hA : AppB w w' (cb + 1) cv cv' bs [⟨v, (cntL l : Nat), absG 0 0 l⟩]) :
    CoAt (w'.setCell ⟨cb, 0, none⟩ cv') cb cv' (X ++ [l]) (bs ++ [⟨v, (cntL l : Nat), absG 0 0 l⟩]) := by
  have hch : Chg (fun k => cv.ownBlock = .some k) w w' := Chg.of_grown hA.grown (fun k hk => hk)
  have hne' : ¬ cv.ownBlock = .some cb := fun q => by have := (h.row.blk q).1; omega
  have hset : Chg (fun b => b = cb) w' (w'.setCell ⟨cb, 0, none⟩ cv') := Chg.of_set _ _ _ _ rfl
  have hE : Eac w' (cb + 1) bs := h.each.grown h.row hA.grown
  have hR' : RowX w' (cb + 1) v (absG 0 0 l) := (hR.low hb).chg hch (fun k hk q => row_apart hR h.row k hk q)
  refine ⟨?_, hA.own.chg hset (fun k hk q => by have := (hA.own.blk hk).1; omega), fun x hx => ?_, ?_, ?_, fun x hx => ?_⟩
  · have := (h.box.chg hch hne').set 0 cv'
    simpa using this
  · rcases List.mem_append.1 hx with hx | hx
    · exact (hE x hx).chg hset (fun k hk q => by have := ((hE x hx).blk hk).1; omega)
    · simp only [List.mem_singleton] at hx
      subst hx
      exact hR'.chg hset (fun k hk q => by have := (hR'.blk hk).1; omega)
  · rw [List.map_append, List.map_append, h.view]; rfl
  · refine List.pairwise_append.2 ⟨h.apart, List.pairwise_singleton _ _, fun x hx y hy => ?_⟩
    simp only [List.mem_singleton] at hy
    subst hy
    exact hap x hx
  · rcases List.mem_append.1 hx with hx | hx
    · exact h.some x hx
    · simp only [List.mem_singleton] at hx
      subst hx
      exact absG_ne 0 0 hne
set_option maxHeartbeats 8000000 in
theorem ad_cond (n : Nd) (a b d : CT) (Ha : AdC a) (Hb : AdC b) (Hd : AdC d) : AdC (.cond n a b d) := by
  intro w lo hi p cb cv X bs fv R L s hT hC hh hBf hRA hl hc hx
  obtain ⟨fk, fcs, rfl⟩ := hBf.shape
  obtain ⟨FV, hFV⟩ : ∃ FV : Value, FV = .func (Fn.func fk) #[] fcs := ⟨_, rfl⟩
  obtain ⟨W0, hW0⟩ : ∃ W0 : World, W0 = w.alloc (Obj.cells #[.func (Fn.func fk) #[] fcs] 54) := ⟨_, rfl⟩
  obtain ⟨p2, hp2⟩ : ∃ p2, p2 = w.heap.size := ⟨_, rfl⟩
  have hb0 : Below w.heap.size w W0 := by rw [hW0]; exact (Below.refl _ _).alloc (Nat.le_refl _) _
  have HP2 : Hid (BoxAt W0 p2 54 1 p2 [.func (Fn.func fk) #[] fcs] ∧ p2 = w.heap.size ∧ Below w.heap.size w W0) := by
    refine ⟨?_, hp2, hb0⟩
    rw [hW0, hp2]; exact boxAt_new w _ (Nat.le_refl _) rfl
  have hcl := hC.lt
  have HC0 : Hid (CoAt W0 cb cv X bs) := hC.below hb0
  have HB0 : Hid (Bef W0 R (.func (Fn.func fk) #[] fcs) L s) := hBf.below hb0
  have HRA : Hid (RApart w R lo hi cb cv) := hRA
  have HF0 : Hid (AdF w W0 lo hi cb cv cv) := AdF.of_below hb0
  have hT0 : TrAt W0 (.cond n a b d) lo hi p none := hT.below hb0 (by omega) (Nat.le_refl _)
  obtain ⟨h0, m, m2, m3, pa, pb, pc, q, cq, k, hA, hB, hD, l1, l2, l3, hb, hr, hp, hq, _⟩ := hT0
  have hcq : 3 ≤ cq := hr.caps.1
  have hcm := hr.caps.2
  have hbl := BoxAt.lt hb
  have hrl := hr.lt
  simp only [CT.size] at hl hc
  simp only [CT.ifs] at hx
  have HT : Hid (TrAt W0 a lo m pa none ∧ TrAt W0 b m m2 pb none ∧ TrAt W0 d m2 m3 pc none ∧ BoxT W0 m3 p n (.slice (some ⟨q, 0, none⟩) 3 cq) k ∧ PRow W0 m3 q cq [pa, pb, pc]) := ⟨hA, hB, hD, hb, hr⟩
  have d0 : W0.cell? ⟨p, 0, none⟩ = some (.int .i64 n.kind) := BoxAt.cell hb (j := 0) rfl
  have c0 : W0.cell? ⟨p, 7, none⟩ = some (.slice (some ⟨q, 0, none⟩) 3 cq) := BoxAt.cell hb (j := 7) rfl
  have c1 : W0.cell? ⟨q, 0, none⟩ = some (ptrV pa) := hr.cell (j := 0) rfl
  have z14 : (n.kind == 14) = false := by rw [beq_eq_false_iff_ne]; omega
  have z15 : (n.kind == 15) = false := by rw [beq_eq_false_iff_ne]; omega
  have z16 : (n.kind == 16) = true := by rw [beq_iff_eq]; exact h0
  have c3 : W0.cell? ⟨p2, 0, none⟩ = some (.func (Fn.func fk) #[] fcs) := HP2.out.1.cell (j := 0) rfl
  have HRw : Hid (∀ b, cv.ownBlock = some b → ¬ w.heap.size ≤ b) := fun b hb hle => by have := (hC.row.blk hb).2; omega
  have HO2 : Hid (¬ AdS lo hi cb cv p2) := by
    rintro (q | q | q)
    · have := HP2.out.2.1; omega
    · have := HP2.out.2.1; omega
    · exact HRw.out p2 q (by rw [HP2.out.2.1]; exact Nat.le_refl _)
  have HBf : Hid (Bef w R (.func (Fn.func fk) #[] fcs) L s) := hBf
  have HCa : Hid (Calls Try.prog 22 #[ptrV cb, ptrV pa, .func (Fn.func fk) #[] fcs] W0 (AdP W0 a lo m pa cb cv X L s)) := Ha W0 lo m pa cb cv X bs _ R L s hA HC0.out (by omega) HB0.out (HRA.out.move hb0.size (fun k hk => .inl hk) (Nat.le_refl _) (by omega)) (by omega) (by omega) (by omega)
  have z1 := conds_len a L s X.length
  have z3 := gen_len a s X.length
  have z4 := cntL_gen a s X.length
  have HXl : Hid ((X ++ a.conds L s X.length).length = X.length + a.ifs ∧ X.length + a.ifs + 1 + b.ifs + d.ifs ≤ 1000 ∧ L.length + 3 * b.size ≤ 10000 ∧ cntL L + b.size ≤ 10000 ∧ L.length + 3 * d.size ≤ 10000 ∧ cntL L + d.size ≤ 10000 ∧ (L ++ a.gen s X.length).length ≤ 10000 ∧ L.length + 3 * a.size ≤ 50000 ∧ cntL L + a.size ≤ 50000 ∧ X.length + a.ifs ≤ 50000) := ⟨by rw [List.length_append, z1], by omega, by omega, by omega, by omega, by omega, by rw [List.length_append]; omega, by omega, by omega, by omega⟩
  have HV0 : Hid (w.heap.size ≤ W0.heap.size ∧ p2 < W0.heap.size) := ⟨hb0.size, HP2.out.1.lt.2⟩
  clear hT hC hBf hRA hb hr hA hB hD hFV z1 z3 z4 hl hc hx
  go_enter Try.func22, Try.ntmps22
  go_upto_region 1 with fail
  rw [← hW0, ← hp2]
  clear hW0 hp2
  go_wp2_with fail
  refine HCa.out.mono ?_
  rintro r w3 ⟨rfl, cv3, bs3, hA3⟩
  have HA3 : Hid (AdTo W0 w3 a lo m pa cb cv cv3 X (a.conds L s X.length) bs3) := hA3
  have HG3 : Hid (AdF W0 w3 lo hi cb cv cv3) := hA3.fr.mono (Nat.le_refl _) (by omega)
  obtain ⟨ca, cc, hcv⟩ := hA3.code.row.slice
  have hbl3 := hA3.code.len
  rw [hbl3, HXl.out.1] at hcv
  obtain ⟨cn, hcn⟩ : ∃ cn, cn = X.length + a.ifs := ⟨_, rfl⟩
  rw [← hcn] at hcv
  subst hcv
  have HCn : Hid (cn = X.length + a.ifs ∧ bs3.length = cn) := ⟨hcn, by rw [hbl3, HXl.out.1, hcn]⟩
  have HT3 : Hid (TrAt w3 b m m2 pb none ∧ TrAt w3 d m2 m3 pc none ∧ BoxT w3 m3 p n (.slice (some ⟨q, 0, none⟩) 3 cq) k ∧ PRow w3 m3 q cq [pa, pb, pc] ∧ BoxAt w3 p2 54 1 p2 [.func (Fn.func fk) #[] fcs]) :=
    ⟨HT.out.2.1.adf HC0.out hA3.fr (by omega) (.inr (Nat.le_refl _)), HT.out.2.2.1.adf HC0.out hA3.fr (by omega) (.inr (by omega)), BoxAt.chg HT.out.2.2.2.1 hA3.fr.chg (adS_off HC0.out (by omega) (by omega)), HT.out.2.2.2.2.chg hA3.fr.chg (adS_off HC0.out (by omega) (by omega)), HP2.out.1.chg HG3.out.chg HO2.out⟩
  have hc3l := hA3.code.lt
  clear hA3 hcn hbl3 HCa c0 c1 c3 d0
  obtain ⟨W4, hW4⟩ : ∃ W4 : World, W4 = w3.alloc (Obj.cells #[.slice none 0 0, .int .i64 0] 56) := ⟨_, rfl⟩
  obtain ⟨eb, heb⟩ : ∃ eb, eb = w3.heap.size := ⟨_, rfl⟩
  have hb4 : Below w3.heap.size w3 W4 := by rw [hW4]; exact (Below.refl _ _).alloc (Nat.le_refl _) _
  have HE4 : Hid (EmAt W4 eb (.slice none 0 0) [] 0 ∧ eb = w3.heap.size ∧ Below w3.heap.size w3 W4) := by
    refine ⟨⟨?_, rowX_nil _ _⟩, heb, hb4⟩
    rw [hW4, heb]; exact boxAt_new w3 _ (Nat.le_refl _) rfl
  have e2 : W4.cell? ⟨p2, 0, none⟩ = some (.func (Fn.func fk) #[] fcs) := (HT3.out.2.2.2.2.below hb4).cell (j := 0) rfl
  have hebc : cb < eb := by omega
  go_upto_region 13 with fail
  rw [← hW4, ← heb]
  clear hW4 heb
  obtain ⟨M, hM⟩ : ∃ M, M = L ++ a.gen s X.length := ⟨_, rfl⟩
  have HM : Hid (M = L ++ a.gen s X.length) := hM
  have HEm : Hid (∀ (wy : World) (v1 : Value), Below eb W4 wy → EmAt wy eb v1 (absG 0 0 L) (cntL L) → Calls Try.prog 24 #[ptrV pa, ptrV eb, .bool s] wy (EmP wy eb (cntL L) v1 (absG 0 0 L) a s X.length)) := fun wy v1 hy hEy =>
    emit_all a wy lo m pa X.length eb (cntL L) v1 (absG 0 0 L) s ((HA3.out.tree.below hb4 (by omega) (Nat.le_refl _)).below hy (by omega) (by have := HE4.out.1.lt; omega)) hEy (by omega) (by rw [absG_length]; exact HXl.out.2.2.2.2.2.2.2.1) HXl.out.2.2.2.2.2.2.2.2.1 HXl.out.2.2.2.2.2.2.2.2.2
  have HB3 : Hid (Bef w3 R (.func (Fn.func fk) #[] fcs) L s) := HBf.out.adf HRA.out (HF0.out.trans HG3.out)
  go_cut [] (fun wx => Hid (∃ v6, EmTo W4 wx eb (.slice none 0 0) v6 (absG 0 0 M) (cntL M)))
  case first =>
    rcases HB3.out with ⟨hfv, hbf⟩ | ⟨r1, r2, hfv, hbf⟩
    case inl =>
      cases hfv
      have HBc : Hid (Calls Try.prog 23 #[ptrV eb] W4 (BeP W4 eb (.slice none 0 0) L s)) := hbf W4 eb (.slice none 0 0) (Chg.of_below hb4) (by rw [HE4.out.2.1]; exact Nat.le_refl _) HE4.out.1
      clear hbf
      go_wp2_with fail
      refine HBc.out.mono ?_
      rintro r w5 ⟨v5, rfl, hT5⟩
      have HT5 : Hid (EmTo W4 w5 eb (.slice none 0 0) v5 (absG 0 0 L) (cntL L)) := hT5
      have HCe : Hid (Calls Try.prog 24 #[ptrV pa, ptrV eb, .bool s] w5 (EmP w5 eb (cntL L) v5 (absG 0 0 L) a s X.length)) := HEm.out w5 v5 (hT5.below HE4.out.1) hT5.at_
      clear hT5 HBc e2
      go_wp2_with fail
      refine HCe.out.mono ?_
      rintro r w6 ⟨v6, rfl, hT6⟩
      have HP6 : Hid (∃ v6, EmTo W4 w6 eb (.slice none 0 0) v6 (absG 0 0 M) (cntL M)) := by
        refine ⟨v6, ?_⟩
        have h9 := HT5.out.trans hT6
        rw [HM.out, absG_append, cntL_append, Nat.zero_add, Nat.zero_add]
        rw [absG_length] at h9
        exact h9
      obtain ⟨sb, hsb⟩ : ∃ sb, sb = (s || a.passes) := ⟨_, rfl⟩
      rw [← hsb]
      clear hT6 hsb HCe HT5
      go_wp2_with fail
      go_meet
      exact HP6
    case inr =>
      cases hfv
      have HBc : Hid (Calls Try.prog 49 #[ptrV eb, ptrV r1, ptrV r2] W4 (BeP W4 eb (.slice none 0 0) L s)) := hbf W4 eb (.slice none 0 0) (Chg.of_below hb4) (by rw [HE4.out.2.1]; exact Nat.le_refl _) HE4.out.1
      clear hbf
      go_wp2_with fail
      refine HBc.out.mono ?_
      rintro r w5 ⟨v5, rfl, hT5⟩
      have HT5 : Hid (EmTo W4 w5 eb (.slice none 0 0) v5 (absG 0 0 L) (cntL L)) := hT5
      have HCe : Hid (Calls Try.prog 24 #[ptrV pa, ptrV eb, .bool s] w5 (EmP w5 eb (cntL L) v5 (absG 0 0 L) a s X.length)) := HEm.out w5 v5 (hT5.below HE4.out.1) hT5.at_
      clear hT5 HBc e2
      go_wp2_with fail
      refine HCe.out.mono ?_
      rintro r w6 ⟨v6, rfl, hT6⟩
      have HP6 : Hid (∃ v6, EmTo W4 w6 eb (.slice none 0 0) v6 (absG 0 0 M) (cntL M)) := by
        refine ⟨v6, ?_⟩
        have h9 := HT5.out.trans hT6
        rw [HM.out, absG_append, cntL_append, Nat.zero_add, Nat.zero_add]
        rw [absG_length] at h9
        exact h9
      obtain ⟨sb, hsb⟩ : ∃ sb, sb = (s || a.passes) := ⟨_, rfl⟩
      rw [← hsb]
      clear hT6 hsb HCe HT5
      go_wp2_with fail
      go_meet
      exact HP6
  case rest =>
  obtain ⟨w6, hw6⟩ : ∃ w6 : World, w6 = wc := ⟨_, rfl⟩
  subst hw6
  obtain ⟨v6, hT6⟩ := hcut.out
  obtain ⟨va, vc, hv6⟩ := hT6.at_.row.slice
  obtain ⟨vn, hvn⟩ : ∃ vn, vn = (absG 0 0 M).length := ⟨_, rfl⟩
  rw [← hvn] at hv6
  clear hvn hM
  subst hv6
  have HT6 : Hid (EmTo W4 w6 eb (.slice none 0 0) (.slice va vn vc) (absG 0 0 M) (cntL M)) := hT6
  have hb6 : Below w3.heap.size w3 w6 := by
    have h1 := hT6.below HE4.out.1
    rw [HE4.out.2.1] at h1
    exact hb4.trans h1
  obtain ⟨ct, hct⟩ : ∃ ct : Int, ct = ((cntL M : Nat) : Int) := ⟨_, rfl⟩
  have HCt : Hid (ct = ((cntL M : Nat) : Int)) := hct
  clear hcut hT6 hct e2
  have hk6 : Hid (BoxT w6 m3 p n (.slice (some ⟨q, 0, none⟩) 3 cq) k) := BoxAt.below HT3.out.2.2.1 hb6
  have g8 : w6.cell? ⟨p, 8, none⟩ = some (.int .i64 k) := BoxAt.cell hk6.out (j := 8) rfl
  have f8 := BoxAt.frozen hk6.out 8
  have HC6 : Hid (CoAt w6 cb (.slice ca cn cc) (X ++ a.conds L s X.length) bs3) := HA3.out.code.below hb6
  have g0 : w6.cell? ⟨cb, 0, none⟩ = some (.slice ca cn cc) := HC6.out.box.cell (j := 0) rfl
  obtain ⟨W7, hW7⟩ : ∃ W7 : World, W7 = w6.setCell ⟨p, 8, none⟩ (.int .i64 (cn : Int)) := ⟨_, rfl⟩
  have hpb : p < w3.heap.size := by have := hbl.2; have := HG3.out.chg.size; omega
  have HF7 : Hid (AdF w3 W7 p (p + 1) cb (.slice ca cn cc) (.slice ca cn cc)) := by
    refine (AdF.of_below hb6).trans ⟨?_, fun j hj => .inl hj⟩
    rw [hW7]; exact Chg.of_set _ _ _ _ (.inl ⟨Nat.le_refl _, by omega⟩)
  have hset7 : Chg (fun b => b = p) w6 W7 := by rw [hW7]; exact Chg.of_set _ _ _ _ rfl
  have HB7 : Hid (BoxT W7 m3 p n (.slice (some ⟨q, 0, none⟩) 3 cq) (cn : Int)) := by
    rw [hW7]
    have h9 := BoxAt.set hk6.out 8 (.int .i64 (cn : Int))
    exact h9
  have HE7 : Hid (EmAt W7 eb (.slice va vn vc) (absG 0 0 M) (cntL M)) := ⟨HT6.out.at_.box.chg hset7 (by omega), HT6.out.at_.row.chg hset7 (fun j hj q => by have := (HT6.out.at_.row.blk hj).1; omega)⟩
  have HC7 : Hid (CoAt W7 cb (.slice ca cn cc) (X ++ a.conds L s X.length) bs3) := HC6.out.chg hset7 (by omega) (fun j hj q => by have := (HC6.out.row.blk hj).1; omega) (fun x hx j hj q => by have := ((HC6.out.each x hx).blk hj).1; omega)
  clear hset7
  go_upto_region 15 with fail
  rw [← hW7]
  clear hW7 g8 f8 g0
  have q0 : W7.cell? ⟨cb, 0, none⟩ = some (.slice ca cn cc) := HC7.out.box.cell (j := 0) rfl
  have q1 : W7.cell? ⟨eb, 0, none⟩ = some (.slice va vn vc) := HE7.out.box.cell (j := 0) rfl
  have q2 : W7.cell? ⟨eb, 1, none⟩ = some (.int .i64 ct) := by rw [HCt.out]; exact HE7.out.box.cell (j := 1) rfl
  have hSd : (fun w' : World => w'.cell? ⟨cb, 0, none⟩ = some (.slice ca cn cc) ∧ w'.cell? ⟨eb, 0, none⟩ = some (.slice va vn vc) ∧ w'.cell? ⟨eb, 1, none⟩ = some (.int .i64 ct)) W7.drew := ⟨q0, q1, q2⟩
  refine wp_region_T 11 (fun w' : World => w'.cell? ⟨cb, 0, none⟩ = some (.slice ca cn cc) ∧ w'.cell? ⟨eb, 0, none⟩ = some (.slice va vn vc) ∧ w'.cell? ⟨eb, 1, none⟩ = some (.int .i64 ct)) (by kernel_rfl) ?_
  refine anyT_take (i := 0) (v := ?vcd0) rfl (by kernel_rfl) (by kernel_rfl) (by kernel_rfl) (by kernel_rfl) (by decide) (fun _ _ _ h => h) (Or.inl ⟨by rfl, ?ycd0⟩) hSd ?_
  case ycd0 => (intro wz hSw; obtain ⟨hz0, hz1, hz2⟩ := hSw; go_simp; (try with_reducible rfl))
  try simp only [Act.put, List.getElem_toArray, List.getElem_cons_zero, List.getElem_cons_succ, List.setIfInBounds_toArray, List.set_cons_zero, List.set_cons_succ]
  refine anyT_take (i := 1) (v := ?vcd1) rfl (by kernel_rfl) (by kernel_rfl) (by kernel_rfl) (by kernel_rfl) (by decide) (fun _ _ _ h => h) (Or.inl ⟨by rfl, ?ycd1⟩) hSd ?_
  case ycd1 => (intro wz hSw; obtain ⟨hz0, hz1, hz2⟩ := hSw; go_simp; (try with_reducible rfl))
  try simp only [Act.put, List.getElem_toArray, List.getElem_cons_zero, List.getElem_cons_succ, List.setIfInBounds_toArray, List.set_cons_zero, List.set_cons_succ]
  refine anyT_take (i := 2) (v := ?vcd2) rfl (by kernel_rfl) (by kernel_rfl) (by kernel_rfl) (by kernel_rfl) (by decide) (fun _ _ _ h => h) (Or.inl ⟨by rfl, ?ycd2⟩) hSd ?_
  case ycd2 => (intro wz hSw; obtain ⟨hz0, hz1, hz2⟩ := hSw; go_simp; (try with_reducible rfl))
  try simp only [Act.put, List.getElem_toArray, List.getElem_cons_zero, List.getElem_cons_succ, List.setIfInBounds_toArray, List.set_cons_zero, List.set_cons_succ]
  refine anyT_take (i := 3) (v := ?vcd3) rfl (by kernel_rfl) (by kernel_rfl) (by kernel_rfl) (by kernel_rfl) (by decide) (fun _ _ _ h => h) (Or.inl ⟨by rfl, ?ycd3⟩) hSd ?_
  case ycd3 => (intro wz hSw; obtain ⟨hz0, hz1, hz2⟩ := hSw; go_simp; (try with_reducible rfl))
  try simp only [Act.put, List.getElem_toArray, List.getElem_cons_zero, List.getElem_cons_succ, List.setIfInBounds_toArray, List.set_cons_zero, List.set_cons_succ]
  refine anyT_take (i := 4) (v := ?vcd4) rfl (by kernel_rfl) (by kernel_rfl) (by kernel_rfl) (by kernel_rfl) (by decide) (fun _ _ _ h => h) (Or.inl ⟨by rfl, ?ycd4⟩) hSd ?_
  case ycd4 => (intro wz hSw; obtain ⟨hz0, hz1, hz2⟩ := hSw; go_simp; (try with_reducible rfl))
  try simp only [Act.put, List.getElem_toArray, List.getElem_cons_zero, List.getElem_cons_succ, List.setIfInBounds_toArray, List.set_cons_zero, List.set_cons_succ]
  refine anyT_take (i := 5) (v := ?vcd5) rfl (by kernel_rfl) (by kernel_rfl) (by kernel_rfl) (by kernel_rfl) (by decide) (fun _ _ _ h => h) (Or.inl ⟨by rfl, ?ycd5⟩) hSd ?_
  case ycd5 => (intro wz hSw; obtain ⟨hz0, hz1, hz2⟩ := hSw; go_simp; (try with_reducible rfl))
  try simp only [Act.put, List.getElem_toArray, List.getElem_cons_zero, List.getElem_cons_succ, List.setIfInBounds_toArray, List.set_cons_zero, List.set_cons_succ]
  refine anyT_take (i := 6) (v := ?vcd6) rfl (by kernel_rfl) (by kernel_rfl) (by kernel_rfl) (by kernel_rfl) (by decide) (fun _ _ _ h => h) (Or.inl ⟨by rfl, ?ycd6⟩) hSd ?_
  case ycd6 => (intro wz hSw; obtain ⟨hz0, hz1, hz2⟩ := hSw; go_simp; (try with_reducible rfl))
  try simp only [Act.put, List.getElem_toArray, List.getElem_cons_zero, List.getElem_cons_succ, List.setIfInBounds_toArray, List.set_cons_zero, List.set_cons_succ]
  obtain ⟨V8, hV8⟩ : ∃ V8 : World, V8 = (W7.alloc (Obj.cells #[.slice va vn vc, .int .i64 ct] 29)).drew := ⟨_, rfl⟩
  obtain ⟨G8, hG8⟩ : ∃ G8, G8 = W7.heap.size := ⟨_, rfl⟩
  have hb8 : Below W7.heap.size W7 V8 := by rw [hV8]; exact ((Below.refl _ _).alloc (Nat.le_refl _) _).drew
  have HV8 : Hid (BCells V8 G8 0 [⟨.slice va vn vc, ct, absG 0 0 M⟩] ∧ CoAt V8 cb (.slice ca cn cc) (X ++ a.conds L s X.length) bs3 ∧ EmAt V8 eb (.slice va vn vc) (absG 0 0 M) (cntL M)) := by
    refine ⟨?_, HC7.out.below hb8, HE7.out.below hb8⟩
    rw [hV8, hG8]
    intro i x hx
    match i, hx with
    | 0, hx => cases hx; exact ⟨by simp [go_sem], by simp [go_sem]⟩
  have hS8 : (fun w' : World => w'.cell? ⟨cb, 0, none⟩ = some (.slice ca cn cc) ∧ w'.cell? ⟨eb, 0, none⟩ = some (.slice va vn vc) ∧ w'.cell? ⟨eb, 1, none⟩ = some (.int .i64 ct)) V8 := ⟨HV8.out.2.1.box.cell (j := 0) rfl, HV8.out.2.2.box.cell (j := 0) rfl, by rw [HCt.out]; exact HV8.out.2.2.box.cell (j := 1) rfl⟩
  refine anyT_one (i := 7) (by kernel_rfl) rfl (fun K hK => ?_)
  go_simp
  rw [← hV8, ← hG8]
  clear hV8 hG8
  refine hK.out _ _ (.inr hS8) ?_
  clear hK
  try simp only [Act.put, List.getElem_toArray, List.getElem_cons_zero, List.getElem_cons_succ, List.setIfInBounds_toArray, List.set_cons_zero, List.set_cons_succ]
  have HLn : Hid (bs3.length + 1 ≤ 2 ^ 30 ∧ cb + 1 ≤ V8.heap.size) := ⟨by have h1 := HCn.out; have h2 := HXl.out; omega, HV8.out.2.1.lt⟩
  refine anyT_one (i := 8) (by kernel_rfl) rfl (fun K hK => ?_)
  refine step_append_bkV _ rfl _ _ rfl (cb + 1) (.slice ca cn cc) G8 0 1 1 bs3 [⟨.slice va vn vc, ct, absG 0 0 M⟩] rfl rfl rfl HV8.out.2.1.row HV8.out.1 (fun x hx => by simp only [List.mem_singleton] at hx; subst hx; rfl) HLn.out.1 HLn.out.2 ?_
  intro cv9 w9 hA9
  have hgr9 : Chg (fun k => (Value.slice ca cn cc).ownBlock = some k) V8 w9 := Chg.of_grown hA9.grown (fun k hk => hk)
  have HB9 : Hid (BoxAt w9 cb 31 3 cb [.slice ca cn cc, .slice none 0 0, .int .i64 0]) := HV8.out.2.1.box.chg hgr9 (fun q => by have := (HV8.out.2.1.row.blk q).1; omega)
  have HE9 : Hid (EmAt w9 eb (.slice va vn vc) (absG 0 0 M) (cntL M)) := ⟨HV8.out.2.2.box.chg hgr9 (fun q => own_apart HV8.out.2.2.box HV8.out.2.1.row (by decide) eb rfl q), HV8.out.2.2.row.chg hgr9 (fun j hj q => row_apart HV8.out.2.2.row HV8.out.2.1.row j hj q)⟩
  have HC9 : Hid (CoAt (w9.setCell ⟨cb, 0, none⟩ cv9) cb cv9 (X ++ a.conds L s X.length ++ [M]) (bs3 ++ [⟨.slice va vn vc, ((cntL M : Nat) : Int), absG 0 0 M⟩])) := by
    refine HV8.out.2.1.app HV8.out.2.2.row (by omega) (fun x hx hqq => ?_) ?_ (by rw [← HCt.out]; exact hA9)
    · rcases hz : (Value.slice va vn vc).ownBlock with _ | j
      · have h5 := HA3.out.code.some x hx
        rw [hz] at hqq
        rcases (HA3.out.code.each x hx).cases with ⟨_, h6⟩ | ⟨g6, c6, h6, _⟩
        · exact h5 h6
        · rw [h6] at hqq; simp [Value.ownBlock] at hqq
      · rw [hz] at hqq
        have h1 := ((HA3.out.code.each x hx).blk hqq).2
        have h2 := (HT6.out.at_.row.blk hz).1
        have h3 := HE4.out.2.1
        omega
    · rw [HM.out]; intro qq; exact gen_ne a s X.length (List.append_eq_nil_iff.1 qq).2
  have HF9 : Hid (AdF w3 (w9.setCell ⟨cb, 0, none⟩ cv9) p (p + 1) cb (.slice ca cn cc) cv9) := by
    have h1 : AdF W7 w9 p (p + 1) cb (.slice ca cn cc) cv9 := by
      refine ⟨(Chg.of_below hb8).trans (hgr9.mono (fun j hj => .inr (.inr hj))), fun j hj => ?_⟩
      rcases hA9.at_ with qq | qq
      · rw [qq] at hj; exact .inl hj
      · rw [qq] at hj; cases hj; exact .inr hb8.size
    have h2 := HF7.out.trans h1
    exact ⟨h2.chg.trans (Chg.of_set _ _ _ _ (.inr (.inl rfl))), h2.new⟩
  have HBp : Hid (BoxT (w9.setCell ⟨cb, 0, none⟩ cv9) m3 p n (.slice (some ⟨q, 0, none⟩) 3 cq) (cn : Int)) := BoxAt.beside (BoxAt.chg (BoxAt.below HB7.out hb8) hgr9 (fun qq => by have := (HV8.out.2.1.row.blk qq).1; omega)) (by omega) _ _
  obtain ⟨a9, c9, hv9⟩ := hA9.own.slice
  obtain ⟨n9, hn9⟩ : ∃ n9, n9 = (bs3 ++ [(⟨.slice va vn vc, ct, absG 0 0 M⟩ : Bk)]).length := ⟨_, rfl⟩
  rw [← hn9] at hv9
  clear hn9
  subst hv9
  have hS9 : (fun w' : World => w'.cell? ⟨cb, 0, none⟩ = some (.slice ca cn cc) ∧ w'.cell? ⟨eb, 0, none⟩ = some (.slice va vn vc) ∧ w'.cell? ⟨eb, 1, none⟩ = some (.int .i64 ct)) w9 := ⟨HB9.out.cell (j := 0) rfl, HE9.out.box.cell (j := 0) rfl, by rw [HCt.out]; exact HE9.out.box.cell (j := 1) rfl⟩
  clear hA9 hgr9
  refine hK.out _ _ (.inr hS9) ?_
  clear hK
  try simp only [Act.put, List.getElem_toArray, List.getElem_cons_zero, List.getElem_cons_succ, List.setIfInBounds_toArray, List.set_cons_zero, List.set_cons_succ]
  refine anyT_one (i := 9) (by kernel_rfl) rfl (fun K hK => ?_)
  go_simp
  refine hK.out _ _ (.inr hS9) ?_
  clear hK
  try simp only [Act.put, List.getElem_toArray, List.getElem_cons_zero, List.getElem_cons_succ, List.setIfInBounds_toArray, List.set_cons_zero, List.set_cons_succ]
  refine anyT_one (i := 10) (by kernel_rfl) rfl (fun K hK => ?_)
  go_simp
  refine hK.out _ _ (.inr hS9) ?_
  clear hK
  try simp only [Act.put, List.getElem_toArray, List.getElem_cons_zero, List.getElem_cons_succ, List.setIfInBounds_toArray, List.set_cons_zero, List.set_cons_succ]
  have z0 := HB9.out.frozen 0
  have e0 := HB9.out.cell (j := 0) rfl
  obtain ⟨W10, hW10⟩ : ∃ W10 : World, W10 = w9.setCell ⟨cb, 0, none⟩ (.slice a9 n9 c9) := ⟨_, rfl⟩
  rw [← hW10] at HC9 HF9 HBp
  refine anyT_one (i := 11) (by kernel_rfl) rfl (fun K hK => ?_)
  go_simp
  rw [← hW10]
  refine hK.out _ _ (.inl rfl) ?_
  clear hK hW10 z0 e0 hSd hS8 hS9 q0 q1 q2
  try simp only [Act.put, List.getElem_toArray, List.getElem_cons_zero, List.getElem_cons_succ, List.setIfInBounds_toArray, List.set_cons_zero, List.set_cons_succ]
  refine anyT_done (by kernel_rfl) ?_
  obtain ⟨XX, hXX⟩ : ∃ XX, XX = X ++ a.conds L s X.length ++ [M] := ⟨_, rfl⟩
  obtain ⟨bs9, hbs9⟩ : ∃ bs9, bs9 = bs3 ++ [(⟨.slice va vn vc, ((cntL M : Nat) : Int), absG 0 0 M⟩ : Bk)] := ⟨_, rfl⟩
  rw [← hXX, ← hbs9] at HC9
  have HXX : Hid (XX = X ++ a.conds L s X.length ++ [M] ∧ XX.length = X.length + a.ifs + 1) := ⟨hXX, by rw [hXX, List.length_append, HXl.out.1]; rfl⟩
  clear hXX hbs9
  have HG10 : Hid (AdF W0 W10 lo hi cb cv (.slice a9 n9 c9)) := HG3.out.trans (HF9.out.mono (by omega) (by omega))
  have HB10 : Hid (Bef W10 R (.func (Fn.func fk) #[] fcs) L s ∧ RApart W10 R lo hi cb (.slice a9 n9 c9)) := ⟨HBf.out.adf HRA.out (HF0.out.trans HG10.out), HRA.out.move (HF0.out.trans HG10.out).chg.size (HF0.out.trans HG10.out).new (Nat.le_refl _) (Nat.le_refl _)⟩
  have HT10 : Hid (TrAt W10 a lo m pa (some X.length) ∧ TrAt W10 b m m2 pb none ∧ TrAt W10 d m2 m3 pc none ∧ PRow W10 m3 q cq [pa, pb, pc] ∧ BoxAt W10 p2 54 1 p2 [.func (Fn.func fk) #[] fcs]) := by
    refine ⟨HA3.out.tree.adf HA3.out.code HF9.out (by omega) (.inl (by omega)), HT3.out.1.adf HA3.out.code HF9.out (by omega) (.inl (by omega)), HT3.out.2.1.adf HA3.out.code HF9.out (by omega) (.inl (by omega)), HT3.out.2.2.2.1.chg HF9.out.chg (adS_off HA3.out.code (by omega) (fun qq => ?_)), HP2.out.1.chg HG10.out.chg HO2.out⟩
    have q9 : q = p := by omega
    exact own_apart HT3.out.2.2.2.1 HT3.out.2.2.1 (by decide) q rfl (by rw [q9]; rfl)
  have c0 : W10.cell? ⟨p, 7, none⟩ = some (.slice (some ⟨q, 0, none⟩) 3 cq) := BoxAt.cell HBp.out (j := 7) rfl
  have hSa : (fun w' : World => w'.cell? ⟨p, 7, none⟩ = some (.slice (some ⟨q, 0, none⟩) 3 cq) ∧ w'.cell? ⟨q, 1, none⟩ = some (ptrV pb) ∧ w'.cell? ⟨q, 2, none⟩ = some (ptrV pc) ∧ w'.cell? ⟨p2, 0, none⟩ = some (.func (Fn.func fk) #[] fcs)) W10.drew := ⟨c0, HT10.out.2.2.2.1.cell (j := 1) rfl, HT10.out.2.2.2.1.cell (j := 2) rfl, HT10.out.2.2.2.2.cell (j := 0) rfl⟩
  have hbd : Below W10.heap.size W10 W10.drew := (Below.refl _ _).drew
  have hc10 := HC9.out.lt
  have HCb : Hid (Calls Try.prog 22 #[ptrV cb, ptrV pb, .func (Fn.func fk) #[] fcs] W10.drew (AdP W10.drew b m m2 pb cb (.slice a9 n9 c9) XX L s)) := Hb W10.drew m m2 pb cb _ _ bs9 _ R L s (HT10.out.2.1.below hbd (by omega) (Nat.le_refl _)) (HC9.out.below hbd) (by omega) (HB10.out.1.below hbd) (HB10.out.2.move (w' := W10.drew) hbd.size (fun k hk => .inl hk) (by omega) (by omega)) HXl.out.2.2.1 HXl.out.2.2.2.1 (by rw [HXX.out.2]; have := HXl.out.2.1; omega)
  clear c0 hb8 hb6 hb4
  go_upto_region 16 with fail
  refine wp_region_T 99 (fun w' : World => w'.cell? ⟨p, 7, none⟩ = some (.slice (some ⟨q, 0, none⟩) 3 cq) ∧ w'.cell? ⟨q, 1, none⟩ = some (ptrV pb) ∧ w'.cell? ⟨q, 2, none⟩ = some (ptrV pc) ∧ w'.cell? ⟨p2, 0, none⟩ = some (.func (Fn.func fk) #[] fcs)) (by kernel_rfl) ?_
  refine anyT_takeN (i := 0) (v := ?vca0) rfl (by kernel_rfl) (by kernel_rfl) (by kernel_rfl) (by rfl) (fun _ _ _ h => h) (Or.inl ⟨by rfl, ?yca0⟩) hSa ?_
  case yca0 => (intro wz hSw; obtain ⟨hz0, hz1, hz2, hz3⟩ := hSw; go_simp; (try with_reducible rfl))
  try simp only [Act.put, List.getElem_toArray, List.getElem_cons_zero, List.getElem_cons_succ, List.setIfInBounds_toArray, List.set_cons_zero, List.set_cons_succ]
  refine anyT_takeN (i := 1) (v := ?vca1) rfl (by kernel_rfl) (by kernel_rfl) (by kernel_rfl) (by rfl) (fun _ _ _ h => h) (Or.inl ⟨by rfl, ?yca1⟩) hSa ?_
  case yca1 => (intro wz hSw; obtain ⟨hz0, hz1, hz2, hz3⟩ := hSw; go_simp; (try with_reducible rfl))
  try simp only [Act.put, List.getElem_toArray, List.getElem_cons_zero, List.getElem_cons_succ, List.setIfInBounds_toArray, List.set_cons_zero, List.set_cons_succ]
  refine anyT_takeN (i := 2) (v := ?vca2) rfl (by kernel_rfl) (by kernel_rfl) (by kernel_rfl) (by rfl) (fun _ _ _ h => h) (Or.inl ⟨by rfl, ?yca2⟩) hSa ?_
  case yca2 => (intro wz hSw; obtain ⟨hz0, hz1, hz2, hz3⟩ := hSw; go_simp; (try with_reducible rfl))
  try simp only [Act.put, List.getElem_toArray, List.getElem_cons_zero, List.getElem_cons_succ, List.setIfInBounds_toArray, List.set_cons_zero, List.set_cons_succ]
  refine anyT_takeN (i := 3) (v := ?vca3) rfl (by kernel_rfl) (by kernel_rfl) (by kernel_rfl) (by rfl) (fun _ _ _ h => h) (Or.inl ⟨by rfl, ?yca3⟩) hSa ?_
  case yca3 => (intro wz hSw; obtain ⟨hz0, hz1, hz2, hz3⟩ := hSw; go_simp; (try with_reducible rfl))
  try simp only [Act.put, List.getElem_toArray, List.getElem_cons_zero, List.getElem_cons_succ, List.setIfInBounds_toArray, List.set_cons_zero, List.set_cons_succ]
  refine anyT_takeN (i := 4) (v := ?vca4) rfl (by kernel_rfl) (by kernel_rfl) (by kernel_rfl) (by rfl) (fun _ _ _ h => h) (Or.inl ⟨by rfl, ?yca4⟩) hSa ?_
  case yca4 => (intro wz hSw; obtain ⟨hz0, hz1, hz2, hz3⟩ := hSw; go_simp; (try with_reducible rfl))
  try simp only [Act.put, List.getElem_toArray, List.getElem_cons_zero, List.getElem_cons_succ, List.setIfInBounds_toArray, List.set_cons_zero, List.set_cons_succ]
  refine anyT_takeN (i := 5) (v := ?vca5) rfl (by kernel_rfl) (by kernel_rfl) (by kernel_rfl) (by rfl) (fun _ _ _ h => h) (Or.inl ⟨by rfl, ?yca5⟩) hSa ?_
  case yca5 => (intro wz hSw; obtain ⟨hz0, hz1, hz2, hz3⟩ := hSw; go_simp; (try with_reducible rfl))
  try simp only [Act.put, List.getElem_toArray, List.getElem_cons_zero, List.getElem_cons_succ, List.setIfInBounds_toArray, List.set_cons_zero, List.set_cons_succ]
  refine anyT_takeN (i := 6) (v := ?vca6) rfl (by kernel_rfl) (by kernel_rfl) (by kernel_rfl) (by rfl) (fun _ _ _ h => h) (Or.inl ⟨by rfl, ?yca6⟩) hSa ?_
  case yca6 => (intro wz hSw; obtain ⟨hz0, hz1, hz2, hz3⟩ := hSw; go_simp; (try with_reducible rfl))
  try simp only [Act.put, List.getElem_toArray, List.getElem_cons_zero, List.getElem_cons_succ, List.setIfInBounds_toArray, List.set_cons_zero, List.set_cons_succ]
  refine anyT_takeN (i := 7) (v := ?vca7) rfl (by kernel_rfl) (by kernel_rfl) (by kernel_rfl) (by rfl) (fun _ _ _ h => h) (Or.inl ⟨by rfl, ?yca7⟩) hSa ?_
  case yca7 => (intro wz hSw; obtain ⟨hz0, hz1, hz2, hz3⟩ := hSw; go_simp; (try with_reducible rfl))
  try simp only [Act.put, List.getElem_toArray, List.getElem_cons_zero, List.getElem_cons_succ, List.setIfInBounds_toArray, List.set_cons_zero, List.set_cons_succ]
  refine anyT_one (i := 8) (by kernel_rfl) rfl (fun K hK => ?_)
  go_simp
  go_at_call 22
  refine HCb.out.mono ?_
  rintro r w12 ⟨rfl, cv12, bs12, hA12⟩
  have HCd : Hid (CoAt W10.drew cb (.slice a9 n9 c9) XX bs9) := HC9.out.below hbd
  have HA12 : Hid (AdTo W10.drew w12 b m m2 pb cb (.slice a9 n9 c9) cv12 XX (b.conds L s XX.length) bs12) := hA12
  have HF12 : Hid (AdF W10 w12 lo hi cb (.slice a9 n9 c9) cv12) := (AdF.of_below hbd).trans (hA12.fr.mono (by omega) (by omega))
  have HG12 : Hid (AdF W0 w12 lo hi cb cv cv12) := HG10.out.trans HF12.out
  have HB12 : Hid (Bef w12 R (.func (Fn.func fk) #[] fcs) L s ∧ RApart w12 R lo hi cb cv12) := ⟨HBf.out.adf HRA.out (HF0.out.trans HG12.out), HRA.out.move (HF0.out.trans HG12.out).chg.size (HF0.out.trans HG12.out).new (Nat.le_refl _) (Nat.le_refl _)⟩
  have HT12 : Hid (TrAt w12 a lo m pa (some X.length) ∧ TrAt w12 d m2 m3 pc none ∧ BoxT w12 m3 p n (.slice (some ⟨q, 0, none⟩) 3 cq) (cn : Int) ∧ PRow w12 m3 q cq [pa, pb, pc] ∧ BoxAt w12 p2 54 1 p2 [.func (Fn.func fk) #[] fcs]) :=
    ⟨(HT10.out.1.below hbd (by omega) (Nat.le_refl _)).adf HCd.out hA12.fr (by omega) (.inl (Nat.le_refl _)), (HT10.out.2.2.1.below hbd (by omega) (Nat.le_refl _)).adf HCd.out hA12.fr (by omega) (.inr (Nat.le_refl _)), BoxAt.chg (BoxAt.below HBp.out hbd) hA12.fr.chg (adS_off HCd.out (by omega) (by omega)), (HT10.out.2.2.2.1.chg (S := fun _ => False) (Chg.of_below hbd) (fun qq => qq)).chg hA12.fr.chg (adS_off HCd.out (by omega) (by omega)), HP2.out.1.chg HG12.out.chg HO2.out⟩
  have hSb : (fun w' : World => w'.cell? ⟨p, 7, none⟩ = some (.slice (some ⟨q, 0, none⟩) 3 cq) ∧ w'.cell? ⟨q, 1, none⟩ = some (ptrV pb) ∧ w'.cell? ⟨q, 2, none⟩ = some (ptrV pc) ∧ w'.cell? ⟨p2, 0, none⟩ = some (.func (Fn.func fk) #[] fcs)) w12 := ⟨BoxAt.cell HT12.out.2.2.1 (j := 7) rfl, HT12.out.2.2.2.1.cell (j := 1) rfl, HT12.out.2.2.2.1.cell (j := 2) rfl, HT12.out.2.2.2.2.cell (j := 0) rfl⟩
  clear hA12 HCb
  refine hK.out _ _ (.inr hSb) ?_
  clear hK
  try simp only [Act.put, List.getElem_toArray, List.getElem_cons_zero, List.getElem_cons_succ, List.setIfInBounds_toArray, List.set_cons_zero, List.set_cons_succ]
  refine anyT_done (by kernel_rfl) ?_
  have hSbd : (fun w' : World => w'.cell? ⟨p, 7, none⟩ = some (.slice (some ⟨q, 0, none⟩) 3 cq) ∧ w'.cell? ⟨q, 1, none⟩ = some (ptrV pb) ∧ w'.cell? ⟨q, 2, none⟩ = some (ptrV pc) ∧ w'.cell? ⟨p2, 0, none⟩ = some (.func (Fn.func fk) #[] fcs)) w12.drew := hSb
  have hbd2 : Below w12.heap.size w12 w12.drew := (Below.refl _ _).drew
  have hc12 := HA12.out.code.lt
  have HYl : Hid ((XX ++ b.conds L s XX.length).length = X.length + a.ifs + 1 + b.ifs) := by show _ = _; rw [List.length_append, conds_len, HXX.out.2]
  have HCd2 : Hid (Calls Try.prog 22 #[ptrV cb, ptrV pc, .func (Fn.func fk) #[] fcs] w12.drew (AdP w12.drew d m2 m3 pc cb cv12 (XX ++ b.conds L s XX.length) L s)) := Hd w12.drew m2 m3 pc cb cv12 _ bs12 _ R L s (HT12.out.2.1.below hbd2 (by omega) (Nat.le_refl _)) (HA12.out.code.below hbd2) (by omega) (HB12.out.1.below hbd2) (HB12.out.2.move (w' := w12.drew) hbd2.size (fun k hk => .inl hk) (by omega) (by omega)) HXl.out.2.2.2.2.1 HXl.out.2.2.2.2.2.1 (by rw [HYl.out]; have := HXl.out.2.1; omega)
  clear hSa hSb
  go_upto_region 17 with fail
  refine wp_region_T 99 (fun w' : World => w'.cell? ⟨p, 7, none⟩ = some (.slice (some ⟨q, 0, none⟩) 3 cq) ∧ w'.cell? ⟨q, 1, none⟩ = some (ptrV pb) ∧ w'.cell? ⟨q, 2, none⟩ = some (ptrV pc) ∧ w'.cell? ⟨p2, 0, none⟩ = some (.func (Fn.func fk) #[] fcs)) (by kernel_rfl) ?_
  refine anyT_takeN (i := 0) (v := ?vcb0) rfl (by kernel_rfl) (by kernel_rfl) (by kernel_rfl) (by rfl) (fun _ _ _ h => h) (Or.inl ⟨by rfl, ?ycb0⟩) hSbd ?_
  case ycb0 => (intro wz hSw; obtain ⟨hz0, hz1, hz2, hz3⟩ := hSw; go_simp; (try with_reducible rfl))
  try simp only [Act.put, List.getElem_toArray, List.getElem_cons_zero, List.getElem_cons_succ, List.setIfInBounds_toArray, List.set_cons_zero, List.set_cons_succ]
  refine anyT_takeN (i := 1) (v := ?vcb1) rfl (by kernel_rfl) (by kernel_rfl) (by kernel_rfl) (by rfl) (fun _ _ _ h => h) (Or.inl ⟨by rfl, ?ycb1⟩) hSbd ?_
  case ycb1 => (intro wz hSw; obtain ⟨hz0, hz1, hz2, hz3⟩ := hSw; go_simp; (try with_reducible rfl))
  try simp only [Act.put, List.getElem_toArray, List.getElem_cons_zero, List.getElem_cons_succ, List.setIfInBounds_toArray, List.set_cons_zero, List.set_cons_succ]
  refine anyT_takeN (i := 2) (v := ?vcb2) rfl (by kernel_rfl) (by kernel_rfl) (by kernel_rfl) (by rfl) (fun _ _ _ h => h) (Or.inl ⟨by rfl, ?ycb2⟩) hSbd ?_
  case ycb2 => (intro wz hSw; obtain ⟨hz0, hz1, hz2, hz3⟩ := hSw; go_simp; (try with_reducible rfl))
  try simp only [Act.put, List.getElem_toArray, List.getElem_cons_zero, List.getElem_cons_succ, List.setIfInBounds_toArray, List.set_cons_zero, List.set_cons_succ]
  refine anyT_takeN (i := 3) (v := ?vcb3) rfl (by kernel_rfl) (by kernel_rfl) (by kernel_rfl) (by rfl) (fun _ _ _ h => h) (Or.inl ⟨by rfl, ?ycb3⟩) hSbd ?_
  case ycb3 => (intro wz hSw; obtain ⟨hz0, hz1, hz2, hz3⟩ := hSw; go_simp; (try with_reducible rfl))
  try simp only [Act.put, List.getElem_toArray, List.getElem_cons_zero, List.getElem_cons_succ, List.setIfInBounds_toArray, List.set_cons_zero, List.set_cons_succ]
  refine anyT_takeN (i := 4) (v := ?vcb4) rfl (by kernel_rfl) (by kernel_rfl) (by kernel_rfl) (by rfl) (fun _ _ _ h => h) (Or.inl ⟨by rfl, ?ycb4⟩) hSbd ?_
  case ycb4 => (intro wz hSw; obtain ⟨hz0, hz1, hz2, hz3⟩ := hSw; go_simp; (try with_reducible rfl))
  try simp only [Act.put, List.getElem_toArray, List.getElem_cons_zero, List.getElem_cons_succ, List.setIfInBounds_toArray, List.set_cons_zero, List.set_cons_succ]
  refine anyT_takeN (i := 5) (v := ?vcb5) rfl (by kernel_rfl) (by kernel_rfl) (by kernel_rfl) (by rfl) (fun _ _ _ h => h) (Or.inl ⟨by rfl, ?ycb5⟩) hSbd ?_
  case ycb5 => (intro wz hSw; obtain ⟨hz0, hz1, hz2, hz3⟩ := hSw; go_simp; (try with_reducible rfl))
  try simp only [Act.put, List.getElem_toArray, List.getElem_cons_zero, List.getElem_cons_succ, List.setIfInBounds_toArray, List.set_cons_zero, List.set_cons_succ]
  refine anyT_takeN (i := 6) (v := ?vcb6) rfl (by kernel_rfl) (by kernel_rfl) (by kernel_rfl) (by rfl) (fun _ _ _ h => h) (Or.inl ⟨by rfl, ?ycb6⟩) hSbd ?_
  case ycb6 => (intro wz hSw; obtain ⟨hz0, hz1, hz2, hz3⟩ := hSw; go_simp; (try with_reducible rfl))
  try simp only [Act.put, List.getElem_toArray, List.getElem_cons_zero, List.getElem_cons_succ, List.setIfInBounds_toArray, List.set_cons_zero, List.set_cons_succ]
  refine anyT_takeN (i := 7) (v := ?vcb7) rfl (by kernel_rfl) (by kernel_rfl) (by kernel_rfl) (by rfl) (fun _ _ _ h => h) (Or.inl ⟨by rfl, ?ycb7⟩) hSbd ?_
  case ycb7 => (intro wz hSw; obtain ⟨hz0, hz1, hz2, hz3⟩ := hSw; go_simp; (try with_reducible rfl))
  try simp only [Act.put, List.getElem_toArray, List.getElem_cons_zero, List.getElem_cons_succ, List.setIfInBounds_toArray, List.set_cons_zero, List.set_cons_succ]
  refine anyT_one (i := 8) (by kernel_rfl) rfl (fun K hK => ?_)
  go_simp
  go_at_call 22
  refine HCd2.out.mono ?_
  rintro r w14 ⟨rfl, cv14, bs14, hA14⟩
  have HCe : Hid (CoAt w12.drew cb cv12 (XX ++ b.conds L s XX.length) bs12) := HA12.out.code.below hbd2
  have HG14 : Hid (AdF W0 w14 lo hi cb cv cv14) := (HG12.out.trans (AdF.of_below hbd2)).trans (hA14.fr.mono (by omega) (by omega))
  have HT14 : Hid (TrAt w14 a lo m pa (some X.length) ∧ TrAt w14 b m m2 pb (some XX.length) ∧ BoxT w14 m3 p n (.slice (some ⟨q, 0, none⟩) 3 cq) (cn : Int) ∧ PRow w14 m3 q cq [pa, pb, pc] ∧ BoxAt w14 p2 54 1 p2 [.func (Fn.func fk) #[] fcs]) :=
    ⟨(HT12.out.1.below hbd2 (by omega) (Nat.le_refl _)).adf HCe.out hA14.fr (by omega) (.inl (by omega)), (HA12.out.tree.below hbd2 (by omega) (Nat.le_refl _)).adf HCe.out hA14.fr (by omega) (.inl (Nat.le_refl _)), BoxAt.chg (BoxAt.below HT12.out.2.2.1 hbd2) hA14.fr.chg (adS_off HCe.out (by omega) (by omega)), (HT12.out.2.2.2.1.chg (S := fun _ => False) (Chg.of_below hbd2) (fun qq => qq)).chg hA14.fr.chg (adS_off HCe.out (by omega) (by omega)), HP2.out.1.chg HG14.out.chg HO2.out⟩
  have hSc : (fun w' : World => w'.cell? ⟨p, 7, none⟩ = some (.slice (some ⟨q, 0, none⟩) 3 cq) ∧ w'.cell? ⟨q, 1, none⟩ = some (ptrV pb) ∧ w'.cell? ⟨q, 2, none⟩ = some (ptrV pc) ∧ w'.cell? ⟨p2, 0, none⟩ = some (.func (Fn.func fk) #[] fcs)) w14 := ⟨BoxAt.cell HT14.out.2.2.1 (j := 7) rfl, HT14.out.2.2.2.1.cell (j := 1) rfl, HT14.out.2.2.2.1.cell (j := 2) rfl, HT14.out.2.2.2.2.cell (j := 0) rfl⟩
  have HR : Hid (AdP w (.cond n a b d) lo hi p cb cv X L s (.returned (.tuple #[])) w14) := by
    refine ⟨rfl, cv14, bs14, ⟨⟨h0, m, m2, m3, pa, pb, pc, q, cq, (cn : Int), HT14.out.1, ?_, ?_, l1, l2, l3, HT14.out.2.2.1, HT14.out.2.2.2.1, hp, hq, fun f0 hf0 => ?_⟩, ?_, HF0.out.trans HG14.out⟩⟩
    · have h9 := HT14.out.2.1
      rw [HXX.out.2] at h9
      exact h9
    · have h9 := hA14.tree
      rw [HYl.out] at h9
      exact h9
    · cases hf0; rw [HCn.out.1]
    · have h9 := hA14.code
      rw [HYl.out, HXX.out.2, HXX.out.1, HM.out] at h9
      simp only [CT.conds, ← List.append_assoc]
      exact h9
  clear hA14 HCd2
  refine hK.out _ _ (.inr hSc) ?_
  clear hK
  try simp only [Act.put, List.getElem_toArray, List.getElem_cons_zero, List.getElem_cons_succ, List.setIfInBounds_toArray, List.set_cons_zero, List.set_cons_succ]
  refine anyT_done (by kernel_rfl) ?_
  go_wp2_with fail
  refine bodyPost_end (results_none rfl _ _ _) rfl ?_
  exact HR.out
end Go.Proofs.Ytkbmdkgfgfbilaa

/-
  impl.codeTreeOf.
-/
namespace Go.Proofs.Ytkbmdkgfgfbilaa
open Go.ChangeShapes Go.WideShapes Go.ChangeAt Go.RowKit Go.Deep
set_option linter.unusedVariables false
set_option linter.unusedSimpArgs false
set_option maxRecDepth 100000

theorem Try.infoCt : (Try.prog.info? 48).map (fun i => (i.zero, i.size, i.bytes)) = some (some (.pointer none), 1, 8) := by kernel_rfl
structure AppC (w w' : World) (base g n cp : Nat) (ps qs : List Nat) (g' cp' : Nat) : Prop where
  own : PRow w' base g' cp' (ps ++ qs)
  grown : w.grownBy w' (some g)
  at_ : g' = g ∨ g' = w.heap.size
theorem append_ct {w w' : World} {v' : Value} {base g cp m : Nat} {ps qs : List Nat} (hO' : w'.ownsRow base 48 1 v' (ps.length + m) (ps.map ptrV ++ qs.map ptrV)) (hm : m = qs.length) (hgr : w.grownBy w' (some g)) (hnil : v' = .slice none 0 0 ↔ (Value.slice (some ⟨g, 0, none⟩) ps.length cp) = .slice none 0 0 ∧ m = 0) (hat : v'.ownBlock = some g ∨ v'.ownBlock = some w.heap.size) : ∃ g' cp', v' = .slice (some ⟨g', 0, none⟩) (ps.length + m) cp' ∧ AppC w w' base g ps.length cp ps qs g' cp' := by
  subst hm
  rcases hO'.2 with ⟨h0, _⟩ | ⟨g', cap', cur, hv, _, _, hn, hcap, _, _⟩
  · have := (hnil.1 h0).1
    cases this
  · subst hv
    refine ⟨g', cap', rfl, ⟨?_, hgr, ?_⟩⟩
    · unfold PRow
      rw [List.length_append, List.map_append]
      exact hO'
    · simp [Value.ownBlock] at hat
      exact hat
theorem one_ptr (qs : List Nat) : ∀ u ∈ qs.map ptrV, u.oneCell' = true := by
  intro u hu
  obtain ⟨p, _, rfl⟩ := List.mem_map.1 hu
  rfl
theorem wpList_append_ct {ops : Array Oper} {rest : List Oper} {o : Oper} {a : Act} {Q : Exit → Act → World → Prop} (w : World) (hgd : o.guard = none) (s x : Operand)
    (ho : o.op = .call { callee := .builtin .append, args := #[s, x], argTypes := #[86, 86] })
    (base g cp n b off m cx : Nat) (ps qs : List Nat) (hs : a.eval s = .slice (some ⟨g, 0, none⟩) n cp) (hx : a.eval x = .slice (some ⟨b, off, none⟩) m cx) (hn : n = ps.length) (hm : m = qs.length) (hO : PRow w base g cp ps)
    (hc : ∀ j p, qs[j]? = some p → w.cell? ⟨b, off + j, none⟩ = some (ptrV p)) (hlen : ps.length + qs.length ≤ 2 ^ 30) (hbase : base ≤ w.heap.size)
    (h : ∀ g' cp' w', AppC w w' base g n cp ps qs g' cp' → wpList Try.prog ops Q rest (a.put o.dst (.slice (some ⟨g', 0, none⟩) (n + m) cp')) w') : wpList Try.prog ops Q (o :: rest) a w := by
  subst hn
  obtain ⟨i, hi, hz0, hz1, hz2⟩ := info_parts Try.infoCt
  refine wpList_append_own_at w hgd s x 86 ho base 48 i _ 1 8 Try.underlying86 hi hz0 hz1 hz2 rfl (by decide) (.slice (some ⟨g, 0, none⟩) ps.length cp) ps.length (ps.map ptrV) hs hO ⟨b, off, none⟩ m cx (qs.map ptrV) hx (by simp [hm]) (fun j u hu => ?_) (one_ptr qs) ?_ ?_ hbase ?_
  · rw [List.getElem?_map] at hu
    rw [Addr.add_mid]
    cases hq : qs[j]? with
    | none => rw [hq] at hu; cases hu
    | some p => rw [hq] at hu; cases hu; exact hc j p hq
  · unfold maxLen; omega
  · omega
  · intro v' w' hO' hgr hnil hat
    obtain ⟨g', cp', rfl, hA⟩ := append_ct hO' hm hgr hnil hat
    exact h g' cp' w' hA
theorem step_append_ct {ops : Array Oper} {oo : Oper} {a : Act} {K : Act → World → Prop} {Q : Exit → Act → World → Prop} {E : Prop} (w : World) (hgd : oo.guard = none) (s x : Operand)
    (ho : oo.op = .call { callee := .builtin .append, args := #[s, x], argTypes := #[86, 86] })
    (base g cp n b off m cx : Nat) (ps qs : List Nat) (hs : a.eval s = .slice (some ⟨g, 0, none⟩) n cp) (hx : a.eval x = .slice (some ⟨b, off, none⟩) m cx) (hn : n = ps.length) (hm : m = qs.length) (hO : PRow w base g cp ps)
    (hc : ∀ j p, qs[j]? = some p → w.cell? ⟨b, off + j, none⟩ = some (ptrV p)) (hlen : ps.length + qs.length ≤ 2 ^ 30) (hbase : base ≤ w.heap.size)
    (h : ∀ g' cp' w', AppC w w' base g n cp ps qs g' cp' → K (a.put oo.dst (.slice (some ⟨g', 0, none⟩) (n + m) cp')) w') : if Region.wanted oo (yielded ops a.tmps) = true then Oper.wp Try.prog oo a w K Q else E := by
  have hw : Region.wanted oo (yielded ops a.tmps) = true := by simp [Region.wanted, hgd]
  rw [if_pos hw]
  subst hn
  obtain ⟨i, hi, hz0, hz1, hz2⟩ := info_parts Try.infoCt
  obtain ⟨v', w', hr, hO', hgr, hnil, hat⟩ := run_append_own_at (P := Try.prog) w base 86 oo.type 48 i _ 1 8 Try.underlying86 hi hz0 hz1 hz2 rfl (by decide) (.slice (some ⟨g, 0, none⟩) ps.length cp) ps.length (ps.map ptrV) hO ⟨b, off, none⟩ m cx (qs.map ptrV) (by simp [hm]) (fun j u hu => by
    rw [List.getElem?_map] at hu
    rw [Addr.add_mid]
    cases hq : qs[j]? with
    | none => rw [hq] at hu; cases hu
    | some p => rw [hq] at hu; cases hu; exact hc j p hq) (one_ptr qs) (by unfold maxLen; omega) (by omega) hbase
  obtain ⟨g', cp', rfl, hA⟩ := append_ct hO' hm hgr hnil hat
  have hfin := h g' cp' w' hA
  unfold Oper.wp
  simp [execOp, ho, resolve, invoke, builtin, hs, hx, hr, Result.andThen]
  exact hfin
/-- What codeTreeOf hands out. -/
def CtP (e : Nd) (ps : List Nat) (w : World) (r : Ending) (w' : World) : Prop := ∃ p q cq, r = .returned (ptrV p) ∧ BoxT w' w.heap.size p e (.slice (some ⟨q, 0, none⟩) ps.length cq) 0 ∧ PRow w' w.heap.size q cq ps ∧ Below w.heap.size w w'
set_option maxHeartbeats 4000000 in
theorem codeTreeOf_core (e : Nd) (b off m cx : Nat) (ps : List Nat) (w : World) (hm : m = ps.length) (hl : ps.length ≤ 1000) (hb : b < w.heap.size) (hc : ∀ j p, ps[j]? = some p → w.cell? ⟨b, off + j, none⟩ = some (ptrV p)) : Calls Try.prog 21 #[e.v, .slice (some ⟨b, off, none⟩) m cx] w (CtP e ps w) := by
  have HC : Hid (m = ps.length ∧ ∀ wx, Below w.heap.size w wx → ∀ j p, ps[j]? = some p → wx.cell? ⟨b, off + j, none⟩ = some (ptrV p)) := ⟨hm, fun wx hx j p hp => by rw [hx.cell (p := ⟨b, off + j, none⟩) hb]; exact hc j p hp⟩
  clear hc hm
  obtain ⟨W0, hW0⟩ : ∃ W0 : World, W0 = w.alloc (Obj.cells #[.int .i64 e.kind, .string e.s, .bool e.hi, .string e.t, .int .u64 e.lo, .int .u64 e.up, .int .i64 e.n] 69) := ⟨_, rfl⟩
  obtain ⟨P0, hP0⟩ : ∃ P0, P0 = w.heap.size := ⟨_, rfl⟩
  have hb0 : Below w.heap.size w W0 := by rw [hW0]; exact (Below.refl _ _).alloc (Nat.le_refl _) _
  have HB0 : Hid (BoxAt W0 P0 69 7 P0 [.int .i64 e.kind, .string e.s, .bool e.hi, .string e.t, .int .u64 e.lo, .int .u64 e.up, .int .i64 e.n]) := by rw [hW0, hP0]; exact boxAt_new w _ (Nat.le_refl _) rfl
  have hSd : (fun w' : World => w'.cell? ⟨P0, 0, none⟩ = some (.int .i64 e.kind) ∧ w'.cell? ⟨P0, 1, none⟩ = some (.string e.s) ∧ w'.cell? ⟨P0, 2, none⟩ = some (.bool e.hi) ∧ w'.cell? ⟨P0, 3, none⟩ = some (.string e.t) ∧ w'.cell? ⟨P0, 4, none⟩ = some (.int .u64 e.lo) ∧ w'.cell? ⟨P0, 5, none⟩ = some (.int .u64 e.up) ∧ w'.cell? ⟨P0, 6, none⟩ = some (.int .i64 e.n)) W0.drew := ⟨HB0.out.cell (j := 0) rfl, HB0.out.cell (j := 1) rfl, HB0.out.cell (j := 2) rfl, HB0.out.cell (j := 3) rfl, HB0.out.cell (j := 4) rfl, HB0.out.cell (j := 5) rfl, HB0.out.cell (j := 6) rfl⟩
  go_enter Try.func21, Try.ntmps21
  go_upto_region 1 with fail
  rw [← hW0, ← hP0]
  clear hW0 hP0
  refine wp_region_T 99 (fun w' : World => w'.cell? ⟨P0, 0, none⟩ = some (.int .i64 e.kind) ∧ w'.cell? ⟨P0, 1, none⟩ = some (.string e.s) ∧ w'.cell? ⟨P0, 2, none⟩ = some (.bool e.hi) ∧ w'.cell? ⟨P0, 3, none⟩ = some (.string e.t) ∧ w'.cell? ⟨P0, 4, none⟩ = some (.int .u64 e.lo) ∧ w'.cell? ⟨P0, 5, none⟩ = some (.int .u64 e.up) ∧ w'.cell? ⟨P0, 6, none⟩ = some (.int .i64 e.n)) (by kernel_rfl) ?_
  refine anyT_takeN (i := 0) (v := ?vt0) rfl (by kernel_rfl) (by kernel_rfl) (by kernel_rfl) (by rfl) (fun _ _ _ h => h) (Or.inl ⟨by rfl, ?yt0⟩) hSd ?_
  case yt0 => (intro wz hSw; obtain ⟨hz0, hz1, hz2, hz3, hz4, hz5, hz6⟩ := hSw; go_simp; (try with_reducible rfl))
  try simp only [Act.put, List.getElem_toArray, List.getElem_cons_zero, List.getElem_cons_succ, List.setIfInBounds_toArray, List.set_cons_zero, List.set_cons_succ]
  refine anyT_takeN (i := 2) (v := ?vt2) rfl (by kernel_rfl) (by kernel_rfl) (by kernel_rfl) (by rfl) (fun _ _ _ h => h) (Or.inl ⟨by rfl, ?yt2⟩) hSd ?_
  case yt2 => (intro wz hSw; obtain ⟨hz0, hz1, hz2, hz3, hz4, hz5, hz6⟩ := hSw; go_simp; (try with_reducible rfl))
  try simp only [Act.put, List.getElem_toArray, List.getElem_cons_zero, List.getElem_cons_succ, List.setIfInBounds_toArray, List.set_cons_zero, List.set_cons_succ]
  obtain ⟨V1, hV1⟩ : ∃ V1 : World, V1 = (W0.alloc (Obj.cells #[] 48)).drew := ⟨_, rfl⟩
  obtain ⟨G1, hG1⟩ : ∃ G1, G1 = W0.heap.size := ⟨_, rfl⟩
  have hbV : Below W0.heap.size W0 V1 := by rw [hV1]; exact ((Below.refl _ _).alloc (Nat.le_refl _) _).drew
  have k1 : Below w.heap.size w V1 := hb0.trans (hbV.mono hb0.size)
  have HV1 : Hid (PRow V1 W0.heap.size G1 0 []) := by
    rw [hV1, hG1]
    have h9 : PRow (W0.alloc (Obj.cells #[] 48)) W0.heap.size W0.heap.size 0 [] := World.ownsRow_lit W0 #[] 0 (Nat.le_refl _) (by decide) (by decide)
    exact h9.chg (S := fun _ => False) (Chg.of_below ((Below.refl _ _).drew)) (fun q => q)
  have hS1 : (fun w' : World => w'.cell? ⟨P0, 0, none⟩ = some (.int .i64 e.kind) ∧ w'.cell? ⟨P0, 1, none⟩ = some (.string e.s) ∧ w'.cell? ⟨P0, 2, none⟩ = some (.bool e.hi) ∧ w'.cell? ⟨P0, 3, none⟩ = some (.string e.t) ∧ w'.cell? ⟨P0, 4, none⟩ = some (.int .u64 e.lo) ∧ w'.cell? ⟨P0, 5, none⟩ = some (.int .u64 e.up) ∧ w'.cell? ⟨P0, 6, none⟩ = some (.int .i64 e.n)) V1 := ⟨by rw [hbV.cell (p := ⟨P0, 0, none⟩) HB0.out.lt.2]; exact HB0.out.cell (j := 0) rfl, by rw [hbV.cell (p := ⟨P0, 1, none⟩) HB0.out.lt.2]; exact HB0.out.cell (j := 1) rfl, by rw [hbV.cell (p := ⟨P0, 2, none⟩) HB0.out.lt.2]; exact HB0.out.cell (j := 2) rfl, by rw [hbV.cell (p := ⟨P0, 3, none⟩) HB0.out.lt.2]; exact HB0.out.cell (j := 3) rfl, by rw [hbV.cell (p := ⟨P0, 4, none⟩) HB0.out.lt.2]; exact HB0.out.cell (j := 4) rfl, by rw [hbV.cell (p := ⟨P0, 5, none⟩) HB0.out.lt.2]; exact HB0.out.cell (j := 5) rfl, by rw [hbV.cell (p := ⟨P0, 6, none⟩) HB0.out.lt.2]; exact HB0.out.cell (j := 6) rfl⟩
  have HBV : Hid (BoxAt V1 P0 69 7 P0 [.int .i64 e.kind, .string e.s, .bool e.hi, .string e.t, .int .u64 e.lo, .int .u64 e.up, .int .i64 e.n] ∧ W0.heap.size ≤ V1.heap.size ∧ w.heap.size ≤ W0.heap.size) := ⟨HB0.out.below hbV, hbV.size, hb0.size⟩
  refine anyT_one (i := 1) (by kernel_rfl) rfl (fun K hK => ?_)
  go_simp
  rw [← hV1, ← hG1]
  clear hV1 hG1
  refine hK.out _ _ (.inr hS1) ?_
  clear hK
  try simp only [Act.put, List.getElem_toArray, List.getElem_cons_zero, List.getElem_cons_succ, List.setIfInBounds_toArray, List.set_cons_zero, List.set_cons_succ]
  refine anyT_one (i := 3) (by kernel_rfl) rfl (fun K hK => ?_)
  refine step_append_ct _ rfl _ _ rfl W0.heap.size G1 0 0 b off m cx [] ps rfl rfl rfl HC.out.1 HV1.out (HC.out.2 V1 k1) (by simp; omega) HBV.out.2.1 ?_
  intro g2 c2 w2 hA2
  have hgr : Below W0.heap.size W0 w2 := by
    have h1 : Chg (fun b => W0.heap.size ≤ b) V1 w2 := Chg.of_grown hA2.grown (fun j hj => by cases hj; exact HV1.out.lt.1)
    exact Chg.below hbV h1 HBV.out.2.1 (fun j hj => hj)
  have HR2 : Hid (PRow w2 W0.heap.size g2 c2 ps ∧ Below W0.heap.size W0 w2) := ⟨hA2.own, hgr⟩
  have hS2 : (fun w' : World => w'.cell? ⟨P0, 0, none⟩ = some (.int .i64 e.kind) ∧ w'.cell? ⟨P0, 1, none⟩ = some (.string e.s) ∧ w'.cell? ⟨P0, 2, none⟩ = some (.bool e.hi) ∧ w'.cell? ⟨P0, 3, none⟩ = some (.string e.t) ∧ w'.cell? ⟨P0, 4, none⟩ = some (.int .u64 e.lo) ∧ w'.cell? ⟨P0, 5, none⟩ = some (.int .u64 e.up) ∧ w'.cell? ⟨P0, 6, none⟩ = some (.int .i64 e.n)) w2 := ⟨by rw [hgr.cell (p := ⟨P0, 0, none⟩) HB0.out.lt.2]; exact HB0.out.cell (j := 0) rfl, by rw [hgr.cell (p := ⟨P0, 1, none⟩) HB0.out.lt.2]; exact HB0.out.cell (j := 1) rfl, by rw [hgr.cell (p := ⟨P0, 2, none⟩) HB0.out.lt.2]; exact HB0.out.cell (j := 2) rfl, by rw [hgr.cell (p := ⟨P0, 3, none⟩) HB0.out.lt.2]; exact HB0.out.cell (j := 3) rfl, by rw [hgr.cell (p := ⟨P0, 4, none⟩) HB0.out.lt.2]; exact HB0.out.cell (j := 4) rfl, by rw [hgr.cell (p := ⟨P0, 5, none⟩) HB0.out.lt.2]; exact HB0.out.cell (j := 5) rfl, by rw [hgr.cell (p := ⟨P0, 6, none⟩) HB0.out.lt.2]; exact HB0.out.cell (j := 6) rfl⟩
  clear hA2 hbV
  refine hK.out _ _ (.inr hS2) ?_
  clear hK
  try simp only [Act.put, List.getElem_toArray, List.getElem_cons_zero, List.getElem_cons_succ, List.setIfInBounds_toArray, List.set_cons_zero, List.set_cons_succ]
  simp only [Nat.zero_add]
  refine anyT_takeN (i := 4) (v := ?vt4) rfl (by kernel_rfl) (by kernel_rfl) (by kernel_rfl) (by rfl) (fun _ _ _ h => h) (Or.inl ⟨by rfl, ?yt4⟩) hS2 ?_
  case yt4 => (intro wz hSw; obtain ⟨hz0, hz1, hz2, hz3, hz4, hz5, hz6⟩ := hSw; go_simp; (try with_reducible rfl))
  try simp only [Act.put, List.getElem_toArray, List.getElem_cons_zero, List.getElem_cons_succ, List.setIfInBounds_toArray, List.set_cons_zero, List.set_cons_succ]
  obtain ⟨V3, hV3⟩ : ∃ V3 : World, V3 = w2.alloc (Obj.cells #[.int .i64 e.kind, .string e.s, .bool e.hi, .string e.t, .int .u64 e.lo, .int .u64 e.up, .int .i64 e.n, .slice (some ⟨g2, 0, none⟩) m c2, .int .i64 0] 89) := ⟨_, rfl⟩
  obtain ⟨G3, hG3⟩ : ∃ G3, G3 = w2.heap.size := ⟨_, rfl⟩
  have hb3 : Below w2.heap.size w2 V3 := by rw [hV3]; exact (Below.refl _ _).alloc (Nat.le_refl _) _
  have HR : Hid (CtP e ps w (.returned (ptrV G3)) V3) := by
    have h1 := HR2.out.2.size
    have h2 := hb0.size
    refine ⟨G3, g2, c2, rfl, ?_, ?_, (hb0.trans (HR2.out.2.mono h2)).trans (hb3.mono (by omega))⟩
    · rw [hV3, hG3, ← HC.out.1]; exact boxAt_new w2 _ (by omega) rfl
    · have h9 : PRow V3 W0.heap.size g2 c2 ps := HR2.out.1.chg (S := fun _ => False) (Chg.of_below hb3) (fun q => q)
      refine ⟨h9.1, ?_⟩
      rcases h9.2 with hn | ⟨g', cap', cur, hv, h3, rest⟩
      · exact .inl hn
      · exact .inr ⟨g', cap', cur, hv, Nat.le_trans h2 h3, rest⟩
  have hS3 : (fun w' : World => w'.cell? ⟨P0, 0, none⟩ = some (.int .i64 e.kind) ∧ w'.cell? ⟨P0, 1, none⟩ = some (.string e.s) ∧ w'.cell? ⟨P0, 2, none⟩ = some (.bool e.hi) ∧ w'.cell? ⟨P0, 3, none⟩ = some (.string e.t) ∧ w'.cell? ⟨P0, 4, none⟩ = some (.int .u64 e.lo) ∧ w'.cell? ⟨P0, 5, none⟩ = some (.int .u64 e.up) ∧ w'.cell? ⟨P0, 6, none⟩ = some (.int .i64 e.n)) V3 := ⟨by rw [hb3.cell (p := ⟨P0, 0, none⟩) (by show P0 < _; have := HB0.out.lt.2; have := HR2.out.2.size; omega)]; exact hS2.1, by rw [hb3.cell (p := ⟨P0, 1, none⟩) (by show P0 < _; have := HB0.out.lt.2; have := HR2.out.2.size; omega)]; exact hS2.2.1, by rw [hb3.cell (p := ⟨P0, 2, none⟩) (by show P0 < _; have := HB0.out.lt.2; have := HR2.out.2.size; omega)]; exact hS2.2.2.1, by rw [hb3.cell (p := ⟨P0, 3, none⟩) (by show P0 < _; have := HB0.out.lt.2; have := HR2.out.2.size; omega)]; exact hS2.2.2.2.1, by rw [hb3.cell (p := ⟨P0, 4, none⟩) (by show P0 < _; have := HB0.out.lt.2; have := HR2.out.2.size; omega)]; exact hS2.2.2.2.2.1, by rw [hb3.cell (p := ⟨P0, 5, none⟩) (by show P0 < _; have := HB0.out.lt.2; have := HR2.out.2.size; omega)]; exact hS2.2.2.2.2.2.1, by rw [hb3.cell (p := ⟨P0, 6, none⟩) (by show P0 < _; have := HB0.out.lt.2; have := HR2.out.2.size; omega)]; exact hS2.2.2.2.2.2.2⟩
  refine anyT_one (i := 5) (by kernel_rfl) rfl (fun K hK => ?_)
  go_simp
  rw [← hV3, ← hG3]
  clear hV3 hG3
  refine hK.out _ _ (.inr hS3) ?_
  clear hK
  try simp only [Act.put, List.getElem_toArray, List.getElem_cons_zero, List.getElem_cons_succ, List.setIfInBounds_toArray, List.set_cons_zero, List.set_cons_succ]
  refine anyT_one (i := 6) (by kernel_rfl) rfl (fun K hK => ?_)
  go_simp
  refine hK.out _ _ (.inr hS3) ?_
  clear hK
  try simp only [Act.put, List.getElem_toArray, List.getElem_cons_zero, List.getElem_cons_succ, List.setIfInBounds_toArray, List.set_cons_zero, List.set_cons_succ]
  refine anyT_done (by kernel_rfl) ?_
  go_wp2_with fail
  go_ret
  exact HR.out
end Go.Proofs.Ytkbmdkgfgfbilaa

/-
  Code trees that wait for their fold.
-/
namespace Go.Proofs.Ytkbmdkgfgfbilaa
open Go.ChangeShapes Go.WideShapes Go.ChangeAt Go.RowKit Go.Deep
set_option linter.unusedVariables false
set_option linter.unusedSimpArgs false
set_option maxRecDepth 100000

/-- A tree in blocks lo .. hi, none of them of E. -/
def TrX (w : World) (E : Nat → Prop) : CT → Nat → Nat → Nat → Prop
  | .leaf n, lo, hi, p => arity n.kind = 0 ∧ ∃ v k, BoxT w lo p n v k ∧ p < hi ∧ ¬ E p
  | .chain n a b, lo, hi, p => n.kind = 14 ∧ ∃ m m2 pa pb q cq k, TrX w E a lo m pa ∧ TrX w E b m m2 pb ∧ lo ≤ m ∧ m ≤ m2 ∧ BoxT w m2 p n (.slice (some ⟨q, 0, none⟩) 2 cq) k ∧ PRow w m2 q cq [pa, pb] ∧ p < hi ∧ q < hi ∧ ¬ E p ∧ ¬ E q
  | .inter n a b, lo, hi, p => n.kind = 15 ∧ ∃ m m2 pa pb q cq k, TrX w E a lo m pa ∧ TrX w E b m m2 pb ∧ lo ≤ m ∧ m ≤ m2 ∧ BoxT w m2 p n (.slice (some ⟨q, 0, none⟩) 2 cq) k ∧ PRow w m2 q cq [pa, pb] ∧ p < hi ∧ q < hi ∧ ¬ E p ∧ ¬ E q
  | .cond n a b c, lo, hi, p => n.kind = 16 ∧ ∃ m m2 m3 pa pb pc q cq k, TrX w E a lo m pa ∧ TrX w E b m m2 pb ∧ TrX w E c m2 m3 pc ∧ lo ≤ m ∧ m ≤ m2 ∧ m2 ≤ m3 ∧ BoxT w m3 p n (.slice (some ⟨q, 0, none⟩) 3 cq) k ∧ PRow w m3 q cq [pa, pb, pc] ∧ p < hi ∧ q < hi ∧ ¬ E p ∧ ¬ E q
theorem TrX.tr {w : World} {E : Nat → Prop} : ∀ {t : CT} {lo hi p : Nat}, TrX w E t lo hi p → TrAt w t lo hi p none := by
  intro t
  induction t with
  | leaf n => intro lo hi p h; obtain ⟨h0, v, k, hb, hp, _⟩ := h; exact ⟨h0, v, k, hb, hp⟩
  | chain n a b ha hb' => intro lo hi p h; obtain ⟨h0, m, m2, pa, pb, q, cq, k, h1, h2, l1, l2, hb, hr, hp, hq, _⟩ := h; exact ⟨h0, m, m2, pa, pb, q, cq, k, ha h1, hb' h2, l1, l2, hb, hr, hp, hq⟩
  | inter n a b ha hb' => intro lo hi p h; obtain ⟨h0, m, m2, pa, pb, q, cq, k, h1, h2, l1, l2, hb, hr, hp, hq, _⟩ := h; exact ⟨h0, m, m2, pa, pb, q, cq, k, ha h1, hb' h2, l1, l2, hb, hr, hp, hq⟩
  | cond n a b c ha hb' hc' => intro lo hi p h; obtain ⟨h0, m, m2, m3, pa, pb, pc, q, cq, k, h1, h2, h3, l1, l2, l3, hb, hr, hp, hq, _⟩ := h; exact ⟨h0, m, m2, m3, pa, pb, pc, q, cq, k, ha h1, hb' h2, hc' h3, l1, l2, l3, hb, hr, hp, hq, fun f0 q => by cases q⟩
theorem TrX.move {S E E' : Nat → Prop} {w w' : World} (hc : Chg S w w') (hS : ∀ b, b < w.heap.size → ¬ E b → ¬ S b ∧ ¬ E' b) : ∀ {t : CT} {lo hi p : Nat}, TrX w E t lo hi p → TrX w' E' t lo hi p := by
  intro t
  induction t with
  | leaf n => intro lo hi p h; obtain ⟨h0, v, k, hb, hp, he⟩ := h; have := hS p (BoxAt.lt hb).2 he; exact ⟨h0, v, k, BoxAt.chg hb hc this.1, hp, this.2⟩
  | chain n a b ha hb' =>
    intro lo hi p h
    obtain ⟨h0, m, m2, pa, pb, q, cq, k, h1, h2, l1, l2, hb, hr, hp, hq, he, he'⟩ := h
    have g1 := hS p (BoxAt.lt hb).2 he
    have g2 := hS q hr.lt.2 he'
    exact ⟨h0, m, m2, pa, pb, q, cq, k, ha h1, hb' h2, l1, l2, BoxAt.chg hb hc g1.1, hr.chg hc g2.1, hp, hq, g1.2, g2.2⟩
  | inter n a b ha hb' =>
    intro lo hi p h
    obtain ⟨h0, m, m2, pa, pb, q, cq, k, h1, h2, l1, l2, hb, hr, hp, hq, he, he'⟩ := h
    have g1 := hS p (BoxAt.lt hb).2 he
    have g2 := hS q hr.lt.2 he'
    exact ⟨h0, m, m2, pa, pb, q, cq, k, ha h1, hb' h2, l1, l2, BoxAt.chg hb hc g1.1, hr.chg hc g2.1, hp, hq, g1.2, g2.2⟩
  | cond n a b c ha hb' hc' =>
    intro lo hi p h
    obtain ⟨h0, m, m2, m3, pa, pb, pc, q, cq, k, h1, h2, h3, l1, l2, l3, hb, hr, hp, hq, he, he'⟩ := h
    have g1 := hS p (BoxAt.lt hb).2 he
    have g2 := hS q hr.lt.2 he'
    exact ⟨h0, m, m2, m3, pa, pb, pc, q, cq, k, ha h1, hb' h2, hc' h3, l1, l2, l3, BoxAt.chg hb hc g1.1, hr.chg hc g2.1, hp, hq, g1.2, g2.2⟩
theorem box_low {w : World} {base base' p : Nat} {n : Nd} {v : Value} {k : Int} (h : BoxT w base p n v k) (hb : base' ≤ base) : BoxT w base' p n v k := by
  refine ⟨h.1, ?_⟩
  rcases h.2 with hn | ⟨g', cap', cur, hv, h1, rest⟩
  · exact .inl hn
  · exact .inr ⟨g', cap', cur, hv, Nat.le_trans hb h1, rest⟩
theorem trx_low {w : World} {E : Nat → Prop} : ∀ {t : CT} {lo lo' hi p : Nat}, TrX w E t lo hi p → lo' ≤ lo → TrX w E t lo' hi p := by
  intro t
  induction t with
  | leaf n => intro lo lo' hi p h hl; obtain ⟨h0, v, k, hb, hp, he⟩ := h; exact ⟨h0, v, k, box_low hb hl, hp, he⟩
  | chain n a b ha _ => intro lo lo' hi p h hl; obtain ⟨h0, m1, m2, pa, pb, q, cq, k, h1, h2, l1, l2, rest⟩ := h; exact ⟨h0, m1, m2, pa, pb, q, cq, k, ha h1 hl, h2, Nat.le_trans hl l1, l2, rest⟩
  | inter n a b ha _ => intro lo lo' hi p h hl; obtain ⟨h0, m1, m2, pa, pb, q, cq, k, h1, h2, l1, l2, rest⟩ := h; exact ⟨h0, m1, m2, pa, pb, q, cq, k, ha h1 hl, h2, Nat.le_trans hl l1, l2, rest⟩
  | cond n a b c ha _ _ => intro lo lo' hi p h hl; obtain ⟨h0, m1, m2, m3, pa, pb, pc, q, cq, k, h1, h2, h3, l1, rest⟩ := h; exact ⟨h0, m1, m2, m3, pa, pb, pc, q, cq, k, ha h1 hl, h2, h3, Nat.le_trans hl l1, rest⟩
/-- Trees one behind the other. -/
def Seg (w : World) (E : Nat → Prop) : Nat → List Nat → List CT → Nat → Prop
  | lo, [], [], hi => lo ≤ hi
  | lo, p :: ps, t :: ts, hi => ∃ m, TrX w E t lo m p ∧ lo ≤ m ∧ Seg w E m ps ts hi
  | _, _, _, _ => False
theorem Seg.len {w : World} {E : Nat → Prop} : ∀ {ps : List Nat} {ts : List CT} {lo hi : Nat}, Seg w E lo ps ts hi → ps.length = ts.length
  | [], [], _, _, _ => rfl
  | p :: ps, t :: ts, _, _, h => by obtain ⟨m, _, _, h⟩ := h; simp [Seg.len h]
  | [], _ :: _, _, _, h => h.elim
  | _ :: _, [], _, _, h => h.elim
theorem Seg.le {w : World} {E : Nat → Prop} : ∀ {ps : List Nat} {ts : List CT} {lo hi : Nat}, Seg w E lo ps ts hi → lo ≤ hi
  | [], [], _, _, h => h
  | p :: ps, t :: ts, _, _, h => by obtain ⟨m, _, h1, h⟩ := h; exact Nat.le_trans h1 (Seg.le h)
  | [], _ :: _, _, _, h => h.elim
  | _ :: _, [], _, _, h => h.elim
theorem Seg.move {S E E' : Nat → Prop} {w w' : World} (hc : Chg S w w') (hS : ∀ b, b < w.heap.size → ¬ E b → ¬ S b ∧ ¬ E' b) : ∀ {ps : List Nat} {ts : List CT} {lo hi : Nat}, Seg w E lo ps ts hi → Seg w' E' lo ps ts hi
  | [], [], _, _, h => h
  | p :: ps, t :: ts, _, _, h => by obtain ⟨m, h0, h1, h⟩ := h; exact ⟨m, h0.move hc hS, h1, Seg.move hc hS h⟩
  | [], _ :: _, _, _, h => h.elim
  | _ :: _, [], _, _, h => h.elim
theorem Seg.high {w : World} {E : Nat → Prop} : ∀ {ps : List Nat} {ts : List CT} {lo hi hi' : Nat}, Seg w E lo ps ts hi → hi ≤ hi' → Seg w E lo ps ts hi'
  | [], [], _, _, _, h, h' => Nat.le_trans h h'
  | p :: ps, t :: ts, _, _, _, h, h' => by obtain ⟨m, h0, h1, h⟩ := h; exact ⟨m, h0, h1, Seg.high h h'⟩
  | [], _ :: _, _, _, _, h, _ => h.elim
  | _ :: _, [], _, _, _, h, _ => h.elim
theorem Seg.split {w : World} {E : Nat → Prop} : ∀ (k : Nat) {ps : List Nat} {ts : List CT} {lo hi : Nat}, Seg w E lo ps ts hi → ∃ m, Seg w E lo (ps.take k) (ts.take k) m ∧ Seg w E m (ps.drop k) (ts.drop k) hi
  | 0, ps, ts, lo, hi, h => ⟨lo, Nat.le_refl _, h⟩
  | k + 1, [], [], lo, hi, h => ⟨lo, Nat.le_refl _, h⟩
  | k + 1, p :: ps, t :: ts, lo, hi, h => by
    obtain ⟨m, h0, h1, h⟩ := h
    obtain ⟨m2, g1, g2⟩ := Seg.split k h
    exact ⟨m2, ⟨m, h0, h1, g1⟩, g2⟩
  | _ + 1, [], _ :: _, _, _, h => h.elim
  | _ + 1, _ :: _, [], _, _, h => h.elim
theorem Seg.snoc {w : World} {E : Nat → Prop} {p : Nat} {t : CT} {m hi : Nat} (hT : TrX w E t m hi p) (hm : m ≤ hi) : ∀ {ps : List Nat} {ts : List CT} {lo : Nat}, Seg w E lo ps ts m → Seg w E lo (ps ++ [p]) (ts ++ [t]) hi
  | [], [], lo, h => by
    exact ⟨hi, trx_low hT h, Nat.le_trans h hm, Nat.le_refl _⟩
  | p' :: ps, t' :: ts, _, h => by obtain ⟨m', h0, h1, h⟩ := h; exact ⟨m', h0, h1, Seg.snoc hT hm h⟩
  | [], _ :: _, _, h => h.elim
  | _ :: _, [], _, h => h.elim
theorem prow_low {w : World} {base base' q cq : Nat} {ps : List Nat} (h : PRow w base q cq ps) (hb : base' ≤ base) : PRow w base' q cq ps := by
  refine ⟨h.1, ?_⟩
  rcases h.2 with hn | ⟨g', cap', cur, hv, h1, rest⟩
  · exact .inl hn
  · exact .inr ⟨g', cap', cur, hv, Nat.le_trans hb h1, rest⟩
theorem PRow.take {w : World} {base g cp : Nat} {ps : List Nat} (h : PRow w base g cp ps) {k : Nat} (hk : k ≤ ps.length) : PRow w base g cp (ps.take k) := by
  rcases h.2 with ⟨h0, _⟩ | ⟨g', cap', cur, hv, h1, h2, h3, h4, h5, h6⟩
  · cases h0
  · simp only [Value.slice.injEq, Option.some.injEq, Addr.mk.injEq, and_true, true_and] at hv
    obtain ⟨rfl, rfl⟩ := hv
    have hl : (ps.take k).length = k := by rw [List.length_take]; omega
    refine ⟨by rw [List.length_map, Nat.mul_one], .inr ⟨g, cp, cur, rfl, h1, h2, by omega, h4, h5, ?_⟩⟩
    rw [hl, List.map_take, ← h6, List.take_take]
    congr 1
    omega
/-- The tree that a node makes of those that wait. -/
theorem seg_tree {w : World} {E : Nat → Prop} {e : Nd} {ts : List CT} {ps : List Nat} {lo m hi p q cq : Nat} {k : Int} (hs : Seg w E lo ps ts m) (hl : ts.length = arity e.kind) (hb : BoxT w m p e (.slice (some ⟨q, 0, none⟩) ps.length cq) k) (hr : PRow w m q cq ps) (hp : p < hi) (hq : q < hi) (he : ¬ E p) (he' : ¬ E q) : TrX w E (ctV e ts) lo hi p := by
  have hlen := hs.len
  by_cases h14 : e.kind = 14
  · have ha : arity e.kind = 2 := by unfold arity; rw [if_pos (.inl h14)]
    rw [ha] at hl
    match ts, ps, hl, hlen, hs, hb, hr with
    | [a, b], [pa, pb], _, _, hs, hb, hr =>
      obtain ⟨m1, t1, l1, m2, t2, l2, l3⟩ := hs
      have e1 : ctV e [a, b] = .chain e a b := if_pos h14
      rw [e1]
      have l3' : m2 ≤ m := l3
      exact ⟨h14, m1, m2, pa, pb, q, cq, k, t1, t2, l1, l2, box_low hb l3', prow_low hr l3', hp, hq, he, he'⟩
  · by_cases h15 : e.kind = 15
    · have ha : arity e.kind = 2 := by unfold arity; rw [if_pos (.inr h15)]
      rw [ha] at hl
      match ts, ps, hl, hlen, hs, hb, hr with
      | [a, b], [pa, pb], _, _, hs, hb, hr =>
        obtain ⟨m1, t1, l1, m2, t2, l2, l3⟩ := hs
        have e1 : ctV e [a, b] = .inter e a b := if_neg h14
        rw [e1]
        have l3' : m2 ≤ m := l3
        exact ⟨h15, m1, m2, pa, pb, q, cq, k, t1, t2, l1, l2, box_low hb l3', prow_low hr l3', hp, hq, he, he'⟩
    · by_cases h16 : e.kind = 16
      · have ha : arity e.kind = 3 := by unfold arity; rw [if_neg (by omega), if_pos h16]
        rw [ha] at hl
        match ts, ps, hl, hlen, hs, hb, hr with
        | [a, b, c], [pa, pb, pc], _, _, hs, hb, hr =>
          obtain ⟨m1, t1, l1, m2, t2, l2, m3, t3, l3, l4⟩ := hs
          have l4' : m3 ≤ m := l4
          exact ⟨h16, m1, m2, m3, pa, pb, pc, q, cq, k, t1, t2, t3, l1, l2, l3, box_low hb l4', prow_low hr l4', hp, hq, he, he'⟩
      · have ha : arity e.kind = 0 := by unfold arity; rw [if_neg (by omega), if_neg h16]
        rw [ha] at hl
        obtain rfl := List.length_eq_zero_iff.1 hl
        exact ⟨ha, _, k, box_low hb hs.le, hp, he⟩
theorem foldV_next {T : Type} (V : Nd → List T → T) {xs : List Nd} {j : Nat} {ns : List T} {e : Nd} (h : foldV V [] (xs.take j) = some ns) (he : xs[j]? = some e) (hl : arity e.kind ≤ ns.length) : foldV V [] (xs.take (j + 1)) = some (ns.take (ns.length - arity e.kind) ++ [V e (ns.drop (ns.length - arity e.kind))]) := by
  rw [List.take_add_one, he, foldV_append, h]
  simp only [Option.toList, Option.bind_some, foldV, stepV]
  rw [if_neg (by omega)]
  rfl
theorem foldV_stop {T : Type} (V : Nd → List T → T) {xs : List Nd} {j : Nat} {ns : List T} {e : Nd} (h : foldV V [] (xs.take j) = some ns) (he : xs[j]? = some e) (hl : ns.length < arity e.kind) : foldV V [] xs = none := by
  have hj := (List.getElem?_eq_some_iff.1 he).1
  have : xs = xs.take j ++ e :: xs.drop (j + 1) := by
    conv => lhs; rw [← List.take_append_drop j xs, List.drop_eq_getElem_cons hj]
    rw [show xs[j] = e from Option.some.inj ((List.getElem?_eq_getElem hj).symm.trans he)]
  rw [this, foldV_append, h]
  simp only [Option.bind_some, foldV, stepV]
  rw [if_pos hl]
  rfl
/-- The fold, j nodes in. -/
structure FcJ (w : World) (xs : List Nd) (j g cp : Nat) (ps : List Nat) (ts : List CT) (wr : World) : Prop where
  fold : foldV ctV [] (xs.take j) = some ts
  own : PRow wr w.heap.size g cp ps
  seg : Seg wr (fun b => b = g) w.heap.size ps ts wr.heap.size
  below : Below w.heap.size w wr
theorem FcJ.move {w : World} {xs : List Nd} {j g cp : Nat} {ps : List Nat} {ts : List CT} {wr w' : World} (h : FcJ w xs j g cp ps ts wr) (hb : Below wr.heap.size wr w') : FcJ w xs j g cp ps ts w' :=
  ⟨h.fold, h.own.chg (S := fun _ => False) (Chg.of_below hb) (fun q => q), (h.seg.move (S := fun _ => False) (Chg.of_below hb) (fun b _ hb => ⟨fun q => q, hb⟩)).high hb.size, h.below.trans (hb.mono h.below.size)⟩
/-- A tree made of the last ones, pushed. -/
theorem FcJ.push {w X w' : World} {xs : List Nd} {j g cp g' cp' fr p q cq : Nat} {ps : List Nat} {ts : List CT} {e : Nd} {B : Nat} (h : FcJ w xs j g cp ps ts X) (hB : Below B X X) (hseg : ∃ m, Seg X (fun b => b = g) w.heap.size (ps.take fr) (ts.take fr) m ∧ m ≤ X.heap.size ∧ TrX X (fun b => b = g) (ctV e (ts.drop fr)) m X.heap.size p) (hY : foldV ctV [] (xs.take (j + 1)) = some (ts.take fr ++ [ctV e (ts.drop fr)])) (hA : AppC (X.alloc (Obj.cells #[ptrV p] 48)) w' w.heap.size g fr cp (ps.take fr) [p] g' cp') : FcJ w xs (j + 1) g' cp' (ps.take fr ++ [p]) (ts.take fr ++ [ctV e (ts.drop fr)]) w' := by
  have hbX : Below X.heap.size X (X.alloc (Obj.cells #[ptrV p] 48)) := (Below.refl _ _).alloc (Nat.le_refl _) _
  have hsX : (X.alloc (Obj.cells #[ptrV p] 48)).heap.size = X.heap.size + 1 := by simp
  have hgl := h.own.lt
  have hC : Chg (fun k => k = g) (X.alloc (Obj.cells #[ptrV p] 48)) w' := Chg.of_grown hA.grown (fun k hk => by cases hk; rfl)
  have hC2 : Chg (fun k => k = g) X w' := (Chg.of_below hbX).trans hC
  obtain ⟨m, s1, hm, t1⟩ := hseg
  have hmv : ∀ b, b < X.heap.size → ¬ (b = g) → ¬ (b = g) ∧ ¬ (b = g') := fun b hb hn => ⟨hn, by
    rcases hA.at_ with q | q
    · rw [q]; exact hn
    · rw [q, hsX]; omega⟩
  refine ⟨hY, hA.own, ?_, ?_⟩
  · have g1 := Seg.snoc t1 hm s1
    exact (g1.move hC2 hmv).high hC2.size
  · exact Chg.below h.below hC2 h.below.size (fun k hk => by omega)
end Go.Proofs.Ytkbmdkgfgfbilaa

