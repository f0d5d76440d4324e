import Derived.Deep.RegionWith
import Derived.Test.YtkbmdkgfgfbilaaPkAM
import Derived.Test.YtkbmdkgfgfbilaaPkAF
/-
  Code with marks: markCode, heldCode, eqCode.
-/
namespace Go.Proofs.Ytkbmdkgfgfbilaa
open Go.ChangeShapes Go.WideShapes Go.ChangeAt Go.RowKit Go.Deep
set_option linter.unusedVariables false
set_option linter.unusedSimpArgs false
set_option maxRecDepth 100000

/-- The blocks that code lies in. -/
def blkOf (cv mv : Value) (bs : List Bk) (k : Nat) : Prop := cv.ownBlock = some k ∨ mv.ownBlock = some k ∨ ∃ x ∈ bs, x.v.ownBlock = some k
/-- Code in memory, its rows of the base's own. -/
structure CdV (w : World) (base : Nat) (cv mv : Value) (cnt : Int) (X : List (List Ix)) (M : List Ix) (bs : List Bk) : Prop where
  row : RowB w base cv bs
  each : Eac w base bs
  view : bs.map Bk.vw = X.map viewB
  main : RowX w base mv (absG 0 0 M)
  cnt : cnt = (cntL M : Nat)
theorem CdU.v {w0 w : World} {cv mv : Value} {cnt : Int} {X : List (List Ix)} {M : List Ix} {bs : List Bk} (h : CdU w0 w cv mv cnt X M bs) : CdV w w0.heap.size cv mv cnt X M bs := ⟨h.conds.row, h.conds.each, h.conds.view, h.main, h.cnt⟩
theorem CdV.len {w : World} {base : Nat} {cv mv : Value} {cnt : Int} {X : List (List Ix)} {M : List Ix} {bs : List Bk} (h : CdV w base cv mv cnt X M bs) : bs.length = X.length := by
  have := congrArg List.length h.view
  simpa using this
theorem CdV.blk {w : World} {base : Nat} {cv mv : Value} {cnt : Int} {X : List (List Ix)} {M : List Ix} {bs : List Bk} (h : CdV w base cv mv cnt X M bs) {k : Nat} (hk : blkOf cv mv bs k) : base ≤ k ∧ k < w.heap.size := by
  rcases hk with q | q | ⟨x, hx, q⟩
  · exact h.row.blk q
  · exact h.main.blk q
  · exact (h.each x hx).blk q
/-- Code beside what has turned. -/
theorem CdV.chg {S : Nat → Prop} {w w' : World} {base : Nat} {cv mv : Value} {cnt : Int} {X : List (List Ix)} {M : List Ix} {bs : List Bk} (h : CdV w base cv mv cnt X M bs) (hc : Chg S w w') (hn : ∀ k, blkOf cv mv bs k → ¬ S k) : CdV w' base cv mv cnt X M bs :=
  ⟨h.row.chg hc (fun k hk => hn k (.inl hk)), fun x hx => (h.each x hx).chg hc (fun k hk => hn k (.inr (.inr ⟨x, hx, hk⟩))), h.view, h.main.chg hc (fun k hk => hn k (.inr (.inl hk))), h.cnt⟩
theorem CdV.below {w w' : World} {base : Nat} {cv mv : Value} {cnt : Int} {X : List (List Ix)} {M : List Ix} {bs : List Bk} (h : CdV w base cv mv cnt X M bs) (hb : Below w.heap.size w w') : CdV w' base cv mv cnt X M bs := h.chg (S := fun _ => False) (Chg.of_below hb) (fun _ _ q => q)
theorem CdV.inB {w : World} {base : Nat} {cv mv : Value} {cnt : Int} {X : List (List Ix)} {M : List Ix} {bs : List Bk} (h : CdV w base cv mv cnt X M bs) : InBks w cv bs := by
  have hr := h.row
  rcases hr.cases with ⟨rfl, rfl⟩ | ⟨g, cp, rfl, _, h2, h3, h4⟩
  · exact .inl ⟨_, _, rfl, rfl⟩
  · refine .inr ⟨g, 0, cp, rfl, fun i x hx => ?_, h2, h3, h4⟩
    have := hr.cell hx
    rw [Nat.zero_add]
    exact ⟨this.1, this.2, (h.each x (List.mem_of_getElem? hx)).in⟩
theorem eqCode_v {w : World} {base base' : Nat} {cv mv cv' mv' : Value} {cnt cnt' : Int} {X : List (List Ix)} {M : List Ix} {bs bs' : List Bk} (h : CdV w base cv mv cnt X M bs) (h' : CdV w base' cv' mv' cnt' X M bs') :
    Calls Try.prog 8 #[.agg #[cv, mv, .int .i64 cnt], .agg #[cv', mv', .int .i64 cnt']] w fun e w' => e = .returned (.bool true) ∧ Below w.heap.size w w' :=
  eqCode_any cv cv' bs bs' ⟨mv, cnt, absG 0 0 M⟩ ⟨mv', cnt', absG 0 0 M⟩ w h.inB h'.inB (by rw [h.view, h'.view]) h.main.in h'.main.in (by show (cnt, _) = (cnt', _); rw [h.cnt, h'.cnt])
/-- Code that is marked from 'k' on. -/
structure CdM (w : World) (base : Nat) (cv mv : Value) (fs : List Bk) (R : List Ix) (k : Int) : Prop where
  row : RowB w base cv fs
  each : Eac w base fs
  main : RowX w base mv R
  mb : markedB k fs
  mx : markedX (k + mkLen fs) R R.length
theorem CdM.below {w w' : World} {base : Nat} {cv mv : Value} {fs : List Bk} {R : List Ix} {k : Int} (h : CdM w base cv mv fs R k) (hb : Below w.heap.size w w') : CdM w' base cv mv fs R k := ⟨h.row.below hb, h.each.below hb, h.main.below hb, h.mb, h.mx⟩
/-- How long code may be. -/
structure CdL (bs : List Bk) (R : List Ix) : Prop where
  tot : mkLen bs ≤ 2 ^ 28
  each : ∀ x ∈ bs, x.l.length ≤ 1048576
  main : R.length ≤ 1048576
def McP (base : Nat) (cv mv : Value) (bs : List Bk) (N : List Ix) (k : Int) (w : World) (e : Ending) (w' : World) : Prop :=
  ∃ fs R, e = .returned (.int .i64 (k + mkLen bs + N.length * 11)) ∧ CdM w' base cv mv fs R k ∧ fs.map shp = bs.map shp ∧ R.length = N.length ∧ Chg (blkOf cv mv bs) w w'
set_option maxHeartbeats 2000000 in
theorem markCode_own {w : World} {base : Nat} {cv mv : Value} {cnt : Int} {X : List (List Ix)} {M : List Ix} {bs : List Bk} (h : CdV w base cv mv cnt X M bs) (hA : Apt bs mv) (k : Int) (h0 : 0 < k) (h1 : k ≤ 2 ^ 28) (hL : CdL bs (absG 0 0 M)) :
    Calls Try.prog 11 #[.agg #[cv, mv, .int .i64 cnt], .int .i64 k] w (McP base cv mv bs (absG 0 0 M) k w) := by
  obtain ⟨ca, cc, hcv⟩ := h.row.slice
  obtain ⟨ma, mc, hmv⟩ := h.main.slice
  obtain ⟨cn, hcn⟩ : ∃ cn, cn = bs.length := ⟨_, rfl⟩
  obtain ⟨mn, hmn⟩ : ∃ mn, mn = (absG 0 0 M).length := ⟨_, rfl⟩
  rw [← hcn] at hcv
  rw [← hmn] at hmv
  subst hcv hmv
  clear hcn
  obtain ⟨W0, hW0⟩ : ∃ W0 : World, W0 = w.alloc (Obj.cells #[.slice ca cn cc, .slice ma mn mc, .int .i64 cnt] 31) := ⟨_, rfl⟩
  have hb0 : Below w.heap.size w W0 := by rw [hW0]; exact (Below.refl _ _).alloc (Nat.le_refl _) _
  have HB0 : Hid (BoxAt W0 w.heap.size 31 3 w.heap.size [.slice ca cn cc, .slice ma mn mc, .int .i64 cnt]) := by rw [hW0]; exact boxAt_new w _ (Nat.le_refl _) rfl
  have HU : Hid (CdV W0 base (.slice ca cn cc) (.slice ma mn mc) cnt X M bs ∧ CdV w base (.slice ca cn cc) (.slice ma mn mc) cnt X M bs ∧ Apt bs (.slice ma mn mc) ∧ CdL bs (absG 0 0 M) ∧ mn = (absG 0 0 M).length) := ⟨h.below hb0, h, hA, hL, hmn⟩
  have hpw : pwV (bs.map Bk.v) := List.pairwise_map.2 hA.pw
  have HC : Hid (Calls Try.prog 29 #[.slice ca cn cc, .int .i64 k] W0 (MbP base (.slice ca cn cc) bs k W0)) := markBlockS_own _ _ bs k W0 HU.out.1.row HU.out.1.each hpw h0 h1 hL.tot hL.each
  have hkl : k + (mkLen bs : Int) ≤ 2 ^ 29 := by have := hL.tot; omega
  have hml : (absG 0 0 M).length ≤ 1048576 := hL.main
  have q0 := HB0.out.cell (j := 0) rfl
  clear h hA hL hpw hmn
  obtain ⟨tl, htl⟩ : ∃ tl, tl = mkLen bs := ⟨_, rfl⟩
  have HTL : Hid (tl = mkLen bs) := htl
  rw [← htl] at hkl
  clear htl
  go_enter Try.func11, Try.ntmps11
  go_upto_region 1 with fail
  rw [← hW0]
  clear hW0
  go_wp2_with fail
  refine HC.out.mono ?_
  rintro e w1 ⟨fs, rfl, hR1, hE1, hsh, hmk, hch⟩
  rw [← HTL.out]
  have hoff : ∀ j, MkS (.slice ca cn cc) (bs.map Bk.v) j → blkOf (.slice ca cn cc) (.slice ma mn mc) bs j := fun j hj => by
    rcases hj with q | ⟨v, hv, q⟩
    · exact .inl q
    · obtain ⟨x, hx, rfl⟩ := List.mem_map.1 hv
      exact .inr (.inr ⟨x, hx, q⟩)
  have hnb : ¬ MkS (.slice ca cn cc) (bs.map Bk.v) w.heap.size := fun q => by have := (HU.out.2.1.blk (hoff _ q)).2; omega
  have HB1 : Hid (BoxAt w1 w.heap.size 31 3 w.heap.size [.slice ca cn cc, .slice ma mn mc, .int .i64 cnt]) := HB0.out.chg hch hnb
  have hm1 : RowX w1 base (.slice ma mn mc) (absG 0 0 M) := HU.out.1.main.chg hch (fun j hj q => by
    rcases q with q | ⟨v, hv, q⟩
    · exact row_apart HU.out.1.main HU.out.1.row j hj q
    · obtain ⟨x, hx, rfl⟩ := List.mem_map.1 hv
      exact HU.out.2.2.1.main x hx (q.trans hj.symm))
  have H1 : Hid (RowB w1 base (.slice ca cn cc) fs ∧ Eac w1 base fs ∧ fs.map shp = bs.map shp ∧ markedB k fs ∧ Chg (blkOf (.slice ca cn cc) (.slice ma mn mc) bs) w w1) := ⟨hR1, hE1, hsh, hmk, (Chg.of_below hb0).trans (hch.mono hoff)⟩
  have HC2 : Hid (Calls Try.prog 30 #[.agg #[.slice ma mn mc, .int .i64 cnt], .int .i64 (k + (tl : Int))] w1 fun e w' =>
      ∃ R', e = .returned (.int .i64 (k + (tl : Int) + (mn : Int) * 11)) ∧ RowX w' base (.slice ma mn mc) R' ∧ R'.length = (absG 0 0 M).length ∧ markedX (k + (tl : Int)) R' R'.length ∧ w1.grownBy w' (Value.slice ma mn mc).ownBlock) := by
    rw [HU.out.2.2.2.2]
    have h9 := markBlock_own base (.slice ma mn mc) cnt (absG 0 0 M) (k + (tl : Int)) w1 hm1 (by omega) (by omega) hml
    rw [HU.out.2.2.2.2] at h9
    exact h9
  have HM1 : Hid (RowX w1 base (.slice ma mn mc) (absG 0 0 M)) := hm1
  clear hR1 hE1 hsh hmk hch hnb hm1 hoff q0
  have q1 := HB1.out.cell (j := 1) rfl
  have q2 := HB1.out.cell (j := 2) rfl
  go_wp2_with fail
  refine HC2.out.mono ?_
  rintro e w2 ⟨R, rfl, hR2, hl2, hx2, hg2⟩
  have HR : Hid (McP base (.slice ca cn cc) (.slice ma mn mc) bs (absG 0 0 M) k w (.returned (.int .i64 (k + (tl : Int) + (mn : Int) * 11))) w2) := by
    have hch2 : Chg (fun j => (Value.slice ma mn mc).ownBlock = some j) w1 w2 := Chg.of_grown hg2 (fun j hj => hj)
    have hmv := HM1.out
    refine ⟨fs, R, by rw [← HTL.out, ← HU.out.2.2.2.2], ⟨?_, ?_, hR2, H1.out.2.2.2.1, by rw [mkLen_shp H1.out.2.2.1, ← HTL.out]; exact hx2⟩, H1.out.2.2.1, hl2, H1.out.2.2.2.2.trans (hch2.mono (fun j hj => .inr (.inl hj)))⟩
    · exact H1.out.1.chg hch2 (fun j hj q => row_apart hmv H1.out.1 j q hj)
    · intro x hx
      refine (H1.out.2.1 x hx).chg hch2 (fun j hj q => ?_)
      have hvm : x.v ∈ bs.map Bk.v := by rw [← shp_v H1.out.2.2.1]; exact List.mem_map.2 ⟨x, hx, rfl⟩
      obtain ⟨y, hy, hyv⟩ := List.mem_map.1 hvm
      exact HU.out.2.2.1.main y hy (by rw [hyv]; exact hj.trans q.symm)
  clear hR2 hl2 hx2 hg2
  go_wp2_with fail
  go_ret
  exact HR.out
set_option maxHeartbeats 2000000 in
theorem heldCode_own {w : World} {base : Nat} {cv mv : Value} {cnt : Int} {fs : List Bk} {R : List Ix} {k : Int} (h : CdM w base cv mv fs R k) (h0 : 0 < k) (h1 : k ≤ 2 ^ 28) (hL : CdL fs R) :
    Calls Try.prog 12 #[.agg #[cv, mv, .int .i64 cnt], .int .i64 k] w fun e w' => e = .returned (.int .i64 (k + mkLen fs + R.length * 11)) ∧ Below w.heap.size w w' := by
  obtain ⟨ca, cc, hcv⟩ := h.row.slice
  obtain ⟨ma, mc, hmv⟩ := h.main.slice
  obtain ⟨cn, hcn⟩ : ∃ cn, cn = fs.length := ⟨_, rfl⟩
  obtain ⟨mn, hmn⟩ : ∃ mn, mn = R.length := ⟨_, rfl⟩
  rw [← hcn] at hcv
  rw [← hmn] at hmv
  subst hcv hmv
  clear hcn
  obtain ⟨W0, hW0⟩ : ∃ W0 : World, W0 = w.alloc (Obj.cells #[.slice ca cn cc, .slice ma mn mc, .int .i64 cnt] 31) := ⟨_, rfl⟩
  have hb0 : Below w.heap.size w W0 := by rw [hW0]; exact (Below.refl _ _).alloc (Nat.le_refl _) _
  have HB0 : Hid (BoxAt W0 w.heap.size 31 3 w.heap.size [.slice ca cn cc, .slice ma mn mc, .int .i64 cnt]) := by rw [hW0]; exact boxAt_new w _ (Nat.le_refl _) rfl
  have HU : Hid (CdM W0 base (.slice ca cn cc) (.slice ma mn mc) fs R k ∧ mn = R.length) := ⟨h.below hb0, hmn⟩
  have HC : Hid (Calls Try.prog 31 #[.slice ca cn cc, .int .i64 k] W0 fun e w' => e = .returned (.int .i64 (k + mkLen fs)) ∧ Below W0.heap.size W0 w') := heldBlockS_own base _ fs k W0 HU.out.1.row HU.out.1.each HU.out.1.mb h0 h1 hL.tot hL.each
  have hkl : k + (mkLen fs : Int) ≤ 2 ^ 29 := by have := hL.tot; omega
  have hml : R.length ≤ 1048576 := hL.main
  have hml2 : mn ≤ 1048576 := by rw [hmn]; exact hml
  have q0 := HB0.out.cell (j := 0) rfl
  clear h hL
  obtain ⟨tl, htl⟩ : ∃ tl, tl = mkLen fs := ⟨_, rfl⟩
  have HTL : Hid (tl = mkLen fs) := htl
  rw [← htl] at hkl ⊢
  rw [← hmn]
  clear htl hmn
  have hn1 : ¬ k + (tl : Int) < 0 := by omega
  have hn2 : ¬ k + (tl : Int) + (mn : Int) * 11 < 0 := by omega
  go_enter Try.func12, Try.ntmps12
  go_upto_region 1 with fail
  rw [← hW0]
  clear hW0
  go_wp2_with fail
  refine HC.out.mono ?_
  rintro e w1 ⟨rfl, hb1⟩
  rw [← HTL.out]
  have HB1 : Hid (BoxAt w1 w.heap.size 31 3 w.heap.size [.slice ca cn cc, .slice ma mn mc, .int .i64 cnt]) := HB0.out.below hb1
  have HC2 : Hid (Calls Try.prog 32 #[.agg #[.slice ma mn mc, .int .i64 cnt], .int .i64 (k + (tl : Int))] w1 fun e w' => e = .returned (.int .i64 (k + (tl : Int) + (mn : Int) * 11)) ∧ Below w1.heap.size w1 w') := by
    have h8 := HU.out.1.mx
    rw [← HTL.out] at h8
    have h9 := heldBlock_own base (.slice ma mn mc) cnt R (k + (tl : Int)) w1 (HU.out.1.main.below hb1) h8 (by omega) (by omega) hml
    rw [← HU.out.2] at h9
    exact h9
  have hk1 : Below w.heap.size w w1 := hb0.trans (hb1.mono hb0.size)
  clear q0 hb1
  have q1 := HB1.out.cell (j := 1) rfl
  have q2 := HB1.out.cell (j := 2) rfl
  go_wp2_with fail
  refine HC2.out.mono ?_
  rintro e w2 ⟨rfl, hb2⟩
  have hk2 : Below w.heap.size w w2 := hk1.trans (hb2.mono hk1.size)
  go_wp2_with fail
  go_ret
  exact ⟨rfl, hk2⟩
/-- How long the code of a filter is. -/
theorem cdL_of {w : World} {base : Nat} {cv mv : Value} {cnt : Int} {xs : List Nd} {X : List (List Ix)} {M : List Ix} {bs : List Bk} (h : CdV w base cv mv cnt X M bs) (hC : CmpOf xs X M) : CdL bs (absG 0 0 M) := by
  have hX : X.length ≤ 200 ∧ (∀ x ∈ X, x.length ≤ 1000) ∧ M.length ≤ 1000 := by
    rcases hC with ⟨_, rfl, rfl⟩ | ⟨hG, t, ht, rfl, rfl⟩
    · exact ⟨by simp, (fun x hx => by cases hx), by simp⟩
    · have h1 := ht.size
      have h2 := hG.1
      have h3 : t.ifs ≤ 200 := by rw [← ht.ifs]; exact Nat.le_trans (ifsL_le xs) hG.1
      refine ⟨by rw [conds_len]; exact h3, fun x hx => ?_, ?_⟩
      · have := conds_bound t [] false 0 x hx; simp at this; omega
      · have := gen_len t false 0; omega
  have hl : ∀ x ∈ bs, x.l.length ≤ 1000 := by
    intro x hx
    obtain ⟨j, hj⟩ := List.getElem?_of_mem hx
    have e1 : (bs.map Bk.vw)[j]? = some x.vw := by rw [List.getElem?_map, hj]; rfl
    rw [h.view, List.getElem?_map] at e1
    cases hy : X[j]? with
    | none => rw [hy] at e1; cases e1
    | some y =>
      rw [hy] at e1
      have e2 := congrArg Prod.snd (Option.some.inj e1)
      have e3 : absG 0 0 y = x.l := e2
      rw [← e3, absG_length]; exact hX.2.1 y (List.mem_of_getElem? hy)
  have hb : ∀ l : List Bk, (∀ x ∈ l, x.l.length ≤ 1000) → mkLen l ≤ l.length * 11001 := fun l => by
    induction l with
    | nil => intro _; simp [mkLen]
    | cons x r ih =>
      intro hx
      have h1 := ih (fun y hy => hx y (List.mem_cons_of_mem _ hy))
      have h2 := hx x (List.mem_cons_self ..)
      simp only [mkLen, List.length_cons]
      omega
  refine ⟨?_, fun x hx => by have := hl x hx; omega, by rw [absG_length]; omega⟩
  have h1 := hb bs hl
  have h2 := h.len
  omega
theorem cdL_shp {bs fs : List Bk} {N R : List Ix} (h : CdL bs N) (hs : fs.map shp = bs.map shp) (hl : R.length = N.length) : CdL fs R := by
  refine ⟨by rw [mkLen_shp hs]; exact h.tot, fun x hx => ?_, by rw [hl]; exact h.main⟩
  have hm : shp x ∈ bs.map shp := by rw [← hs]; exact List.mem_map.2 ⟨x, hx, rfl⟩
  obtain ⟨y, hy, he⟩ := List.mem_map.1 hm
  have e1 : y.l.length = x.l.length := congrArg Prod.snd he
  rw [← e1]; exact h.each y hy
end Go.Proofs.Ytkbmdkgfgfbilaa

/-
  The law FnExactCompile.
-/
namespace Go.Proofs.Ytkbmdkgfgfbilaa.exCompile
open Go.ChangeShapes Go.WideShapes Go.ChangeAt Go.RowKit Go.Deep
set_option linter.unusedVariables false
set_option linter.unusedSimpArgs false
set_option maxRecDepth 100000

theorem own : ownKnob Try.prog.godebug = none := by kernel_rfl
theorem laidOut : laidOutB Try.prog = true := by kernel_rfl

theorem toFilter_in (W0 : World) (u : Value) (es : List Nd) (w : World) (hb : Below W0.heap.size W0 w) (h : Hid (InNds W0 u es)) (h1 : es.length ≤ 1048576) :
    Calls Try.prog 6 #[.agg #[u]] w fun e w' =>
      ∃ g, e = .returned (.agg #[.slice (some ⟨g, 0, none⟩) es.length es.length]) ∧ Hid (InNds w' (.slice (some ⟨g, 0, none⟩) es.length es.length) es) ∧ Below W0.heap.size W0 w' ∧ (∀ b o, b < W0.heap.size → w'.cell? ⟨b, o, none⟩ = W0.cell? ⟨b, o, none⟩) := by
  refine (toFilter_any u es w (h.out.below hb (Nat.le_refl _)) h1).mono ?_
  rintro e w' ⟨g, he, hO, hb'⟩
  have k := hb.trans (hb'.mono hb.size)
  exact ⟨g, he, InNds.own hO rfl, k, fun b o hlt => k.cell (p := ⟨b, o, none⟩) hlt⟩
theorem eqFilter_in (W0 : World) (u u' : Value) (es : List Nd) (w : World) (hb : Below W0.heap.size W0 w) (h : Hid (InNds W0 u es)) (h' : Hid (InNds w u' es)) :
    Calls Try.prog 9 #[.agg #[u], .agg #[u']] w fun e w' => e = .returned (.bool true) ∧ Below W0.heap.size W0 w' := by
  refine (eqFilter_any u u' es w (h.out.below hb (Nat.le_refl _)) h'.out).mono ?_
  rintro e w' ⟨he, hb'⟩
  exact ⟨he, hb.trans (hb'.mono hb.size)⟩

set_option maxHeartbeats 16000000 in
theorem walk (u : Value) (es : List Nd) (w : World) (h : InNds w u es) (hok : ∀ e ∈ es, e.ok) :
    Calls Try.prog 3 #[.agg #[u]] w fun e w' => e = .returned (.bool true) ∧ Below w.heap.size w w' := by
  have HE : Hid (InNds w u es ∧ ∀ e ∈ es, e.ok) := ⟨h, hok⟩
  have hu : u.cells = #[u] := by
    rcases h with ⟨a, cap, rfl, _⟩ | ⟨b, off, cap, rfl, _⟩ <;> rfl
  clear h hok
  obtain ⟨W0, hW0⟩ : ∃ W0 : World, W0 = w.alloc (Obj.cells #[u] 24) := ⟨_, rfl⟩
  have hb0 : Below w.heap.size w W0 := by rw [hW0]; exact (Below.refl _ _).alloc (Nat.le_refl _) _
  have hz0 : w.heap.size < W0.heap.size := by rw [hW0]; simp
  have ca : W0.cell? ⟨w.heap.size, 0, none⟩ = some u := by rw [hW0]; simp
  have HE0 : Hid (InNds W0 u es) := HE.out.1.below hb0 (Nat.le_refl _)
  have HA : Hid (∀ wx, Below W0.heap.size W0 wx → wx.cell? ⟨w.heap.size, 0, none⟩ = some u ∧ InNds wx u es) := fun wx hx => ⟨by rw [hx.cell (p := ⟨w.heap.size, 0, none⟩) hz0]; exact ca, HE0.out.below hx (Nat.le_refl _)⟩
  go_enter Try.func3, Try.ntmps3
  go_wp2_with fail
  rw [← hW0]
  clear hW0
  refine (szFilter_any u es _ _ HE0.out HE.out.2 (by omega) (by omega)).mono ?_
  rintro e w1 ⟨x, rfl, hx, hb1⟩
  have hs1 := hb1.size
  by_cases hx0 : x < 0
  · clear hx
    go_wp2_with fail
    go_ret
    exact ⟨rfl, hb0.trans (hb1.mono (by omega))⟩
  have hn : es.length ≤ 1048576 := by omega
  clear hx ca
  obtain ⟨ca, hE1⟩ := HA.out w1 hb1
  have HE1 : Hid (InNds w1 u es) := hE1
  clear hE1
  go_wp2_with fail
  refine (toFilter_any u es _ HE1.out hn).mono ?_
  rintro e w2 ⟨g, rfl, hO, hb2⟩
  have hs2 := hb2.size
  have HO : Hid (OwnNd w2 w1.heap.size g es.length es) := hO
  have j2 : Below W0.heap.size W0 w2 := hb1.trans (hb2.mono (by omega))
  clear hO ca
  go_wp2_with fail
  refine (specCompile_core HO.out HE.out.2 (by omega)).mono ?_
  rintro e w3 ⟨a0, n0, c0, b0, m0, d0, k0, X, M, bs0, rfl, hU3, hR3⟩
  have hb3 : Below w2.heap.size w2 w3 := hU3.conds.below
  have s3 := hb3.size
  have HU3 : Hid (CdV w3 w2.heap.size (.slice a0 n0 c0) (.slice b0 m0 d0) k0 X M bs0 ∧ CmpOf es X M) := ⟨hU3.v, hR3⟩
  have hu0 : ∀ k, blkOf (.slice a0 n0 c0) (.slice b0 m0 d0) bs0 k → w2.heap.size ≤ k ∧ k < w3.heap.size := fun k hk => hU3.v.blk hk
  clear hU3 hR3
  obtain ⟨W4, hW4⟩ : ∃ W4 : World, W4 = w3.alloc (Obj.cells #[.slice a0 n0 c0, .slice b0 m0 d0, .int .i64 k0] 31) := ⟨_, rfl⟩
  have hb4 : Below w3.heap.size w3 W4 := by rw [hW4]; exact (Below.refl _ _).alloc (Nat.le_refl _) _
  have s4 : W4.heap.size = w3.heap.size + 1 := by rw [hW4]; simp
  have HC4 : Hid (BoxAt W4 w3.heap.size 31 3 w3.heap.size [.slice a0 n0 c0, .slice b0 m0 d0, .int .i64 k0]) := by rw [hW4]; exact boxAt_new w3 _ (Nat.le_refl _) rfl
  have j4 : Below W0.heap.size W0 W4 := (j2.trans (hb3.mono (by omega))).trans (hb4.mono (by omega))
  have HU4 : Hid (CdV W4 w2.heap.size (.slice a0 n0 c0) (.slice b0 m0 d0) k0 X M bs0) := HU3.out.1.below hb4
  obtain ⟨ca, hE4⟩ := HA.out W4 j4
  have HE4 : Hid (InNds W4 u es) := hE4
  clear hE4
  go_upto_region 6 with fail
  rw [← hW4]
  clear hW4
  go_wp2_with fail
  refine (toFilter_any u es _ HE4.out hn).mono ?_
  rintro e w5 ⟨gx, rfl, hO5, hb5⟩
  have s5 := hb5.size
  have hgx := hO5.lt
  have HX5 : Hid (OwnNd w5 W4.heap.size gx es.length es) := hO5
  clear hO5 ca
  obtain ⟨W6, hW6⟩ : ∃ W6 : World, W6 = w5.alloc (Obj.cells #[.slice (some ⟨gx, 0, none⟩) es.length es.length] 35) := ⟨_, rfl⟩
  have hb6 : Below w5.heap.size w5 W6 := by rw [hW6]; exact (Below.refl _ _).alloc (Nat.le_refl _) _
  have s6 : W6.heap.size = w5.heap.size + 1 := by rw [hW6]; simp
  have HC6 : Hid (W6.cell? ⟨w5.heap.size, 0, none⟩ = some (.slice (some ⟨gx, 0, none⟩) es.length es.length)) := by show W6.cell? _ = _; rw [hW6]; simp
  have HX6 : Hid (OwnNd W6 W4.heap.size gx es.length es) := HX5.out.below hb6 HX5.out.lt.2
  have k46 : Below W4.heap.size W4 W6 := hb5.trans (hb6.mono (by omega))
  go_upto_region 7 with fail
  rw [← hW6]
  clear hW6
  have cx := HC6.out
  go_wp2_with fail
  refine (implCompile_core HX6.out HE.out.2).mono ?_
  rintro e w7 ⟨a1, n1, c1, b1, m1, d1, k1, X1, M1, bs1, rfl, hU7, hR7, hA7⟩
  have hb7 : Below W6.heap.size W6 w7 := hU7.conds.below
  have s7 := hb7.size
  obtain ⟨hX1, hM1⟩ := cmpOf_one hR7 HU3.out.2
  subst hX1 hM1
  have HU7 : Hid (CdV w7 W6.heap.size (.slice a1 n1 c1) (.slice b1 m1 d1) k1 X1 M1 bs1 ∧ Apt bs1 (.slice b1 m1 d1)) := ⟨hU7.v, hA7⟩
  have HL7 : Hid (CdL bs1 (absG 0 0 M1)) := cdL_of hU7.v hR7
  have hu1 : ∀ k, blkOf (.slice a1 n1 c1) (.slice b1 m1 d1) bs1 k → W6.heap.size ≤ k ∧ k < w7.heap.size := fun k hk => hU7.v.blk hk
  clear hU7 hR7 hA7 cx
  obtain ⟨W8, hW8⟩ : ∃ W8 : World, W8 = w7.alloc (Obj.cells #[.slice a1 n1 c1, .slice b1 m1 d1, .int .i64 k1] 31) := ⟨_, rfl⟩
  have hb8 : Below w7.heap.size w7 W8 := by rw [hW8]; exact (Below.refl _ _).alloc (Nat.le_refl _) _
  have s8 : W8.heap.size = w7.heap.size + 1 := by rw [hW8]; simp
  have k68 : Below W6.heap.size W6 W8 := hb7.trans (hb8.mono (by omega))
  have k48 : Below W4.heap.size W4 W8 := k46.trans (k68.mono (by omega))
  have j8 : Below W0.heap.size W0 W8 := j4.trans (k48.mono j4.size)
  have HC8 : Hid (BoxAt W8 w7.heap.size 31 3 w7.heap.size [.slice a1 n1 c1, .slice b1 m1 d1, .int .i64 k1] ∧ W8.cell? ⟨w5.heap.size, 0, none⟩ = some (.slice (some ⟨gx, 0, none⟩) es.length es.length) ∧ BoxAt W8 w3.heap.size 31 3 w3.heap.size [.slice a0 n0 c0, .slice b0 m0 d0, .int .i64 k0]) := by
    refine ⟨by rw [hW8]; exact boxAt_new w7 _ (Nat.le_refl _) rfl, ?_, HC4.out.below k48⟩
    rw [k68.cell (p := ⟨w5.heap.size, 0, none⟩) (by show w5.heap.size < W6.heap.size; omega)]; exact HC6.out
  have HU8 : Hid (CdV W8 w2.heap.size (.slice a0 n0 c0) (.slice b0 m0 d0) k0 X1 M1 bs0 ∧ CdV W8 W6.heap.size (.slice a1 n1 c1) (.slice b1 m1 d1) k1 X1 M1 bs1 ∧ OwnNd W8 W4.heap.size gx es.length es) := ⟨HU4.out.below k48, HU7.out.1.below hb8, HX6.out.below k68 (by omega)⟩
  go_upto_region 8 with fail
  rw [← hW8]
  clear hW8
  have q0 := HC8.out.1.cell (j := 0) rfl
  have q1 := HC8.out.1.cell (j := 1) rfl
  have q2 := HC8.out.1.cell (j := 2) rfl
  have r0 := HC8.out.2.2.cell (j := 0) rfl
  have r1 := HC8.out.2.2.cell (j := 1) rfl
  have r2 := HC8.out.2.2.cell (j := 2) rfl
  go_wp2_with fail
  refine (eqCode_v HU8.out.2.1 HU8.out.1).mono ?_
  rintro e w9 ⟨rfl, hb9⟩
  have s9 := hb9.size
  have j9 : Below W0.heap.size W0 w9 := j8.trans (hb9.mono j8.size)
  clear q0 q1 q2 r0 r1 r2
  have HC9 : Hid (BoxAt w9 w7.heap.size 31 3 w7.heap.size [.slice a1 n1 c1, .slice b1 m1 d1, .int .i64 k1] ∧ w9.cell? ⟨w5.heap.size, 0, none⟩ = some (.slice (some ⟨gx, 0, none⟩) es.length es.length) ∧ BoxAt w9 w3.heap.size 31 3 w3.heap.size [.slice a0 n0 c0, .slice b0 m0 d0, .int .i64 k0]) := by
    refine ⟨HC8.out.1.below hb9, ?_, HC8.out.2.2.below hb9⟩
    rw [hb9.cell (p := ⟨w5.heap.size, 0, none⟩) (by show w5.heap.size < W8.heap.size; omega)]; exact HC8.out.2.1
  have HU9 : Hid (CdV w9 w2.heap.size (.slice a0 n0 c0) (.slice b0 m0 d0) k0 X1 M1 bs0 ∧ CdV w9 W6.heap.size (.slice a1 n1 c1) (.slice b1 m1 d1) k1 X1 M1 bs1 ∧ OwnNd w9 W4.heap.size gx es.length es) := ⟨HU8.out.1.below hb9, HU8.out.2.1.below hb9, HU8.out.2.2.below hb9 (by omega)⟩
  obtain ⟨cx9, ca9⟩ : w9.cell? ⟨w5.heap.size, 0, none⟩ = some (.slice (some ⟨gx, 0, none⟩) es.length es.length) ∧ w9.cell? ⟨w.heap.size, 0, none⟩ = some u := ⟨HC9.out.2.1, (HA.out w9 j9).1⟩
  have HE9 : Hid (InNds w9 u es) := (HA.out w9 j9).2
  go_upto_region 10 with fail
  go_cut [31] (fun s wx => s = .bool false ∧ Below w9.heap.size w9 wx)
  case first =>
    have hz9 : w5.heap.size < w9.heap.size := by omega
    have hza : w.heap.size < w9.heap.size := by omega
    have HX9 : Hid (InNds w9 (.slice (some ⟨gx, 0, none⟩) es.length es.length) es) := InNds.own HU9.out.2.2 rfl
    go_region_with (first
      | (go_at_call 6; refine (toFilter_in w9 u es _ ?hB HE9 hn).mono ?_; (case hB => (repeat (first | assumption | exact Below.refl _ _ | refine Below.drew ?_))); rintro e w' ⟨g3, rfl, HG, hbb, hcc⟩)
      | (go_at_call 9; refine (eqFilter_in w9 _ _ es _ ?hB HX9 ?hC).mono ?_; (case hB => (repeat (first | assumption | exact Below.refl _ _ | refine Below.drew ?_))); (case hC => assumption); rintro e w' ⟨rfl, hbb2⟩))
    all_goals go_wp2_with fail
    all_goals go_meet
    all_goals exact ⟨rfl, by assumption⟩
  case rest =>
  obtain ⟨rfl, hb10⟩ := hcut
  obtain ⟨w10, hw10⟩ : ∃ w10 : World, w10 = wc := ⟨_, rfl⟩
  subst hw10
  have s10 := hb10.size
  have HC10 : Hid (BoxAt w10 w7.heap.size 31 3 w7.heap.size [.slice a1 n1 c1, .slice b1 m1 d1, .int .i64 k1] ∧ w10.cell? ⟨w5.heap.size, 0, none⟩ = some (.slice (some ⟨gx, 0, none⟩) es.length es.length) ∧ BoxAt w10 w3.heap.size 31 3 w3.heap.size [.slice a0 n0 c0, .slice b0 m0 d0, .int .i64 k0]) := by
    refine ⟨HC9.out.1.below hb10, ?_, HC9.out.2.2.below hb10⟩
    rw [hb10.cell (p := ⟨w5.heap.size, 0, none⟩) (by show w5.heap.size < w9.heap.size; omega)]; exact HC9.out.2.1
  have HU10 : Hid (CdV w10 w2.heap.size (.slice a0 n0 c0) (.slice b0 m0 d0) k0 X1 M1 bs0 ∧ CdV w10 W6.heap.size (.slice a1 n1 c1) (.slice b1 m1 d1) k1 X1 M1 bs1 ∧ OwnUN w10 W4.heap.size (.slice (some ⟨gx, 0, none⟩) es.length es.length) es) := ⟨HU9.out.1.below hb10, HU9.out.2.1.below hb10, .inr ⟨gx, es.length, rfl, HU9.out.2.2.below hb10 (by omega)⟩⟩
  have j10 : Below W0.heap.size W0 w10 := j9.trans (hb10.mono j9.size)
  clear cx9 ca9
  have cx10 := HC10.out.2.1
  go_wp2_with fail
  refine (markFilter_own W4.heap.size _ es 1 _ HU10.out.2.2 (by omega) (by omega) hn).mono ?_
  rintro e w11 ⟨E1, rfl, _, _, _, hg11⟩
  have hch11 : Chg (fun b => b = gx) w10 w11 := Chg.of_grown hg11 (fun k hk => by simpa [Value.ownBlock] using hk.symm)
  have s11 := hg11.size
  have HC11 : Hid (BoxAt w11 w7.heap.size 31 3 w7.heap.size [.slice a1 n1 c1, .slice b1 m1 d1, .int .i64 k1] ∧ BoxAt w11 w3.heap.size 31 3 w3.heap.size [.slice a0 n0 c0, .slice b0 m0 d0, .int .i64 k0]) := ⟨HC10.out.1.chg hch11 (by omega), HC10.out.2.2.chg hch11 (by omega)⟩
  have HU11 : Hid (CdV w11 w2.heap.size (.slice a0 n0 c0) (.slice b0 m0 d0) k0 X1 M1 bs0 ∧ CdV w11 W6.heap.size (.slice a1 n1 c1) (.slice b1 m1 d1) k1 X1 M1 bs1) :=
    ⟨HU10.out.1.chg hch11 (fun k hk q => by have h1 := hu0 k hk; omega), HU10.out.2.1.chg hch11 (fun k hk q => by have h1 := hu1 k hk; omega)⟩
  have j11 : Below W0.heap.size W0 w11 := Chg.below j10 hch11 j10.size (fun k hk => by have := j4.size; omega)
  clear hg11 cx10 hch11
  have hk1 : ¬ (1 + (es.length : Int) * 7 < 0) := by omega
  have q0 := HC11.out.1.cell (j := 0) rfl
  have q1 := HC11.out.1.cell (j := 1) rfl
  have q2 := HC11.out.1.cell (j := 2) rfl
  have r0 := HC11.out.2.cell (j := 0) rfl
  have r1 := HC11.out.2.cell (j := 1) rfl
  have r2 := HC11.out.2.cell (j := 2) rfl
  go_wp2_with fail
  refine (eqCode_v HU11.out.2 HU11.out.1).mono ?_
  rintro e w12 ⟨rfl, hb12⟩
  have s12 := hb12.size
  have HU12 : Hid (CdV w12 w2.heap.size (.slice a0 n0 c0) (.slice b0 m0 d0) k0 X1 M1 bs0 ∧ CdV w12 W6.heap.size (.slice a1 n1 c1) (.slice b1 m1 d1) k1 X1 M1 bs1) := ⟨HU11.out.1.below hb12, HU11.out.2.below hb12⟩
  have HC12 : Hid (BoxAt w12 w7.heap.size 31 3 w7.heap.size [.slice a1 n1 c1, .slice b1 m1 d1, .int .i64 k1] ∧ BoxAt w12 w3.heap.size 31 3 w3.heap.size [.slice a0 n0 c0, .slice b0 m0 d0, .int .i64 k0]) := ⟨HC11.out.1.below hb12, HC11.out.2.below hb12⟩
  have j12 : Below W0.heap.size W0 w12 := j11.trans (hb12.mono j11.size)
  clear q0 q1 q2 r0 r1 r2 hk1
  have q0 := HC12.out.1.cell (j := 0) rfl
  have q1 := HC12.out.1.cell (j := 1) rfl
  have q2 := HC12.out.1.cell (j := 2) rfl
  obtain ⟨Z, hZ⟩ : ∃ Z : Int, Z = 1 + (mkLen bs1 : Int) + ((absG 0 0 M1).length : Int) * 11 := ⟨_, rfl⟩
  have hZ0 : ¬ Z < 0 := by omega
  have HMk : Hid (Calls Try.prog 11 #[.agg #[.slice a1 n1 c1, .slice b1 m1 d1, .int .i64 k1], .int .i64 1] w12 fun e w' => ∃ fs R, e = .returned (.int .i64 Z) ∧ CdM w' W6.heap.size (.slice a1 n1 c1) (.slice b1 m1 d1) fs R 1 ∧ fs.map shp = bs1.map shp ∧ R.length = (absG 0 0 M1).length ∧ Chg (blkOf (.slice a1 n1 c1) (.slice b1 m1 d1) bs1) w12 w') := by
    rw [hZ]; exact markCode_own HU12.out.2 HU7.out.2 1 (by omega) (by omega) HL7.out
  have HZ : Hid (Z = 1 + (mkLen bs1 : Int) + ((absG 0 0 M1).length : Int) * 11) := hZ
  clear hZ
  go_wp2_with fail
  refine HMk.out.mono ?_
  rintro e w13 ⟨fs, R, rfl, hM13, hsh, hRl, hch13⟩
  have s13 := hch13.size
  have HC13 : Hid (BoxAt w13 w7.heap.size 31 3 w7.heap.size [.slice a1 n1 c1, .slice b1 m1 d1, .int .i64 k1] ∧ BoxAt w13 w3.heap.size 31 3 w3.heap.size [.slice a0 n0 c0, .slice b0 m0 d0, .int .i64 k0]) := ⟨HC12.out.1.chg hch13 (fun q => by have h1 := hu1 _ q; omega), HC12.out.2.chg hch13 (fun q => by have h1 := hu1 _ q; omega)⟩
  have HU13 : Hid (CdV w13 w2.heap.size (.slice a0 n0 c0) (.slice b0 m0 d0) k0 X1 M1 bs0) := HU12.out.1.chg hch13 (fun k hk q => by have h1 := hu0 k hk; have h2 := hu1 k q; omega)
  have HHl : Hid (Calls Try.prog 12 #[.agg #[.slice a1 n1 c1, .slice b1 m1 d1, .int .i64 k1], .int .i64 1] w13 fun e w' => e = .returned (.int .i64 Z) ∧ Below w13.heap.size w13 w') := by
    rw [HZ.out, ← mkLen_shp hsh, ← hRl]; exact heldCode_own hM13 (by omega) (by omega) (cdL_shp HL7.out hsh hRl)
  have j13 : Below W0.heap.size W0 w13 := Chg.below j12 hch13 j12.size (fun k hk => by have h2 := hu1 k hk; have := j4.size; omega)
  clear hM13 hsh hRl hch13 q0 q1 q2 HMk
  have q0 := HC13.out.1.cell (j := 0) rfl
  have q1 := HC13.out.1.cell (j := 1) rfl
  have q2 := HC13.out.1.cell (j := 2) rfl
  go_wp2_with fail
  refine HHl.out.mono ?_
  rintro e w14 ⟨rfl, hb14⟩
  have s14 := hb14.size
  have HU14 : Hid (CdV w14 w2.heap.size (.slice a0 n0 c0) (.slice b0 m0 d0) k0 X1 M1 bs0) := HU13.out.below hb14
  have HC14 : Hid (BoxAt w14 w3.heap.size 31 3 w3.heap.size [.slice a0 n0 c0, .slice b0 m0 d0, .int .i64 k0]) := HC13.out.2.below hb14
  have j14 : Below W0.heap.size W0 w14 := j13.trans (hb14.mono j13.size)
  clear q0 q1 q2 HHl
  obtain ⟨ca, hE14⟩ := HA.out w14 j14
  have HE14 : Hid (InNds w14 u es) := hE14
  clear hE14
  go_wp2_with fail
  refine (toFilter_any u es _ HE14.out hn).mono ?_
  rintro e w15 ⟨gz, rfl, hO15, hb15⟩
  have s15 := hb15.size
  have HZ15 : Hid (OwnNd w15 w14.heap.size gz es.length es) := hO15
  clear hO15 ca
  go_wp2_with fail
  refine (implCompile_core HZ15.out HE.out.2).mono ?_
  rintro e w16 ⟨a2, n2, c2, b2, m2, d2, k2, X2, M2, bs2, rfl, hU16, hR16, _⟩
  have hb16 : Below w15.heap.size w15 w16 := hU16.conds.below
  have s16 := hb16.size
  obtain ⟨hX2, hM2⟩ := cmpOf_one hR16 HU3.out.2
  subst hX2 hM2
  have k1416 : Below w14.heap.size w14 w16 := hb15.trans (hb16.mono (by omega))
  obtain ⟨W17, hW17⟩ : ∃ W17 : World, W17 = w16.alloc (Obj.cells #[.slice a2 n2 c2, .slice b2 m2 d2, .int .i64 k2] 31) := ⟨_, rfl⟩
  have hb17 : Below w16.heap.size w16 W17 := by rw [hW17]; exact (Below.refl _ _).alloc (Nat.le_refl _) _
  have k1417 : Below w14.heap.size w14 W17 := k1416.trans (hb17.mono (by omega))
  have HU17 : Hid (CdV W17 w2.heap.size (.slice a0 n0 c0) (.slice b0 m0 d0) k0 X2 M2 bs0 ∧ CdV W17 w15.heap.size (.slice a2 n2 c2) (.slice b2 m2 d2) k2 X2 M2 bs2) := ⟨HU14.out.below k1417, hU16.v.below hb17⟩
  have HC17 : Hid (BoxAt W17 w16.heap.size 31 3 w16.heap.size [.slice a2 n2 c2, .slice b2 m2 d2, .int .i64 k2] ∧ BoxAt W17 w3.heap.size 31 3 w3.heap.size [.slice a0 n0 c0, .slice b0 m0 d0, .int .i64 k0]) := ⟨by rw [hW17]; exact boxAt_new w16 _ (Nat.le_refl _) rfl, HC14.out.below k1417⟩
  have j17 : Below W0.heap.size W0 W17 := j14.trans (k1417.mono j14.size)
  clear hU16 hR16
  go_upto_region 25 with fail
  rw [← hW17]
  clear hW17
  have q0 := HC17.out.1.cell (j := 0) rfl
  have q1 := HC17.out.1.cell (j := 1) rfl
  have q2 := HC17.out.1.cell (j := 2) rfl
  have r0 := HC17.out.2.cell (j := 0) rfl
  have r1 := HC17.out.2.cell (j := 1) rfl
  have r2 := HC17.out.2.cell (j := 2) rfl
  go_wp2_with fail
  refine (eqCode_v HU17.out.2 HU17.out.1).mono ?_
  rintro e w18 ⟨rfl, hb18⟩
  have k18 : Below w.heap.size w w18 := hb0.trans ((j17.trans (hb18.mono j17.size)).mono (by omega))
  go_wp2_with fail
  go_ret
  exact ⟨rfl, k18⟩

set_option maxRecDepth 100000 in
theorem lifted (os : Os) (started : os.Started) (H : Type) (enc : TypeId × Value → H) :
    ReturnsInHanded {} Try.checked os 3 .any (Rows.fnExactCompileSpec.pre6 enc Try.prog Try.f3 Rows.fnExactCompileRow.domain false) (Rows.fnExactCompileSpec.post enc Try.prog Try.f3 false true false false) := by
  refine returnsInHanded_of_change (C := Try.checked) own started (by kernel_rfl) Try.func3
    (ChangeSpec.witness6 (enc := enc) (C := Try.checked) false ⟨#[], #[.agg #[.slice none 0 0]], []⟩ 8 (by kernel_rfl) (by kernel_rfl) (by kernel_rfl) (by kernel_rfl)) ?_
  intro W base args ds gs before hval0 hW hcnd _
  have hval : ∀ (j : Nat) t v, Try.f3.params[j]? = some t → args[j]? = some v → Value.okWide Try.prog W .any base t v := hval0
  have hW' := hW
  obtain ⟨p, q, hA0, hV, rfl, hfz, hnd⟩ := hW
  have hA : DataW.TrodAll enc Try.prog W 0 (fun _ => true) true Try.f3.params.toList args.toList ds p := hA0
  rw [Try.params3] at hA hval
  obtain ⟨v0, vs0, d0, ds0, p0, q0, hargs, rfl, rfl, h0, r0⟩ := trodAll_cons hA
  obtain ⟨rfl, rfl, rfl⟩ := trodAll_nil r0
  obtain rfl : args = #[v0] := by cases args; simp_all
  obtain ⟨rfl, rfl⟩ := trodVars_none hV
  have k0 := h0
  have lt0 : ∀ x ∈ p0, x.block < W.heap.size := by obtain ⟨m, hm⟩ := k0; exact DataW.trod_lt m _ _ _ hm
  obtain ⟨u, es, rfl, hin, ok0⟩ := open_filter (hval 0 24 v0 rfl rfl) h0
  clear hA0 hval0
  refine (walk u es W hin ok0).mono fun e W' ⟨he, bel⟩ => ?_
  subst he
  exact ⟨_, rfl, _, _, _, [], _, [], hW', trodAll_mk1 (shut_bool Try.underlying4 _), (trodAll_cons_mk (Below.trod laidOut (by kernel_rfl) (of_decide_eq_true (by kernel_rfl)) k0 bel lt0) trodAll_mk0), rfl, bel.frame _, fun h => by cases h⟩

theorem over : Rows.fnExactCompileRow.holds Try.pinned (OpenSpec.ofChange Rows.fnExactCompileSpec) :=
  OpenClaim.holds_of_wide 3 Try.f3 rfl rfl rfl rfl rfl rfl rfl ⟨rfl, rfl, rfl, rfl, rfl⟩ rfl rfl rfl rfl rfl (by kernel_rfl) Try.func3 (by kernel_rfl)
    (of_decide_eq_true (by kernel_rfl)) (by unfold Func.isWrapper; first | (rw [if_pos (by decide +kernel)]; kernel_rfl) | (rw [if_neg (by decide +kernel)]; exact ⟨rfl, rfl⟩))
    (fun os started H enc _ => lifted os started H enc)

end Go.Proofs.Ytkbmdkgfgfbilaa.exCompile
namespace Go.Proofs.Ytkbmdkgfgfbilaa
theorem exactCompile_holds : Rows.FnExactCompileSaid := exCompile.over
#print axioms exactCompile_holds
end Go.Proofs.Ytkbmdkgfgfbilaa

