import Derived.Deep.DeepCutAuto
import Derived.Sort.Grow
import Derived.Shelf.SlSortCmp.WholeK
import Derived.Ground.SlsfProg
import Derived.Test.YtlgeffinhbodeafGreatChecked
import Derived.Test.YtlgeffinhbodeafGreatPkAM
import Derived.Test.YtlgeffinhbodeafGreatPkAH
import Derived.Test.YtlgeffinhbodeafGreatPkAB
/-
  The law FnExactWriteStore, with the contract of impl.BuildRun.
-/
namespace Go.Proofs.YtlgeffinhbodeafGreat.exWriteStore
open Go.ChangeShapes Go.WideShapes Go.ChangeAt Go.RowKit Go.Deep
set_option linter.unusedVariables false
set_option linter.unusedSimpArgs false
set_option maxRecDepth 100000

theorem own : ownKnob Tryz.prog.godebug = none := by kernel_rfl
theorem laidOut : laidOutB Tryz.prog = true := by kernel_rfl
theorem toStore_in (W0 : World) (u : Value) (ts : List Tn) (w : World) (hb : Below W0.heap.size W0 w) (h : Hid (InTabs W0 u ts)) (h1 : ts.length + totT ts ≤ 1048576) (l0 : List Tw) (hl0 : Hid (l0.map Tw.tb = ts.map Tn.tb)) :
    Calls Tryz.prog 8 #[.agg #[u]] w fun e w' =>
      ∃ (g : Nat) (l : List Tw), e = .returned (.agg #[.slice (some ⟨g, 0, none⟩) l.length l.length]) ∧ Hid (InTabs w' (.slice (some ⟨g, 0, none⟩) l.length l.length) ((l.map Tw.tx).map Tx.tn) ∧ vwT ((l0.map Tw.tx).map Tx.tn) = vwT ((l.map Tw.tx).map Tx.tn)) ∧ Below W0.heap.size W0 w' ∧ (∀ b o, b < W0.heap.size → w'.cell? ⟨b, o, none⟩ = W0.cell? ⟨b, o, none⟩) := by
  refine (toStore_any u ts w (h.out.below hb) h1).mono ?_
  rintro e w' ⟨g, l, he, hO, hm, hb'⟩
  have k := hb.trans (hb'.mono hb.size)
  exact ⟨g, l, he, ⟨hO.st.ins, vwX_eq (by rw [tx_tb, tx_tb, hm, hl0.out])⟩, k, fun b o hlt => k.cell (p := ⟨b, o, none⟩) hlt⟩
theorem eqStore_in (W0 : World) (u u' : Value) (l l' : List Tn) (w : World) (hb : Below W0.heap.size W0 w) (h : Hid (InTabs W0 u l)) (h' : Hid (InTabs w u' l' ∧ vwT l = vwT l')) :
    Calls Tryz.prog 11 #[.agg #[u], .agg #[u']] w fun e w' => e = .returned (.bool true) ∧ Below W0.heap.size W0 w' := by
  refine (eqStore_any u u' l l' w (h.out.below hb) h'.out.1 h'.out.2).mono ?_
  rintro e w' ⟨he, hb'⟩
  exact ⟨he, hb.trans (hb'.mono hb.size)⟩

theorem InEnts.cellsW {w : World} {v : Value} {es : List Ent} (h : InEnts w v es) : v.cells = #[v] := by
  rcases h with ⟨a, cap, rfl, _⟩ | ⟨b, off, cap, rfl, _⟩ <;> rfl

set_option maxHeartbeats 8000000 in
theorem walk (hBuild : BuildW) (u v : Value) (ts : List Tn) (es : List Ent) (w : World) (h : InTabs w u ts) (hok : okT ts) (hv : InEnts w v es) (hes : ∀ e ∈ es, e.ok) :
    Calls Tryz.prog 3 #[.agg #[u], v] w fun e w' => e = .returned (.bool true) ∧ Below w.heap.size w w' := by
  have HE : Hid (InTabs w u ts ∧ okT ts ∧ InEnts w v es ∧ ∀ e ∈ es, e.ok) := ⟨h, hok, hv, hes⟩
  have HBu : Hid BuildW := hBuild
  have hu := h.ucells
  clear h hok hv hes hBuild
  obtain ⟨W0, hW0⟩ : ∃ W0 : World, W0 = w.alloc (Obj.cells #[u] 24) := ⟨_, rfl⟩
  have hb0 : Below w.heap.size w W0 := by rw [hW0]; exact (Below.refl _ _).alloc (Nat.le_refl _) _
  have hz0 : w.heap.size < W0.heap.size := by rw [hW0]; simp
  have HK0 : Hid (∀ wx, Below W0.heap.size W0 wx → wx.cell? ⟨w.heap.size, 0, none⟩ = some u ∧ InTabs wx u ts ∧ InEnts wx v es) := fun wx hx => ⟨by rw [hx.cell (p := ⟨w.heap.size, 0, none⟩) hz0, hW0]; simp, (HE.out.1.below hb0).below hx, (HE.out.2.2.1.below hb0 (Nat.le_refl _)).below hx (Nat.le_refl _)⟩
  obtain ⟨ca, hI0, _⟩ := HK0.out W0 (Below.refl _ _)
  have HI0 : Hid (InTabs W0 u ts) := hI0
  clear hI0
  go_enter Tryz.func3, Tryz.ntmps3
  go_upto_region 2 with fail
  rw [← hW0]
  clear hW0
  go_wp2_with fail
  refine (szStore_any u ts _ _ HI0.out HE.out.2.1 (by omega) (by omega)).mono ?_
  rintro e w1 ⟨x, rfl, hx, hb1⟩
  have hs1 := hb1.size
  by_cases hx0 : x < 0
  · clear hx
    go_wp2_with fail
    go_ret
    exact ⟨rfl, hb0.trans (hb1.mono (by omega))⟩
  have hx1 : 0 ≤ x ∧ x + (ts.length + totT ts) ≤ 1048576 := by omega
  clear hx ca
  obtain ⟨_, _, hE1⟩ := HK0.out w1 hb1
  have HE1 : Hid (InEnts w1 v es) := hE1
  clear hE1
  go_wp2_with fail
  refine (szEntryS_any v es _ _ HE1.out HE.out.2.2.2 (by omega) (by omega)).mono ?_
  rintro e w1b ⟨y, rfl, hy, hb1b⟩
  have hb1c : Below W0.heap.size W0 w1b := hb1.trans (hb1b.mono hs1)
  have hs1c := hb1c.size
  by_cases hy0 : y < 0
  · clear hy
    go_wp2_with fail
    go_ret
    exact ⟨rfl, hb0.trans (hb1c.mono (by omega))⟩
  have hn : ts.length + totT ts + es.length ≤ 1048576 := by omega
  have hnt : ts.length + totT ts ≤ 1048576 := by omega
  have hne : es.length ≤ 1048576 := by omega
  clear hy hx1
  obtain ⟨ca, hI1, _⟩ := HK0.out w1b hb1c
  have HI1 : Hid (InTabs w1b u ts) := hI1
  clear hI1
  go_wp2_with fail
  refine (toStore_any u ts _ HI1.out hnt).mono ?_
  rintro e w2a ⟨g1, l1, rfl, hO1, hm1, hb2a⟩
  have k02a : Below W0.heap.size W0 w2a := hb1c.trans (hb2a.mono hs1c)
  have s2a := k02a.size
  obtain ⟨_, _, hE2⟩ := HK0.out w2a k02a
  have HE2 : Hid (InEnts w2a v es ∧ OwnTabs w2a w1b.heap.size g1 l1 ∧ l1.map Tw.tb = ts.map Tn.tb) := ⟨hE2, hO1, hm1⟩
  clear hE2 hO1 hm1 hb2a
  go_wp2_with fail
  refine (toEntryS_any v es _ HE2.out.1 hne).mono ?_
  rintro e w2 ⟨ge1, rfl, hOe1, hb2⟩
  have HO1 : Hid (OwnTabs w2 w1b.heap.size g1 l1 ∧ l1.map Tw.tb = ts.map Tn.tb ∧ OwnE w2 w2a.heap.size ge1 es.length es) := ⟨HE2.out.2.1.below hb2, HE2.out.2.2, hOe1⟩
  have k02 : Below W0.heap.size W0 w2 := k02a.trans (hb2.mono s2a)
  have s2 := k02.size
  clear hOe1 hb2
  go_wp2_with fail
  refine (specWrite_at HO1.out.1 HO1.out.2.1 HE.out.2.1 HO1.out.2.2 HE.out.2.2.2 hn).mono ?_
  rintro e w3 ⟨out, hM, v0, xs0, rfl, hS0, hxo, hb3⟩
  obtain ⟨va, vn, vc, rfl⟩ : ∃ va vn vc, v0 = .slice va vn vc := by
    rcases hS0.row with ⟨_, a, c, q⟩ | ⟨g, cp, q, _⟩ <;> exact ⟨_, _, _, q⟩
  have k03 : Below W0.heap.size W0 w3 := k02.trans (hb3.mono s2)
  have s3 := k03.size
  obtain ⟨W3, hW3⟩ : ∃ W3 : World, W3 = w3.alloc (Obj.cells #[.slice va vn vc] 30) := ⟨_, rfl⟩
  have hbW3 : Below w3.heap.size w3 W3 := by rw [hW3]; exact (Below.refl _ _).alloc (Nat.le_refl _) _
  have hz3 : W3.heap.size = w3.heap.size + 1 := by rw [hW3]; simp
  have k0W3 : Below W0.heap.size W0 W3 := k03.trans (hbW3.mono s3)
  -- what spec answers, in every world to come
  have HS0 : Hid ((∀ wx, Below W3.heap.size W3 wx → wx.cell? ⟨w3.heap.size, 0, none⟩ = some (.slice va vn vc) ∧ InTabs wx (.slice va vn vc) (xs0.map Tx.tn)) ∧ WrT (ts.map Tn.tb) es out ∧ xs0.map Tx.tb = out) := ⟨fun wx hx => ⟨by rw [hx.cell (p := ⟨w3.heap.size, 0, none⟩) (by show w3.heap.size < W3.heap.size; omega), hW3]; simp, ((hS0.below hbW3).below hx).ins⟩, hM, hxo⟩
  clear hS0 hM hxo hb3 ca
  obtain ⟨ca, hI3, _⟩ := HK0.out W3 k0W3
  have HI3 : Hid (InTabs W3 u ts) := hI3
  clear hI3
  go_upto_region 9 with fail
  rw [← hW3]
  clear hW3
  go_wp2_with fail
  refine (toStore_any u ts _ HI3.out hnt).mono ?_
  rintro e w4 ⟨g2, l2, rfl, hO2, hm2, hb4⟩
  have s4 := hb4.size
  obtain ⟨Wb, hWb⟩ : ∃ Wb : World, Wb = w4.alloc (Obj.cells #[.slice (some ⟨g2, 0, none⟩) l2.length l2.length] 30) := ⟨_, rfl⟩
  have hbWb : Below w4.heap.size w4 Wb := by rw [hWb]; exact (Below.refl _ _).alloc (Nat.le_refl _) _
  have hzb : Wb.heap.size = w4.heap.size + 1 := by rw [hWb]; simp
  have k3b : Below W3.heap.size W3 Wb := hb4.trans (hbWb.mono s4)
  have k0b : Below W0.heap.size W0 Wb := k0W3.trans (k3b.mono k0W3.size)
  have HXb : Hid (OwnTabs w4 W3.heap.size g2 l2 ∧ OwnTabs Wb W3.heap.size g2 l2 ∧ l2.map Tw.tb = ts.map Tn.tb ∧ ∀ wx, Below Wb.heap.size Wb wx → wx.cell? ⟨w4.heap.size, 0, none⟩ = some (.slice (some ⟨g2, 0, none⟩) l2.length l2.length)) := ⟨hO2, hO2.below hbWb, hm2, fun wx hx => by rw [hx.cell (p := ⟨w4.heap.size, 0, none⟩) (by show w4.heap.size < Wb.heap.size; omega), hWb]; simp⟩
  clear hO2 hm2 hb4 ca
  obtain ⟨_, _, hEb⟩ := HK0.out Wb k0b
  have HEb : Hid (InEnts Wb v es) := hEb
  clear hEb
  go_upto_region 10 with fail
  rw [← hWb]
  clear hWb
  go_wp2_with fail
  refine (toEntryS_any v es _ HEb.out hne).mono ?_
  rintro e W4 ⟨ge, rfl, hOe, hbe⟩
  have sbe := hbe.size
  have hbW4 : Below w4.heap.size w4 W4 := hbWb.trans (hbe.mono (by omega))
  have k34 : Below W3.heap.size W3 W4 := k3b.trans (hbe.mono k3b.size)
  have HX : Hid (OwnTabs w4 W3.heap.size g2 l2 ∧ OwnTabs W4 W3.heap.size g2 l2 ∧ l2.map Tw.tb = ts.map Tn.tb ∧ ∀ wx, Below W4.heap.size W4 wx → wx.cell? ⟨w4.heap.size, 0, none⟩ = some (.slice (some ⟨g2, 0, none⟩) l2.length l2.length)) := ⟨HXb.out.1, HXb.out.2.1.below hbe, HXb.out.2.2.1, fun wx hx => HXb.out.2.2.2 wx (hbe.trans (hx.mono sbe))⟩
  have HXe : Hid (OwnE W4 Wb.heap.size ge es.length es) := hOe
  have hge := hOe.lt
  clear hOe
  have cx := HX.out.2.2.2 W4 (Below.refl _ _)
  go_upto_region 11 with fail
  go_wp2_with fail
  refine (implWrite_at HBu.out HX.out.2.1 HX.out.2.2.1 HE.out.2.1 HXe.out HE.out.2.2.2 hn).mono ?_
  rintro e w5 ⟨out', hM', gg, cpp, xs, rfl, hS5, hA5, hx5, hb5⟩
  have s5 := hb5.size
  obtain ⟨W5, hW5⟩ : ∃ W5 : World, W5 = w5.alloc (Obj.cells #[.slice (some ⟨gg, 0, none⟩) xs.length cpp] 30) := ⟨_, rfl⟩
  have hbW5 : Below w5.heap.size w5 W5 := by rw [hW5]; exact (Below.refl _ _).alloc (Nat.le_refl _) _
  have hz5 : W5.heap.size = w5.heap.size + 1 := by rw [hW5]; simp
  have k45 : Below W4.heap.size W4 W5 := hb5.trans (hbW5.mono s5)
  have k35 : Below W3.heap.size W3 W5 := k34.trans (k45.mono (by omega))
  have HG : Hid (OwnSt W5 W4.heap.size (.slice (some ⟨gg, 0, none⟩) xs.length cpp) xs ∧ (∀ k, KeysT (.slice (some ⟨gg, 0, none⟩) xs.length cpp) xs k → W4.heap.size ≤ k ∧ k < w5.heap.size) ∧ ApartT xs ∧ xs.map Tx.tb = out ∧ szB (xs.map Tx.tb) ≤ 2097152 ∧ xs.length ≤ 1048576 ∧ ∀ t ∈ xs, totW t.rs ≤ 1048576 ∧ t.rs.length ≤ 1048576) := by
    have e1 : out' = out := wrT_uniq hM' HS0.out.2.1
    obtain ⟨b1, b2, _⟩ := wrT_sz hM'
    have b3 := szB_tn ts
    have b4 := congrArg List.length hx5
    simp at b4 b1
    refine ⟨hS5.below hbW5, fun k hk => hS5.key hk, hA5, by rw [hx5, e1], by rw [hx5]; omega, by omega, wrT_ok (ts := ts.map Tn.tb) (ws := es) (by rw [hx5]; exact hM') (by rw [List.length_map]; omega)⟩
  have HCg : Hid (∀ wx, Below W5.heap.size W5 wx → wx.cell? ⟨w5.heap.size, 0, none⟩ = some (.slice (some ⟨gg, 0, none⟩) xs.length cpp)) := fun wx hx => by rw [hx.cell (p := ⟨w5.heap.size, 0, none⟩) (by show w5.heap.size < W5.heap.size; omega), hW5]; simp
  clear hS5 hA5 hx5 hM' hb5 cx
  have cg := HCg.out W5 (Below.refl _ _)
  obtain ⟨cw, hw5⟩ := HS0.out.1 W5 k35
  have HI5 : Hid (InTabs W5 (.slice va vn vc) (xs0.map Tx.tn)) := hw5
  clear hw5
  have HV : Hid (vwT (xs.map Tx.tn) = vwT (xs0.map Tx.tn)) := vwX_eq (by rw [HG.out.2.2.2.1, HS0.out.2.2])
  go_upto_region 12 with fail
  rw [← hW5]
  clear hW5
  go_wp2_with fail
  refine (eqStore_any _ _ _ _ _ HG.out.1.ins HI5.out HV.out).mono ?_
  rintro e w6 ⟨rfl, hb6⟩
  have s6 := hb6.size
  have k46 : Below W4.heap.size W4 w6 := k45.trans (hb6.mono (by omega))
  have k36 : Below W3.heap.size W3 w6 := k35.trans (hb6.mono (by omega))
  have k06 : Below W0.heap.size W0 w6 := k0W3.trans (k36.mono k0W3.size)
  clear cg cw
  have cx6 := HX.out.2.2.2 w6 k46
  obtain ⟨ca6, hI6, _⟩ := HK0.out w6 k06
  have HI6 : Hid (InTabs w6 u ts) := hI6
  clear hI6
  go_upto_region 14 with fail
  go_cut [44] (fun s wx => s = .bool false ∧ Below w6.heap.size w6 wx)
  case first =>
    have hz6 : w4.heap.size < w6.heap.size := by omega
    have hza : w.heap.size < w6.heap.size := by have := k06.size; omega
    have HX6 : Hid (InTabs w6 (.slice (some ⟨g2, 0, none⟩) l2.length l2.length) ((l2.map Tw.tx).map Tx.tn)) := (HX.out.2.1.st.below k46).ins
    have HM2 : Hid (l2.map Tw.tb = ts.map Tn.tb) := HX.out.2.2.1
    go_region_with (first
      | (go_at_call 8; refine (toStore_in w6 u ts _ ?hB HI6 hnt l2 HM2).mono ?_; (case hB => (repeat (first | assumption | exact Below.refl _ _ | refine Below.drew ?_))); rintro e w' ⟨g3, l3, rfl, HG3, hbb, hcc⟩)
      | (go_at_call 11; refine (eqStore_in w6 _ _ ((l2.map Tw.tx).map Tx.tn) ((l3.map Tw.tx).map Tx.tn) _ ?hB HX6 ?hC).mono ?_; (case hB => (repeat (first | assumption | exact Below.refl _ _ | refine Below.drew ?_))); (case hC => assumption); rintro e w' ⟨rfl, hbb2⟩))
    all_goals go_wp2_with fail
    all_goals go_meet
    all_goals exact ⟨rfl, by assumption⟩
  case rest =>
  obtain ⟨rfl, h7⟩ := hcut
  have s7 := h7.size
  have k07 : Below W0.heap.size W0 wc := k06.trans (h7.mono k06.size)
  have k47c : Below W4.heap.size W4 wc := k46.trans (h7.mono (by have := k46.size; omega))
  have k57c : Below W5.heap.size W5 wc := hb6.trans (h7.mono s6)
  have k37c : Below W3.heap.size W3 wc := k36.trans (h7.mono (by have := k36.size; omega))
  obtain ⟨_, _, hE7⟩ := HK0.out wc k07
  have HE7 : Hid (InEnts wc v es) := hE7
  clear hE7 cx6 ca6
  go_wp2_with fail
  refine (toEntryS_any v es _ HE7.out hne).mono ?_
  rintro e wd ⟨ge2, rfl, hOd, hbd⟩
  have sd := hbd.size
  have HEd : Hid (InEnts wd (.slice (some ⟨ge, 0, none⟩) es.length es.length) es ∧ InEnts wd (.slice (some ⟨ge2, 0, none⟩) es.length es.length) es) := by
    have h1 := (HXe.out.below k47c hge.2).below hbd (by have := k47c.size; omega)
    exact ⟨InEnts.own h1 (OwnRow.caps h1).1 (OwnRow.caps h1).2, InEnts.own hOd (OwnRow.caps hOd).1 (OwnRow.caps hOd).2⟩
  clear hOd
  go_wp2_with fail
  refine (eqEntryS_any _ _ es _ HEd.out.1 HEd.out.2).mono ?_
  rintro e w7 ⟨rfl, hb7⟩
  have hc7 : Below wc.heap.size wc w7 := hbd.trans (hb7.mono sd)
  have sc7 := hc7.size
  have k47 : Below W4.heap.size W4 w7 := k47c.trans (hc7.mono (by have := k47c.size; omega))
  have k57 : Below W5.heap.size W5 w7 := k57c.trans (hc7.mono (by have := k57c.size; omega))
  have k37 : Below W3.heap.size W3 w7 := k37c.trans (hc7.mono (by have := k37c.size; omega))
  have HT7 : Hid (OwnSt w7 W3.heap.size (.slice (some ⟨g2, 0, none⟩) l2.length l2.length) (l2.map Tw.tx) ∧ ApartT (l2.map Tw.tx) ∧ szB ((l2.map Tw.tx).map Tx.tb) ≤ 1048576 ∧ (l2.map Tw.tx).length ≤ 1048576 ∧ (∀ k, KeysT (.slice (some ⟨g2, 0, none⟩) l2.length l2.length) (l2.map Tw.tx) k → W3.heap.size ≤ k ∧ k < w4.heap.size)) := by
    have b3 := szB_tn ts
    have b4 := congrArg List.length HX.out.2.2.1
    simp at b4
    refine ⟨(HX.out.2.1.st.below k47), HX.out.2.1.apart, by rw [tx_tb, HX.out.2.2.1]; omega, by rw [List.length_map]; omega, fun k hk => HX.out.1.st.key hk⟩
  obtain ⟨tx, htx⟩ : ∃ tx, tx = totX (l2.map Tw.tx) := ⟨_, rfl⟩
  have htx1 : tx ≤ 8388608 := by
    have q1 := totX_sz (l2.map Tw.tx)
    have q2 := HT7.out.2.2.1
    have q3 := HT7.out.2.2.2.1
    rw [htx]; omega
  have HTX : Hid (tx = totX (l2.map Tw.tx)) := htx
  clear htx
  have cx7 := HX.out.2.2.2 w7 k47
  go_upto_region 19 with fail
  go_wp2_with fail
  refine (markStore_gen W3.heap.size _ _ 1 _ HT7.out.1 HT7.out.2.1 (by omega) (by rw [← HTX.out]; omega) (tx_ok HT7.out.2.2.1) HT7.out.2.2.2.1).mono ?_
  rintro e w8a ⟨ts8, rfl, _, _, _, hC8a⟩
  rw [← HTX.out]
  have s8a := hC8a.size
  have HX8 : Hid (OwnE w8a Wb.heap.size ge es.length es) := by
    have h1 := HXe.out.below k47 hge.2
    exact own_chg h1 hC8a (fun k hk q => by have e1 : ge = k := Option.some.inj hk; have := (HT7.out.2.2.2.2 k q).2; omega)
  clear cx7
  go_wp2_with fail
  refine (markEntryS_core Wb.heap.size ge es.length es _ _ HX8.out (by omega) (by omega) hne).mono ?_
  rintro e w8 ⟨fs8, rfl, _, _, _, hgr8⟩
  have hC8 : Chg (fun k => KeysT (.slice (some ⟨g2, 0, none⟩) l2.length l2.length) (l2.map Tw.tx) k ∨ k = ge) w7 w8 := (hC8a.mono (fun k hk => .inl hk)).trans (Chg.of_grown hgr8 (fun k hk => .inr (Option.some.inj hk).symm))
  have s8 := hC8.size
  have k38 : Below W3.heap.size W3 w8 := Chg.below k37 hC8 k37.size (fun k q => by
    rcases q with q | q
    · exact (HT7.out.2.2.2.2 k q).1
    · omega)
  have HG8 : Hid (OwnSt w8 W4.heap.size (.slice (some ⟨gg, 0, none⟩) xs.length cpp) xs) := (HG.out.1.below k57).chg hC8 (fun k q1 q2 q3 => by
    rcases q3 with q3 | q3
    · have := (HT7.out.2.2.2.2 k q3).2; omega
    · omega)
  have cg8 : w8.cell? ⟨w5.heap.size, 0, none⟩ = some (.slice (some ⟨gg, 0, none⟩) xs.length cpp) := by
    have z1 := k57.size
    rw [hC8.cell (p := ⟨w5.heap.size, 0, none⟩) (by show w5.heap.size < w7.heap.size; omega) (fun q => by
      rcases q with q | q
      · have := (HT7.out.2.2.2.2 _ q).2; simp only at this; omega
      · simp only at q; omega)]; exact HCg.out w7 k57
  obtain ⟨cw8, hw8⟩ := HS0.out.1 w8 k38
  have HI8 : Hid (InTabs w8 (.slice va vn vc) (xs0.map Tx.tn)) := hw8
  clear hw8 hC8 hC8a hgr8
  obtain ⟨te, hte⟩ : ∃ te : Nat, te = tx + es.length * 6 := ⟨_, rfl⟩
  have zke : (1 : Int) + (tx : Int) + (es.length : Int) * 6 = 1 + (te : Int) := by omega
  rw [zke]
  have zk : ¬ (1 : Int) + (te : Int) < 0 := by omega
  have hd : decide ((1 : Int) + (te : Int) < 0) = false := decide_eq_false zk
  go_wp2_with fail
  refine (eqStore_any _ _ _ _ _ HG8.out.ins HI8.out HV.out).mono ?_
  rintro e w9 ⟨rfl, hb9⟩
  have s9 := hb9.size
  have k39 : Below W3.heap.size W3 w9 := k38.trans (hb9.mono k38.size)
  have z58 : w5.heap.size < w8.heap.size := by have := k57.size; omega
  have cg9 : w9.cell? ⟨w5.heap.size, 0, none⟩ = some (.slice (some ⟨gg, 0, none⟩) xs.length cpp) := by rw [hb9.cell (p := ⟨w5.heap.size, 0, none⟩) z58]; exact cg8
  have HG9 : Hid (OwnSt w9 W4.heap.size (.slice (some ⟨gg, 0, none⟩) xs.length cpp) xs) := HG8.out.below hb9
  obtain ⟨tg, htg⟩ : ∃ tg, tg = totX xs := ⟨_, rfl⟩
  have htg1 : tg ≤ 16777216 := by
    have q1 := totX_sz xs
    have q2 := HG.out.2.2.2.2.1
    have q3 := HG.out.2.2.2.2.2.1
    rw [htg]; omega
  have HTG : Hid (tg = totX xs) := htg
  clear htg cg8 cw8
  go_upto_region 24 with fail
  go_wp2_with fail
  refine (markStore_gen W4.heap.size _ _ 1 _ HG9.out HG.out.2.2.1 (by omega) (by rw [← HTG.out]; omega) HG.out.2.2.2.2.2.2 HG.out.2.2.2.2.2.1).mono ?_
  rintro e w10 ⟨ts10, rfl, hsh, hS10, hmk, hC10⟩
  rw [← HTG.out]
  have s10 := hC10.size
  have z34 := k34.size
  have k310 : Below W3.heap.size W3 w10 := Chg.below k39 hC10 k39.size (fun k q => by have := (HG.out.2.1 k q).1; omega)
  have cg10 : w10.cell? ⟨w5.heap.size, 0, none⟩ = some (.slice (some ⟨gg, 0, none⟩) xs.length cpp) := by
    rw [hC10.cell (p := ⟨w5.heap.size, 0, none⟩) (by show w5.heap.size < w9.heap.size; omega) (fun q => by have := (HG.out.2.1 _ q).2; simp only at this; omega)]; exact cg9
  have HG10 : Hid (OwnSt w10 W4.heap.size (.slice (some ⟨gg, 0, none⟩) xs.length cpp) ts10 ∧ MarkedT 1 ts10 ∧ totX ts10 = tg ∧ (∀ t ∈ ts10, totW t.rs ≤ 1048576 ∧ t.rs.length ≤ 1048576) ∧ ts10.length ≤ 1048576) := by
    have q1 := congrArg List.length hsh
    simp at q1
    refine ⟨hS10, hmk, by rw [shpT_tot hsh]; exact HTG.out.symm, shpT_ok hsh HG.out.2.2.2.2.2.2, by have := HG.out.2.2.2.2.2.1; omega⟩
  clear hsh hS10 hmk hC10 cg9
  go_upto_region 26 with fail
  go_wp2_with fail
  refine (heldStore_gen W4.heap.size _ ts10 1 _ HG10.out.1 HG10.out.2.1 (by omega) (by rw [HG10.out.2.2.1]; omega) HG10.out.2.2.2.1 HG10.out.2.2.2.2).mono ?_
  rintro e w11 ⟨rfl, hb11⟩
  rw [HG10.out.2.2.1]
  have k311 : Below W3.heap.size W3 w11 := k310.trans (hb11.mono k310.size)
  have k011 : Below W0.heap.size W0 w11 := k0W3.trans (k311.mono k0W3.size)
  obtain ⟨ca11, hI11, _⟩ := HK0.out w11 k011
  have HI11 : Hid (InTabs w11 u ts) := hI11
  clear hI11 cg10
  have zq : ¬ (1 : Int) + (tg : Int) < 0 := by omega
  go_wp2_with fail
  refine (toStore_any u ts _ HI11.out hnt).mono ?_
  rintro e w12a ⟨g3, l3, rfl, hO3, hm3, hb12a⟩
  have k312a : Below W3.heap.size W3 w12a := k311.trans (hb12a.mono k311.size)
  have k012a : Below W0.heap.size W0 w12a := k0W3.trans (k312a.mono k0W3.size)
  obtain ⟨_, _, hE12⟩ := HK0.out w12a k012a
  have HE12 : Hid (InEnts w12a v es ∧ OwnTabs w12a w11.heap.size g3 l3 ∧ l3.map Tw.tb = ts.map Tn.tb) := ⟨hE12, hO3, hm3⟩
  clear hE12 hO3 hm3
  go_wp2_with fail
  refine (toEntryS_any v es _ HE12.out.1 hne).mono ?_
  rintro e w12 ⟨ge3, rfl, hOe3, hb12⟩
  have k312 : Below W3.heap.size W3 w12 := k312a.trans (hb12.mono k312a.size)
  have HO3 : Hid (OwnTabs w12 w11.heap.size g3 l3 ∧ l3.map Tw.tb = ts.map Tn.tb ∧ OwnE w12 w12a.heap.size ge3 es.length es) := ⟨HE12.out.2.1.below hb12, HE12.out.2.2, hOe3⟩
  clear hOe3
  go_wp2_with fail
  refine (implWrite_at HBu.out HO3.out.1 HO3.out.2.1 HE.out.2.1 HO3.out.2.2 HE.out.2.2.2 hn).mono ?_
  rintro e w13 ⟨out', hM', gh, cph, ys, rfl, hS13, _, hx13, hb13⟩
  have k313 : Below W3.heap.size W3 w13 := k312.trans (hb13.mono k312.size)
  obtain ⟨W14, hW14⟩ : ∃ W14 : World, W14 = w13.alloc (Obj.cells #[.slice (some ⟨gh, 0, none⟩) ys.length cph] 30) := ⟨_, rfl⟩
  have hbW14 : Below w13.heap.size w13 W14 := by rw [hW14]; exact (Below.refl _ _).alloc (Nat.le_refl _) _
  have k314 : Below W3.heap.size W3 W14 := k313.trans (hbW14.mono k313.size)
  have HH : Hid (InTabs W14 (.slice (some ⟨gh, 0, none⟩) ys.length cph) (ys.map Tx.tn) ∧ vwT (ys.map Tx.tn) = vwT (xs0.map Tx.tn)) := ⟨(hS13.below hbW14).ins, vwX_eq (by rw [hx13, HS0.out.2.2]; exact wrT_uniq hM' HS0.out.2.1)⟩
  have ch : W14.cell? ⟨w13.heap.size, 0, none⟩ = some (.slice (some ⟨gh, 0, none⟩) ys.length cph) := by rw [hW14]; simp
  obtain ⟨cw14, hw14⟩ := HS0.out.1 W14 k314
  have HI14 : Hid (InTabs W14 (.slice va vn vc) (xs0.map Tx.tn)) := hw14
  clear hw14 hS13 hx13 hM' ca11
  go_upto_region 32 with fail
  rw [← hW14]
  clear hW14
  go_wp2_with fail
  refine (eqStore_any _ _ _ _ _ HH.out.1 HI14.out HH.out.2).mono ?_
  rintro e w15 ⟨rfl, hb15⟩
  have k315 : Below W3.heap.size W3 w15 := k314.trans (hb15.mono k314.size)
  go_wp2_with fail
  go_ret
  exact ⟨rfl, (hb0.trans (k0W3.mono (by omega))).trans (k315.mono (by have := k0W3.size; omega))⟩

theorem lifted (hBuild : BuildW) (os : Os) (started : os.Started) (H : Type) (enc : TypeId × Value → H) :
    ReturnsInHanded {} Tryz.checked os 3 .any (Rows.fnExactWriteStoreSpec.pre6 enc Tryz.prog Tryz.f3 Rows.fnExactWriteStoreRow.domain false) (Rows.fnExactWriteStoreSpec.post enc Tryz.prog Tryz.f3 false true false false) := by
  refine returnsInHanded_of_change (C := Tryz.checked) own started (by kernel_rfl) Tryz.func3
    (ChangeSpec.witness6 (enc := enc) (C := Tryz.checked) false ⟨#[], #[.agg #[.slice none 0 0], .slice none 0 0], []⟩ 8 (by kernel_rfl) (by kernel_rfl) (by kernel_rfl) (by kernel_rfl)) ?_
  intro W base args ds gs before hval0 hW hcnd _
  have hval : ∀ (j : Nat) t v, Tryz.f3.params[j]? = some t → args[j]? = some v → Value.okWide Tryz.prog W .any base t v := hval0
  have hW' := hW
  obtain ⟨p, q, hA0, hV, rfl, hfz, hnd⟩ := hW
  have hA : DataW.TrodAll enc Tryz.prog W 0 (fun _ => true) true Tryz.f3.params.toList args.toList ds p := hA0
  rw [Tryz.params3] at hA hval
  obtain ⟨v0, vs0, d0, ds0, p0, q0, hargs, rfl, rfl, h0, r0⟩ := trodAll_cons hA
  obtain ⟨v1, vs1, d1, ds1, p1, q1, rfl, rfl, rfl, h1, r1⟩ := trodAll_cons r0
  obtain ⟨rfl, rfl, rfl⟩ := trodAll_nil r1
  obtain rfl : args = #[v0, v1] := by cases args; simp_all
  obtain ⟨rfl, rfl⟩ := trodVars_none hV
  have k0 := h0
  have lt0 : ∀ x ∈ p0, x.block < W.heap.size := by obtain ⟨m, hm⟩ := k0; exact DataW.trod_lt m _ _ _ hm
  obtain ⟨u, ts, rfl, hin, ok0⟩ := open_store (hval 0 24 v0 rfl rfl) h0
  have k1 := h1
  have lt1 : ∀ x ∈ p1, x.block < W.heap.size := by obtain ⟨m, hm⟩ := k1; exact DataW.trod_lt m _ _ _ hm
  obtain ⟨es, hin1, ok1⟩ : ∃ es : List Ent, InEnts W v1 es ∧ ∀ e ∈ es, e.ok := by
    obtain ⟨a0, len0, cap0, rfl⟩ := okWide_slice Tryz.underlying25 (hval 1 25 v1 rfl rfl)
    obtain ⟨fuel, hf⟩ := h1
    exact ents_of_trod (by simpa [Value.cells] using hf)
  clear hA0 hval0
  refine (walk hBuild u v1 ts es W hin ok0 hin1 ok1).mono fun e W' ⟨he, bel⟩ => ?_
  subst he
  exact ⟨_, rfl, _, _, _, [], _, [], hW', trodAll_mk1 (shut_bool Tryz.underlying4 _), (trodAll_cons_mk (Below.trod laidOut (by kernel_rfl) (of_decide_eq_true (by kernel_rfl)) k0 bel lt0) (trodAll_cons_mk (Below.trod laidOut (by kernel_rfl) (of_decide_eq_true (by kernel_rfl)) k1 bel lt1) trodAll_mk0)), rfl, bel.frame _, fun h => by cases h⟩

theorem over (hBuild : BuildW) : Rows.fnExactWriteStoreRow.holds Tryz.pinned (OpenSpec.ofChange Rows.fnExactWriteStoreSpec) :=
  OpenClaim.holds_of_wide 3 Tryz.f3 rfl rfl rfl rfl rfl rfl rfl ⟨rfl, rfl, rfl, rfl, rfl⟩ rfl rfl rfl rfl rfl (by kernel_rfl) Tryz.func3 (by kernel_rfl)
    (of_decide_eq_true (by kernel_rfl)) (by unfold Func.isWrapper; first | (rw [if_pos (by decide +kernel)]; kernel_rfl) | (rw [if_neg (by decide +kernel)]; exact ⟨rfl, rfl⟩))
    (fun os started H enc _ => lifted hBuild os started H enc)

end Go.Proofs.YtlgeffinhbodeafGreat.exWriteStore

/-
  What the columns of a list of writes hold is what its run keeps.
-/
namespace Go.Proofs.YtlgeffinhbodeafGreat
set_option linter.unusedVariables false

theorem sameCol_wcol {a b : Ent} : sameCol a b = true ↔ a.wcol = b.wcol := by
  rw [sameCol_iff]
  unfold Ent.wcol
  simp
theorem kills_of {v e : Ent} (h : kills v e = true) : v.wcol = e.wcol ∧ ((v.kind = 2 ∧ e.ts ≤ v.ts) ∨ (¬ v.kind = 2 ∧ v.ts = e.ts)) := by
  unfold kills at h
  rw [Bool.and_eq_true] at h
  refine ⟨sameCol_wcol.1 h.1, ?_⟩
  by_cases k : v.kind = 2
  · left
    have := h.2
    rw [if_pos (by simp [k])] at this
    exact ⟨k, of_decide_eq_true this⟩
  · right
    have := h.2
    rw [if_neg (by simp [k])] at this
    exact ⟨k, by simpa using this⟩
theorem kills_mk {v e : Ent} (h : v.wcol = e.wcol) (k : (v.kind = 2 ∧ e.ts ≤ v.ts) ∨ (¬ v.kind = 2 ∧ v.ts = e.ts)) : kills v e = true := by
  unfold kills
  rw [sameCol_wcol.2 h, Bool.true_and]
  rcases k with ⟨k, q⟩ | ⟨k, q⟩
  · rw [if_pos (by simp [k])]; simpa using q
  · rw [if_neg (by simp [k])]; simpa using q
theorem stands_succ (w : Ent) (l : List Ent) (i : Nat) : Stands (w :: l) (i + 1) ↔ Stands l i := by
  constructor
  · intro h j v e h1 h2 h3
    exact h (j + 1) v e (by omega) (by simpa using h2) (by simpa using h3)
  · intro h j v e h1 h2 h3
    obtain ⟨j', rfl⟩ : ∃ j', j = j' + 1 := ⟨j - 1, by omega⟩
    exact h j' v e (by omega) (by simpa using h2) (by simpa using h3)
theorem stands_zero (w : Ent) (l : List Ent) : Stands (w :: l) 0 ↔ ∀ v ∈ l, kills v w = false := by
  constructor
  · intro h v hv
    obtain ⟨j, hj⟩ := List.getElem?_of_mem hv
    exact h (j + 1) v w (by omega) (by simpa using hj) rfl
  · intro h j v e h1 h2 h3
    obtain ⟨j', rfl⟩ : ∃ j', j = j' + 1 := ⟨j - 1, by omega⟩
    simp at h2 h3
    subst h3
    exact h v (List.mem_of_getElem? h2)

/-- The deletes of a column. -/
structure DelOk (l : List Ent) (c : Col) (k : CW) : Prop where
  has : k.d = true → ∃ e ∈ l, e.wcol = c ∧ e.kind = 2 ∧ e.ts = k.u
  all : ∀ e ∈ l, e.wcol = c → e.kind = 2 → k.d = true ∧ e.ts ≤ k.u
  zero : k.d = false → k.u = 0
theorem delOk : ∀ (l : List Ent), (∀ e ∈ l, 0 ≤ e.ts) → ∀ c, DelOk l c ((colsOf l c).getD cw0)
  | [], _, c => ⟨fun h => by simp [colsOf, cw0] at h, fun e h => by simp at h, fun _ => rfl⟩
  | w :: l, hp, c => by
    have ih := delOk l (fun e he => hp e (List.mem_cons_of_mem _ he)) c
    have hw := hp w (by simp)
    by_cases hc : c = w.wcol
    · have e1 : (colsOf (w :: l) c).getD cw0 = cwAdd ((colsOf l c).getD cw0) w := by simp [colsOf, hc]
      rw [e1]
      generalize (colsOf l c).getD cw0 = k at *
      unfold cwAdd
      by_cases hk : w.kind = 2
      · rw [if_pos hk]
        refine ⟨fun _ => ?_, fun e he h1 h2 => ?_, fun h => by simp at h⟩
        · by_cases hm : k.u ≤ w.ts
          · exact ⟨w, by simp, hc.symm, hk, by simp [Int.max_eq_right hm]⟩
          · cases hd : k.d with
            | false => have := ih.zero hd; omega
            | true =>
              obtain ⟨e, h1, h2, h3, h4⟩ := ih.has hd
              exact ⟨e, List.mem_cons_of_mem _ h1, h2, h3, by rw [h4]; simp; omega⟩
        · refine ⟨rfl, ?_⟩
          rcases List.mem_cons.1 he with rfl | he
          · simp; omega
          · have := (ih.all e he h1 h2).2
            simp; omega
      · rw [if_neg hk]
        by_cases hd : k.d = true ∧ w.ts ≤ k.u
        · rw [if_pos hd]
          refine ⟨fun h => ?_, fun e he h1 h2 => ?_, ih.zero⟩
          · obtain ⟨e, h1, h2⟩ := ih.has h
            exact ⟨e, List.mem_cons_of_mem _ h1, h2⟩
          · rcases List.mem_cons.1 he with rfl | he
            · exact absurd h2 hk
            · exact ih.all e he h1 h2
        · rw [if_neg hd]
          refine ⟨fun h => ?_, fun e he h1 h2 => ?_, ih.zero⟩
          · obtain ⟨e, h1, h2⟩ := ih.has h
            exact ⟨e, List.mem_cons_of_mem _ h1, h2⟩
          · rcases List.mem_cons.1 he with rfl | he
            · exact absurd h2 hk
            · exact ih.all e he h1 h2
    · have e1 : (colsOf (w :: l) c).getD cw0 = (colsOf l c).getD cw0 := by simp [colsOf, hc]
      rw [e1]
      refine ⟨fun h => ?_, fun e he h1 h2 => ?_, ih.zero⟩
      · obtain ⟨e, h1, h2⟩ := ih.has h
        exact ⟨e, List.mem_cons_of_mem _ h1, h2⟩
      · rcases List.mem_cons.1 he with rfl | he
        · exact absurd h1.symm hc
        · exact ih.all e he h1 h2

/-- A write that no delete of its column covers leaves something at its key. -/
theorem some_left : ∀ (l : List Ent), (∀ e ∈ l, 0 ≤ e.ts) → ∀ c t, (∃ v ∈ l, v.wcol = c ∧ ¬ v.kind = 2 ∧ v.ts = t) → ¬ (((colsOf l c).getD cw0).d = true ∧ t ≤ ((colsOf l c).getD cw0).u) → (((colsOf l c).getD cw0).f t).isSome = true
  | [], _, c, t, ⟨v, hv, _⟩, _ => by simp at hv
  | w :: l, hp, c, t, ⟨v, hv, h1, h2, h3⟩, hn => by
    have ih := some_left l (fun e he => hp e (List.mem_cons_of_mem _ he)) c t
    by_cases hc : c = w.wcol
    · have e1 : (colsOf (w :: l) c).getD cw0 = cwAdd ((colsOf l c).getD cw0) w := by simp [colsOf, hc]
      rw [e1] at hn ⊢
      generalize (colsOf l c).getD cw0 = k at *
      unfold cwAdd at *
      by_cases hk : w.kind = 2
      · rw [if_pos hk] at hn ⊢
        refine ih ⟨v, ?_, h1, h2, h3⟩ (fun q => hn ⟨rfl, ?_⟩)
        · rcases List.mem_cons.1 hv with rfl | hv
          · exact absurd hk h2
          · exact hv
        · have := q.2
          simp; omega
      · rw [if_neg hk] at hn ⊢
        by_cases hd : k.d = true ∧ w.ts ≤ k.u
        · rw [if_pos hd] at hn ⊢
          refine ih ⟨v, ?_, h1, h2, h3⟩ hn
          rcases List.mem_cons.1 hv with rfl | hv
          · exact absurd ⟨hd.1, by rw [← h3]; exact hd.2⟩ hn
          · exact hv
        · rw [if_neg hd] at hn ⊢
          simp only
          by_cases ht : t = w.ts
          · rw [if_pos ht]
            cases hq : (k.f t).isSome <;> simp [hq]
          · rw [if_neg ht]
            refine ih ⟨v, ?_, h1, h2, h3⟩ hn
            rcases List.mem_cons.1 hv with rfl | hv
            · exact absurd h3.symm ht
            · exact hv
    · have e1 : (colsOf (w :: l) c).getD cw0 = (colsOf l c).getD cw0 := by simp [colsOf, hc]
      rw [e1] at hn ⊢
      refine ih ⟨v, ?_, h1, h2, h3⟩ hn
      rcases List.mem_cons.1 hv with rfl | hv
      · exact absurd h1.symm hc
      · exact hv

theorem left_iff : ∀ (l : List Ent), (∀ e ∈ l, 0 ≤ e.ts) → ∀ c t x, ((colsOf l c).getD cw0).f t = some x ↔ (x.wcol = c ∧ x.ts = t ∧ ¬ x.kind = 2 ∧ ∃ i, l[i]? = some x ∧ Stands l i)
  | [], _, c, t, x => by simp [colsOf, cw0]
  | w :: l, hp, c, t, x => by
    have hp' : ∀ e ∈ l, 0 ≤ e.ts := fun e he => hp e (List.mem_cons_of_mem _ he)
    have ih := left_iff l hp' c
    have hdel := delOk l hp' c
    have hsl := some_left l hp' c
    -- what stands at place 0, and behind it
    have hsplit : ∀ x : Ent, (∃ i, (w :: l)[i]? = some x ∧ Stands (w :: l) i) ↔ ((x = w ∧ ∀ v ∈ l, kills v w = false) ∨ ∃ i, l[i]? = some x ∧ Stands l i) := by
      intro x
      constructor
      · rintro ⟨i, h1, h2⟩
        cases i with
        | zero => simp at h1; exact .inl ⟨h1.symm, (stands_zero w l).1 h2⟩
        | succ i => exact .inr ⟨i, by simpa using h1, (stands_succ w l i).1 h2⟩
      · rintro (⟨rfl, h⟩ | ⟨i, h1, h2⟩)
        · exact ⟨0, rfl, (stands_zero x l).2 h⟩
        · exact ⟨i + 1, by simpa using h1, (stands_succ w l i).2 h2⟩
    rw [hsplit]
    by_cases hc : c = w.wcol
    · have e1 : (colsOf (w :: l) c).getD cw0 = cwAdd ((colsOf l c).getD cw0) w := by simp [colsOf, hc]
      rw [e1]
      generalize (colsOf l c).getD cw0 = k at *
      unfold cwAdd
      by_cases hk : w.kind = 2
      · rw [if_pos hk]
        simp only
        rw [ih]
        constructor
        · rintro ⟨h1, h2, h3, h4⟩; exact ⟨h1, h2, h3, .inr h4⟩
        · rintro ⟨h1, h2, h3, h4 | h4⟩
          · rw [h4.1] at h3; exact absurd hk h3
          · exact ⟨h1, h2, h3, h4⟩
      · rw [if_neg hk]
        by_cases hd : k.d = true ∧ w.ts ≤ k.u
        · rw [if_pos hd, ih]
          constructor
          · rintro ⟨h1, h2, h3, h4⟩; exact ⟨h1, h2, h3, .inr h4⟩
          · rintro ⟨h1, h2, h3, h4 | h4⟩
            · exfalso
              obtain ⟨e, g1, g2, g3, g4⟩ := hdel.has hd.1
              have := h4.2 e g1
              rw [kills_mk (g2.trans hc) (.inl ⟨g3, by rw [g4]; exact hd.2⟩)] at this
              cases this
            · exact ⟨h1, h2, h3, h4⟩
        · rw [if_neg hd]
          simp only
          by_cases ht : t = w.ts
          · rw [if_pos ht]
            cases hq : k.f t with
            | some y =>
              simp only [Option.isSome_some, if_true]
              have hy := (ih t y).1 hq
              constructor
              · intro h
                injection h with h
                subst h
                exact ⟨hy.1, hy.2.1, hy.2.2.1, .inr hy.2.2.2⟩
              · rintro ⟨h1, h2, h3, h4 | h4⟩
                · exfalso
                  obtain ⟨i, g1, g2⟩ := hy.2.2.2
                  have := h4.2 y (List.mem_of_getElem? g1)
                  rw [kills_mk (hy.1.trans hc) (.inr ⟨hy.2.2.1, hy.2.1.trans ht⟩)] at this
                  cases this
                · rw [← hq]; exact (ih t x).2 ⟨h1, h2, h3, h4⟩
            | none =>
              simp only [Option.isSome_none, Bool.false_eq_true, if_false]
              constructor
              · intro h
                injection h with h
                subst h
                refine ⟨hc.symm, ht.symm, hk, .inl ⟨rfl, fun v hv => ?_⟩⟩
                cases hkl : kills v w with
                | false => rfl
                | true =>
                  exfalso
                  obtain ⟨g1, g2⟩ := kills_of hkl
                  rcases g2 with ⟨g2, g3⟩ | ⟨g2, g3⟩
                  · have := hdel.all v hv (g1.trans hc.symm) g2
                    exact hd ⟨this.1, by omega⟩
                  · have := hsl t ⟨v, hv, g1.trans hc.symm, g2, g3.trans ht.symm⟩ (fun q => hd ⟨q.1, by rw [← ht]; exact q.2⟩)
                    rw [hq] at this
                    cases this
              · rintro ⟨h1, h2, h3, h4 | h4⟩
                · rw [h4.1]
                · have := (ih t x).2 ⟨h1, h2, h3, h4⟩
                  rw [hq] at this
                  cases this
          · rw [if_neg ht, ih]
            constructor
            · rintro ⟨h1, h2, h3, h4⟩; exact ⟨h1, h2, h3, .inr h4⟩
            · rintro ⟨h1, h2, h3, h4 | h4⟩
              · rw [h4.1] at h2; exact absurd h2.symm ht
              · exact ⟨h1, h2, h3, h4⟩
    · have e1 : (colsOf (w :: l) c).getD cw0 = (colsOf l c).getD cw0 := by simp [colsOf, hc]
      rw [e1, ih]
      constructor
      · rintro ⟨h1, h2, h3, h4⟩; exact ⟨h1, h2, h3, .inr h4⟩
      · rintro ⟨h1, h2, h3, h4 | h4⟩
        · rw [h4.1] at h1; exact absurd h1.symm hc
        · exact ⟨h1, h2, h3, h4⟩

theorem colsOf_mem : ∀ (l : List Ent) (c : Col), (∃ k, colsOf l c = some k) ↔ ∃ e ∈ l, e.wcol = c
  | [], c => by simp [colsOf]
  | w :: l, c => by
    by_cases hc : c = w.wcol
    · simp [colsOf, hc]
    · have := colsOf_mem l c
      simp only [colsOf, hc, if_false]
      rw [this]
      constructor
      · rintro ⟨e, h1, h2⟩; exact ⟨e, List.mem_cons_of_mem _ h1, h2⟩
      · rintro ⟨e, h1, h2⟩
        rcases List.mem_cons.1 h1 with rfl | h1
        · exact absurd h2.symm hc
        · exact ⟨e, h1, h2⟩
end Go.Proofs.YtlgeffinhbodeafGreat

/-
  impl.gatherColumns: the map of the columns.
-/
namespace Go.Proofs.YtlgeffinhbodeafGreat
open Go.ChangeShapes Go.WideShapes Go.ChangeAt Go.RowKit Go.Deep Go.Maps
set_option linter.unusedVariables false
set_option maxRecDepth 100000

/-- One step of the columns' map, whatever the way. -/
theorem withEarlier_any (k : CW) (m : Option Nat) (base N : Nat) (e : Ent) (w : World) (hi : Inner w base N m k.f) (hN : N < maxLen) (hw : (Lit.int .u64 e.ts).wf = true) (hbase : base ≤ w.heap.size) :
    Calls Tryz.prog 83 #[.agg #[.bool k.d, .int .u64 k.u, .map m], e.v] w fun r w' =>
      ∃ m', r = .returned (.agg #[.bool (cwAdd k e).d, .int .u64 (cwAdd k e).u, .map m']) ∧ Inner w' base (N + 1) m' (cwAdd k e).f ∧ (m' = m ∨ (m = none ∧ ∃ b, m' = some b ∧ w.heap.size ≤ b)) ∧ w.grownBy w' m := by
  by_cases hk : e.kind = 2
  · have e1 : cwAdd k e = ⟨true, max k.u e.ts, k.f⟩ := by unfold cwAdd; rw [if_pos hk]
    rw [e1]
    refine (withEarlier_del k.d k.u m e w hk).mono ?_
    rintro r w' ⟨rfl, hb⟩
    exact ⟨m, rfl, (hi.kept (row := none) (grown_of_below hb none) (by cases m <;> simp)).mono (Nat.le_succ _), .inl rfl, grown_of_below hb m⟩
  · by_cases hd : k.d = true ∧ e.ts ≤ k.u
    · have e1 : cwAdd k e = k := by unfold cwAdd; rw [if_neg hk, if_pos hd]
      rw [e1, hd.1]
      refine (withEarlier_gone k.u m e w hk hd.2).mono ?_
      rintro r w' ⟨rfl, hb⟩
      exact ⟨m, rfl, (hi.kept (row := none) (grown_of_below hb none) (by cases m <;> simp)).mono (Nat.le_succ _), .inl rfl, grown_of_below hb m⟩
    · have e1 : cwAdd k e = ⟨k.d, k.u, fun t => if t = e.ts then (if (k.f t).isSome then k.f t else some e) else k.f t⟩ := by unfold cwAdd; rw [if_neg hk, if_neg hd]
      rw [e1]
      have hu : k.d = true → ¬ e.ts ≤ k.u := fun h1 h2 => hd ⟨h1, h2⟩
      rcases hi with ⟨rfl, hf⟩ | ⟨b, n, rfl, hI, hn, hbb⟩
      · refine (withEarlier_new k.d k.u e w hk hu hw).mono ?_
        rintro r w' ⟨b, rfl, hb1, hI, hb⟩
        refine ⟨some b, rfl, .inr ⟨b, 1, rfl, ?_, by omega, by omega⟩, .inr ⟨rfl, b, rfl, hb1⟩, grown_of_below hb none⟩
        rw [hf]
        have : (fun t => if t = e.ts then (if ((fun _ => none : Int → Option Ent) t).isSome then ((fun _ => none : Int → Option Ent) t) else some e) else ((fun _ => none : Int → Option Ent) t)) = (fun t => if t = e.ts then some e else none) := funext fun t => by by_cases q : t = e.ts <;> simp [q]
        show Inn w' b 1 (fun t => if t = e.ts then (if ((fun _ => none : Int → Option Ent) t).isSome then ((fun _ => none : Int → Option Ent) t) else some e) else ((fun _ => none : Int → Option Ent) t))
        rw [this]
        exact hI
      · refine (withEarlier_old k.d k.u b n k.f e w hk hu hI (Nat.lt_of_le_of_lt hn hN) hw).mono ?_
        rintro r w' ⟨rfl, hI', hg⟩
        exact ⟨some b, rfl, .inr ⟨b, n + 1, rfl, hI', Nat.succ_le_succ hn, hbb⟩, .inl rfl, hg⟩

theorem col_okc {e : Ent} (h : e.ok) : Col.okc e.wcol := ⟨h.row, h.fam, h.qual⟩
theorem colsOf_drop {ws : List Ent} {k : Nat} {e : Ent} (h : ws[k]? = some e) : colsOf (ws.drop k) = fun x => if x = e.wcol then some (cwAdd ((colsOf (ws.drop (k + 1)) e.wcol).getD cw0) e) else colsOf (ws.drop (k + 1)) x := by
  have hlt : k < ws.length := (List.getElem?_eq_some_iff.1 h).1
  rw [List.drop_eq_getElem_cons hlt]
  rw [List.getElem?_eq_getElem hlt] at h
  simp at h
  rw [h]
  funext x
  by_cases q : x = e.wcol
  · subst q; simp [colsOf]
  · simp [colsOf, q]

set_option maxHeartbeats 4000000 in
set_option maxRecDepth 100000 in
theorem gather_core (b off cap : Nat) (ws : List Ent) (w : World) (hE : EntsAt w b off ws) (hok : ∀ e ∈ ws, e.ok) (hB : b < w.heap.size) (hlen : ws.length ≤ 1048576) :
    Calls Tryz.prog 61 #[.slice (some ⟨b, off, none⟩) ws.length cap] w fun r w' =>
      ∃ M, r = .returned (.map (some w.heap.size)) ∧ Outer w' w.heap.size w.heap.size ws.length (colsOf ws) M ∧ Below w.heap.size w w' := by
  have HE : Hid (EntsAt w b off ws) := hE
  have HO : Hid (∀ e ∈ ws, e.ok) := hok
  clear hE hok
  have hmm := @run_makeMap Tryz.prog
  obtain ⟨W0, hW0⟩ : ∃ W0 : World, W0 = w.alloc (.map #[] 0) := ⟨_, rfl⟩
  have hb0 : Below w.heap.size w W0 := by rw [hW0]; exact (Below.refl _ _).alloc (Nat.le_refl _) _
  have HM0 : Hid (Outer W0 w.heap.size w.heap.size 0 (fun _ => none) (fun _ => none)) := by
    show Outer W0 w.heap.size w.heap.size 0 (fun _ => none) (fun _ => none)
    rw [hW0]; exact Outer.made w _
  go_enter Tryz.func61, Tryz.ntmps61
  go_wp2_with fail
  rw [← hW0]
  clear hW0 hmm
  go_loopw [4] (fun i wr => ∃ (k : Nat) (M : Col → Option Nat), k ≤ ws.length ∧ i = .int .i64 ((k : Int) - 1) ∧ Outer wr w.heap.size w.heap.size (ws.length - k) (colsOf (ws.drop k)) M ∧ Below w.heap.size w wr) (fun i _ => (intOf i + 1).toNat)
  case atStart =>
    refine ⟨ws.length, fun _ => none, Nat.le_refl _, rfl, ?_, hb0⟩
    rw [Nat.sub_self, List.drop_length]
    exact HM0.out
  case round =>
    obtain ⟨k, M, hk, rfl, hM, hb⟩ := hrel
    have HM : Hid (Outer wr w.heap.size w.heap.size (ws.length - k) (colsOf (ws.drop k)) M) := hM
    clear hM
    have hs := hb.size
    by_cases hp : 0 < k
    · obtain ⟨j, rfl⟩ : ∃ j, k = j + 1 := ⟨k - 1, by omega⟩
      have hji : (((j + 1 : Nat) : Int) - 1) = (j : Int) := by omega
      rw [hji]
      clear hji
      obtain ⟨e, he⟩ : ∃ e, ws[j]? = some e := ⟨_, List.getElem?_eq_getElem (by omega)⟩
      obtain ⟨c0, c1, c2, c3, c4, c5⟩ := (HE.out.below hb hB) j e he
      have HK : Hid (ws[j]? = some e ∧ e.ok) := ⟨he, HO.out e (List.mem_of_getElem? he)⟩
      clear he
      have z1 : (0 : Int) ≤ (j : Int) := by omega
      have z2 : (j : Int) < (ws.length : Int) := by omega
      go_wp2_with fail
      refine (column_any e _).mono ?_
      rintro r w1 ⟨rfl, hb1⟩
      have hs1 := hb1.size
      obtain ⟨W2, hW2⟩ : ∃ W2 : World, W2 = w1.alloc (Obj.cells #[.string e.row, .string e.fam, .string e.qual] 98) := ⟨_, rfl⟩
      have hb2 : Below w.heap.size w W2 := by rw [hW2]; exact (hb.trans (hb1.mono (by omega))).alloc (by omega) _
      have hg2 : wr.grownBy W2 none := by rw [hW2]; exact grown_of_below (hb1.alloc hs1 _) none
      have hz2 : w1.heap.size < W2.heap.size := by rw [hW2]; simp
      have k0 : W2.cell? ⟨w1.heap.size, 0, none⟩ = some (.string e.row) := by rw [hW2]; simp
      have k1 : W2.cell? ⟨w1.heap.size, 1, none⟩ = some (.string e.fam) := by rw [hW2]; simp
      have k2 : W2.cell? ⟨w1.heap.size, 2, none⟩ = some (.string e.qual) := by rw [hW2]; simp
      have HM2 : Hid (Outer W2 w.heap.size w.heap.size (ws.length - (j + 1)) (colsOf (ws.drop (j + 1))) M) := HM.out.kept hg2
      clear c0 c1 c2 c3 c4 c5 hg2
      go_upto_region 6 with fail
      rw [← hW2]
      clear hW2
      obtain ⟨d0, d1, d2, d3, d4, d5⟩ := (HE.out.below hb2 hB) j e HK.out.1
      have hgd : W2.grownBy W2.drew none := ⟨rfl, rfl, rfl, Nat.le_refl _, fun _ _ _ => rfl⟩
      have hMd := HM2.out.kept hgd
      obtain ⟨K, hK⟩ : ∃ K : CW, K = (colsOf (ws.drop (j + 1)) e.wcol).getD cw0 := ⟨_, rfl⟩
      have hlook0 := hMd.look (col_okc HK.out.2)
      rw [← hK] at hlook0
      have hlook : (Instr.lookup 95 (.map (some w.heap.size)) (.agg #[.string e.row, .string e.fam, .string e.qual]) false).run Tryz.prog W2.drew = .ok (.agg #[.bool K.d, .int .u64 K.u, .map (M e.wcol)]) W2.drew := hlook0
      clear hlook0
      have hin : Inner W2.drew w.heap.size (ws.length - (j + 1)) (M e.wcol) K.f := by
        cases hq : colsOf (ws.drop (j + 1)) e.wcol with
        | none =>
          rw [hq] at hK
          refine .inl ⟨hMd.nom _ hq, ?_⟩
          rw [hK]; rfl
        | some c =>
          rw [hq] at hK
          rw [hK]
          exact hMd.inner _ c hq
      have HN : Hid (ws.length - (j + 1) < maxLen) := Nat.lt_of_le_of_lt (Nat.sub_le _ _) (Nat.lt_of_le_of_lt hlen (by decide))
      have HC := withEarlier_any K (M e.wcol) w.heap.size (ws.length - (j + 1)) e W2.drew hin HN.out HK.out.2.ts (Nat.le_trans hb2.size (Nat.le_refl _))
      have HPut : Hid (∀ (w' : World) (m' : Option Nat), Inner w' w.heap.size (ws.length - (j + 1) + 1) m' (cwAdd K e).f → (m' = M e.wcol ∨ (M e.wcol = none ∧ ∃ b, m' = some b ∧ W2.drew.heap.size ≤ b)) → W2.drew.grownBy w' (M e.wcol) →
          ∃ w'', (Instr.mapUpdate 95 (.map (some w.heap.size)) (.agg #[.string e.row, .string e.fam, .string e.qual]) (.agg #[.bool (cwAdd K e).d, .int .u64 (cwAdd K e).u, .map m'])).run Tryz.prog w' = .ok () w'' ∧
            (∃ M', Outer w'' w.heap.size w.heap.size (ws.length - j) (colsOf (ws.drop j)) M') ∧ Below w.heap.size w w'') := by
        intro w' m' h1 h2 h3
        obtain ⟨w'', p1, p2, p3⟩ := hMd.put (col_okc HK.out.2) HN.out h3 (cwAdd K e) m' h1 h2
        refine ⟨w'', p1, ⟨fun x => if x = e.wcol then m' else M x, ?_⟩, ?_⟩
        · rw [colsOf_drop HK.out.1, ← hK, show ws.length - j = ws.length - (j + 1) + 1 by omega]
          exact p2
        · have q1 : Below w.heap.size w w' := hb2.drew.grown h3 (by show w.heap.size ≤ W2.heap.size; exact hb2.size) (fun y hy => (hMd.inLt hy).2)
          exact q1.grown p3 q1.size (fun y hy => by cases hy; exact Nat.le_refl _)
      have HCel : Hid (∀ (w' : World), W2.drew.grownBy w' (M e.wcol) → w'.cell? ⟨w1.heap.size, 0, none⟩ = some (.string e.row) ∧ w'.cell? ⟨w1.heap.size, 1, none⟩ = some (.string e.fam) ∧ w'.cell? ⟨w1.heap.size, 2, none⟩ = some (.string e.qual)) := by
        intro w' h3
        have hne : some w1.heap.size ≠ M e.wcol := fun q => by
          have := (HM.out.inLt q.symm).1
          omega
        have hbk : w'.heap[w1.heap.size]? = W2.heap[w1.heap.size]? := h3.block w1.heap.size hz2 hne
        exact ⟨(World.cell?_of_block (a := ⟨w1.heap.size, 0, none⟩) hbk).trans k0, (World.cell?_of_block (a := ⟨w1.heap.size, 1, none⟩) hbk).trans k1, (World.cell?_of_block (a := ⟨w1.heap.size, 2, none⟩) hbk).trans k2⟩
      have HCC : Hid (Calls Tryz.prog 83 #[.agg #[.bool K.d, .int .u64 K.u, .map (M e.wcol)], e.v] W2.drew fun r w' => ∃ m', r = .returned (.agg #[.bool (cwAdd K e).d, .int .u64 (cwAdd K e).u, .map m']) ∧ Inner w' w.heap.size (ws.length - (j + 1) + 1) m' (cwAdd K e).f ∧ (m' = M e.wcol ∨ (M e.wcol = none ∧ ∃ b, m' = some b ∧ W2.drew.heap.size ≤ b)) ∧ W2.drew.grownBy w' (M e.wcol)) := HC
      clear HC hin hMd hgd hK
      go_region_with (go_at_call 83; refine HCC.out.mono ?_; rintro r w' ⟨m', rfl, hi', hm', hg'⟩; obtain ⟨w'', hput, hfin⟩ := HPut.out w' m' hi' hm' hg'; have HFin : Hid ((∃ M', Outer w'' w.heap.size w.heap.size (ws.length - j) (colsOf (ws.drop j)) M') ∧ Below w.heap.size w w'') := hfin; obtain ⟨q0, q1, q2⟩ := HCel.out w' hg'; clear hi' hm' hg' hfin)
      all_goals
        clear hlook hput d0 d1 d2 d3 d4 d5 k0 k1 k2 q0 q1 q2
        go_wp2_with fail
        go_roundw
        case rel =>
          obtain ⟨⟨M', hM'⟩, hb'⟩ := HFin.out
          exact ⟨j, M', by omega, rfl, hM', hb'⟩
        case measure => go_light; simp [intOf]
    · obtain rfl : k = 0 := by omega
      go_wp2_with fail
      go_ret
      refine ⟨M, rfl, ?_, hb⟩
      have h := HM.out
      rw [Nat.sub_zero, List.drop_zero] at h
      exact h
end Go.Proofs.YtlgeffinhbodeafGreat

/-
  The order of keys as slices.SortFunc asks it: impl's compare lays blocks, turns none.
-/
namespace Go.Proofs.YtlgeffinhbodeafGreat
open Go.ChangeShapes Go.WideShapes Go.ChangeAt Go.RowKit Go.Deep Go.Sort
set_option linter.unusedVariables false
set_option maxRecDepth 100000

/-- Only new blocks. -/
def Lays (w w' : World) : Prop := ∃ os, w' = grow w os
theorem Lays.refl (w : World) : Lays w w := ⟨#[], by simp⟩
theorem Lays.alloc {w w' : World} (h : Lays w w') (o : Obj) : Lays w (w'.alloc o) := by
  obtain ⟨os, rfl⟩ := h
  exact ⟨os ++ #[o], by rw [alloc_eq_grow, grow_grow]⟩
theorem Lays.trans {a b c : World} (h : Lays a b) (k : Lays b c) : Lays a c := by
  obtain ⟨os, rfl⟩ := h
  obtain ⟨os', rfl⟩ := k
  exact ⟨os ++ os', grow_grow _ _ _⟩
theorem Lays.below {a b : World} (h : Lays a b) : Below a.heap.size a b := by
  obtain ⟨os, rfl⟩ := h
  refine ⟨rfl, rfl, rfl, by simp, fun k hk => ?_⟩
  unfold grow
  simp [Array.getElem?_append_left hk]

set_option maxHeartbeats 400000 in
theorem compareColumns_lays (a b : Ent) (w : World) :
    Calls Tryz.prog 86 #[a.v, b.v] w fun e w' => e = .returned (.int .i64 (colCmp a b)) ∧ Lays w w' := by
  unfold colCmp firstOf Ent.v
  by_cases h1 : cB a.row b.row = 0
  · have g1 : (cB a.row b.row != 0) = false := by simp [h1]
    rw [if_pos h1]
    clear h1
    by_cases h2 : cB a.fam b.fam = 0
    · have g2 : (cB a.fam b.fam != 0) = false := by simp [h2]
      rw [if_pos h2]
      clear h2
      go_enter Tryz.func86, Tryz.ntmps86
      go_wp2_with (go_at_call 90; refine (stringsCompare_any _ _ _).mono ?_; rintro e w' ⟨rfl, rfl⟩)
      go_ret
      exact ⟨rfl, ((Lays.refl _).alloc _).alloc _⟩
    · have g2 : (cB a.fam b.fam != 0) = true := by simp [h2]
      rw [if_neg h2]
      clear h2
      go_enter Tryz.func86, Tryz.ntmps86
      go_wp2_with (go_at_call 90; refine (stringsCompare_any _ _ _).mono ?_; rintro e w' ⟨rfl, rfl⟩)
      go_ret
      exact ⟨rfl, ((Lays.refl _).alloc _).alloc _⟩
  · have g1 : (cB a.row b.row != 0) = true := by simp [h1]
    rw [if_neg h1]
    clear h1
    go_enter Tryz.func86, Tryz.ntmps86
    go_wp2_with (go_at_call 90; refine (stringsCompare_any _ _ _).mono ?_; rintro e w' ⟨rfl, rfl⟩)
    go_ret
    exact ⟨rfl, ((Lays.refl _).alloc _).alloc _⟩

set_option maxHeartbeats 400000 in
theorem compare_lays (a b : Ent) (w : World) :
    Calls Tryz.prog 64 #[a.v, b.v] w fun e w' => e = .returned (.int .i64 (keyCmp a b)) ∧ Lays w w' := by
  by_cases h1 : colCmp a b = 0
  · have g1 : (colCmp a b != 0) = false := by simp [h1]
    by_cases ha : a.kind = 2
    · have ga : (a.kind == 2) = true := by simp [ha]
      by_cases hb : b.kind = 2
      · have gb : (b.kind == 2) = true := by simp [hb]
        have H : Hid (keyCmp a b = tsCmp a.ts b.ts) := keyCmp_ts h1 (by simp [ha, hb])
        clear h1 ha hb
        go_enter Tryz.func64, Tryz.ntmps64
        go_wp2_with fail
        refine (compareColumns_lays a b _).mono ?_
        rintro e w1 ⟨rfl, hl1⟩
        have hb1 := hl1.below
        obtain ⟨hc1, hf1⟩ := bcell hb1
        have hz1 : w.heap.size + 1 < w1.heap.size := by have := hb1.size; simp at this; omega
        go_wp2_with fail
        refine (cmpU64_any _ _ _).mono ?_
        rintro e w2 ⟨rfl, rfl⟩
        go_wp2_with fail
        go_ret
        exact ⟨ret_int H.out.symm, (((Lays.refl _).alloc _).alloc _).trans hl1⟩
      · have gb : (b.kind == 2) = false := by simp [hb]
        have H : Hid (keyCmp a b = -1) := keyCmp_del1 h1 ha hb
        clear h1 ha hb
        go_enter Tryz.func64, Tryz.ntmps64
        go_wp2_with fail
        refine (compareColumns_lays a b _).mono ?_
        rintro e w1 ⟨rfl, hl1⟩
        have hb1 := hl1.below
        obtain ⟨hc1, hf1⟩ := bcell hb1
        have hz1 : w.heap.size + 1 < w1.heap.size := by have := hb1.size; simp at this; omega
        go_wp2_with fail
        go_ret
        exact ⟨ret_int H.out.symm, (((Lays.refl _).alloc _).alloc _).trans hl1⟩
    · have ga : (a.kind == 2) = false := by simp [ha]
      by_cases hb : b.kind = 2
      · have gb : (b.kind == 2) = true := by simp [hb]
        have H : Hid (keyCmp a b = 1) := keyCmp_del2 h1 ha hb
        clear h1 ha hb
        go_enter Tryz.func64, Tryz.ntmps64
        go_wp2_with fail
        refine (compareColumns_lays a b _).mono ?_
        rintro e w1 ⟨rfl, hl1⟩
        have hb1 := hl1.below
        obtain ⟨hc1, hf1⟩ := bcell hb1
        have hz1 : w.heap.size + 1 < w1.heap.size := by have := hb1.size; simp at this; omega
        go_wp2_with fail
        go_ret
        exact ⟨ret_int H.out.symm, (((Lays.refl _).alloc _).alloc _).trans hl1⟩
      · have gb : (b.kind == 2) = false := by simp [hb]
        have H : Hid (keyCmp a b = tsCmp a.ts b.ts) := keyCmp_ts h1 (by simp [ha, hb])
        clear h1 ha hb
        go_enter Tryz.func64, Tryz.ntmps64
        go_wp2_with fail
        refine (compareColumns_lays a b _).mono ?_
        rintro e w1 ⟨rfl, hl1⟩
        have hb1 := hl1.below
        obtain ⟨hc1, hf1⟩ := bcell hb1
        have hz1 : w.heap.size + 1 < w1.heap.size := by have := hb1.size; simp at this; omega
        go_wp2_with fail
        refine (cmpU64_any _ _ _).mono ?_
        rintro e w2 ⟨rfl, rfl⟩
        go_wp2_with fail
        go_ret
        exact ⟨ret_int H.out.symm, (((Lays.refl _).alloc _).alloc _).trans hl1⟩
  · have g1 : (colCmp a b != 0) = true := by simp [h1]
    have H : Hid (keyCmp a b = colCmp a b) := keyCmp_ne h1
    clear h1
    go_enter Tryz.func64, Tryz.ntmps64
    go_wp2_with fail
    refine (compareColumns_lays a b _).mono ?_
    rintro e w1 ⟨rfl, hl1⟩
    have hb1 := hl1.below
    go_wp2_with fail
    go_ret
    exact ⟨ret_int H.out.symm, (((Lays.refl _).alloc _).alloc _).trans hl1⟩


theorem cmp_swo : ∀ x y z : Ent, (keyCmp x y < 0) = (keyCmp x y = -1) ∧ True := fun x y z => ⟨by
  rcases keyCmp_vals x y with h | h | h <;> rw [h] <;> simp, trivial⟩
end Go.Proofs.YtlgeffinhbodeafGreat

/-
  slices.SortFunc at this program, laid in plain words.
-/
namespace Go.Proofs.YtlgeffinhbodeafGreat
open Go.Shelf
def Tryz.sortE_ren : Go.Shelf.Ren := ⟨fun | 6 => 63 | 15 => 85 | 14 => 84 | 28 => 110 | 29 => 111 | 20 => 102 | 21 => 103 | 22 => 104 | 23 => 105 | 24 => 106 | 25 => 107 | 26 => 108 | 27 => 109 | 46 => 122 | 47 => 123 | 48 => 124 | 49 => 125 | 50 => 126 | 57 => 130 | n => n, fun | 22 => 33 | 24 => 61 | 25 => 104 | 3 => 3 | 39 => 129 | 0 => 0 | 53 => 161 | 55 => 44 | 4 => 4 | 46 => 155 | 45 => 154 | 50 => 115 | 5 => 5 | 9 => 9 | 66 => 179 | 70 => 183 | 76 => 190 | 77 => 191 | n => n, fun | n => n⟩
theorem Tryz.sortE : Go.Proofs.SlLaysF0.n6 Tryz.prog Tryz.sortE_ren := {
  mixed := by kernel_rfl
  f6 := ⟨Tryz.f63.name, by decide, Tryz.func63.trans (congrArg some (by kernel_rfl))⟩
  f14 := ⟨Tryz.f84.name, by decide, Tryz.func84.trans (congrArg some (by kernel_rfl))⟩
  f15 := Tryz.func85.trans (congrArg some (by kernel_rfl))
  f20 := ⟨Tryz.f102.name, by decide, Tryz.func102.trans (congrArg some (by kernel_rfl))⟩
  f21 := ⟨Tryz.f103.name, by decide, Tryz.func103.trans (congrArg some (by kernel_rfl))⟩
  f22 := ⟨Tryz.f104.name, by decide, Tryz.func104.trans (congrArg some (by kernel_rfl))⟩
  f23 := ⟨Tryz.f105.name, by decide, Tryz.func105.trans (congrArg some (by kernel_rfl))⟩
  f24 := ⟨Tryz.f106.name, by decide, Tryz.func106.trans (congrArg some (by kernel_rfl))⟩
  f25 := ⟨Tryz.f107.name, by decide, Tryz.func107.trans (congrArg some (by kernel_rfl))⟩
  f26 := ⟨Tryz.f108.name, by decide, Tryz.func108.trans (congrArg some (by kernel_rfl))⟩
  f27 := ⟨Tryz.f109.name, by decide, Tryz.func109.trans (congrArg some (by kernel_rfl))⟩
  f28 := Tryz.func110.trans (congrArg some (by kernel_rfl))
  f29 := Tryz.func111.trans (congrArg some (by kernel_rfl))
  f46 := ⟨Tryz.f122.name, by decide, Tryz.func122.trans (congrArg some (by kernel_rfl))⟩
  f47 := Tryz.func123.trans (congrArg some (by kernel_rfl))
  f48 := Tryz.func124.trans (congrArg some (by kernel_rfl))
  f49 := ⟨Tryz.f125.name, by decide, Tryz.func125.trans (congrArg some (by kernel_rfl))⟩
  f50 := ⟨Tryz.f126.name, by decide, Tryz.func126.trans (congrArg some (by kernel_rfl))⟩
  f57 := ⟨Tryz.f130.name, by decide, Tryz.func130.trans (congrArg some (by kernel_rfl))⟩
  t0 := Tryz.underlying0
  a0 := Tryz.isAgg0
  z0 := Tryz.sizeOf0
  v0 := Tryz.zeroValue0
  t3 := Tryz.underlying3
  a3 := Tryz.isAgg3
  z3 := Tryz.sizeOf3
  v3 := Tryz.zeroValue3
  t4 := Tryz.underlying4
  a4 := Tryz.isAgg4
  z4 := Tryz.sizeOf4
  v4 := Tryz.zeroValue4
  t5 := Tryz.underlying5
  a5 := Tryz.isAgg5
  z5 := Tryz.sizeOf5
  v5 := Tryz.zeroValue5
  t9 := Tryz.underlying9
  a9 := Tryz.isAgg9
  z9 := Tryz.sizeOf9
  v9 := Tryz.zeroValue9
  t22 := Tryz.underlying33
  a22 := Tryz.isAgg33
  z22 := Tryz.sizeOf33
  v22 := Tryz.zeroValue33
  t25 := Tryz.underlying104
  a25 := Tryz.isAgg104
  z25 := Tryz.sizeOf104
  v25 := Tryz.zeroValue104
  t39 := Tryz.underlying129
  a39 := Tryz.isAgg129
  z39 := Tryz.sizeOf129
  v39 := Tryz.zeroValue129
  t45 := Tryz.underlying154
  a45 := Tryz.isAgg154
  z45 := Tryz.sizeOf154
  v45 := Tryz.zeroValue154
  t46 := Tryz.underlying155
  a46 := Tryz.isAgg155
  z46 := Tryz.sizeOf155
  v46 := Tryz.zeroValue155
  t50 := Tryz.underlying115
  a50 := Tryz.isAgg115
  z50 := Tryz.sizeOf115
  v50 := Tryz.zeroValue115
  t53 := Tryz.underlying161
  a53 := Tryz.isAgg161
  z53 := Tryz.sizeOf161
  v53 := Tryz.zeroValue161
  t55 := Tryz.underlying44
  a55 := Tryz.isAgg44
  z55 := Tryz.sizeOf44
  v55 := Tryz.zeroValue44
  t66 := Tryz.underlying179
  a66 := Tryz.isAgg179
  z66 := Tryz.sizeOf179
  v66 := Tryz.zeroValue179
  t70 := Tryz.underlying183
  a70 := Tryz.isAgg183
  z70 := Tryz.sizeOf183
  v70 := Tryz.zeroValue183
  t76 := Tryz.underlying190
  a76 := Tryz.isAgg190
  z76 := Tryz.sizeOf190
  v76 := Tryz.zeroValue190
  t77 := Tryz.underlying191
  a77 := Tryz.isAgg191
  z77 := Tryz.sizeOf191
  v77 := Tryz.zeroValue191 }
end Go.Proofs.YtlgeffinhbodeafGreat

/-
  slices.SortFunc over entries, by impl's compare.
-/
namespace Go.Proofs.YtlgeffinhbodeafGreat
open Go.Shelf Go.RowKit Go.Lib Go.Sort
set_option linter.unusedVariables false

abbrev inhE : Inhabited Ent := ⟨⟨⟨#[]⟩, ⟨#[]⟩, ⟨#[]⟩, 0, 0, ⟨#[]⟩⟩⟩
theorem ltOf_key (x y : Ent) : ltOf keyCmp x y = true ↔ keyCmp x y = -1 := by
  unfold ltOf
  rcases keyCmp_vals x y with h | h | h <;> simp [h]
theorem ltOf_key_f (x y : Ent) : ltOf keyCmp x y = false ↔ ¬ keyCmp x y = -1 := by
  rw [← ltOf_key]; cases ltOf keyCmp x y <;> simp
theorem swoKey_ntrans (x y z : Ent) (h1 : ltOf keyCmp x y = false) (h2 : ltOf keyCmp y z = false) : ltOf keyCmp x z = false := by
  rw [ltOf_key_f] at *
  intro h3
  rcases keyCmp_vals x y with h | h | h
  · exact h1 h
  · rw [keyCmp_congr h] at h3; exact h2 h3
  · have h4 : keyCmp y x = -1 := by have := keyCmp_neg x y; omega
    exact h2 (keyCmp_trans h4 h3)
theorem swoKey : SWO (ltOf keyCmp) :=
  { irrefl := fun x => by rw [ltOf_key_f, keyCmp_self]; omega,
    trans := fun x y z h1 h2 => by rw [ltOf_key] at *; exact keyCmp_trans h1 h2,
    ntrans := swoKey_ntrans }

theorem cmpLaysE (blk off size : Nat) (w : World) : @CmpLays Ent inhE Tryz.prog 64 #[] Ent.cells 6 keyCmp blk off size w := by
  intro m os dk hs x y
  refine (compare_lays x y _).mono ?_
  rintro e w' ⟨he, os', hw⟩
  exact ⟨he, 0, os', by rw [hw]; rfl⟩

theorem flat_cells (R : List Ent) : (@flatK Ent inhE Ent.cells 6 R.toArray).toList = cellsE R := by
  apply List.ext_getElem?
  intro j
  by_cases hj : j < R.length * 6
  · have hq : j / 6 < R.length := by omega
    have h := cellsE_get R (j / 6) R[j / 6] (List.getElem?_eq_getElem hq) (j % 6) (Nat.mod_lt _ (by omega))
    rw [show j / 6 * 6 + j % 6 = j by omega] at h
    rw [h]
    have h6 : j % 6 < 6 := Nat.mod_lt _ (by omega)
    simp [flatK, hj, hq]
    generalize j % 6 = m at *
    match m, h6 with
    | 0, _ => rfl
    | 1, _ => rfl
    | 2, _ => rfl
    | 3, _ => rfl
    | 4, _ => rfl
    | 5, _ => rfl
  · have h1 : (cellsE R).length ≤ j := by rw [length_cellsE]; omega
    rw [List.getElem?_eq_none h1]
    simp [flatK]; omega
theorem holdsE {w : World} {base g cp : Nat} {R : List Ent} (h : OwnE w base g cp R) : @HoldsK Ent inhE Ent.cells 6 w g 0 R.toArray := by
  intro j hj
  have hj' : j < R.length * 6 := by simpa using hj
  rw [Nat.zero_add]
  refine ⟨?_, World.ownsRow.frozenAt h j⟩
  rw [World.ownsRow.cellAt h j hj', ← flat_cells]
  rw [Array.getElem?_toList]
  simp [hj']
theorem heap_sortedE {w : World} {g n : Nat} {os : Array Obj} {cur : Array Value} {e : TypeId} {fr : Nat × Nat} (S : List Ent) (hb : w.heap[g]? = some (.cells cur e fr)) :
    (@sortWorldK Ent inhE Ent.cells 6 w g 0 n S.toArray os).heap[g]? = some (.cells (putCells id 0 (@flatK Ent inhE Ent.cells 6 S.toArray) cur) e fr) := by
  have hg : g < w.heap.size := (Array.getElem?_eq_some_iff.1 hb).1
  unfold sortWorldK putRowK
  rw [heap_grow_old _ _ (by simpa [Sort.ahead] using hg)]
  simp [putRow, mapBlock, Sort.ahead, Array.getElem?_modify, hb, onCells]
theorem grownBy_sortedE (w : World) (g n : Nat) (os : Array Obj) (S : List Ent) : w.grownBy (@sortWorldK Ent inhE Ent.cells 6 w g 0 n S.toArray os) (some g) := by
  refine ⟨rfl, rfl, rfl, by simp [sortWorldK, putRowK, Sort.ahead], fun k hk hne => ?_⟩
  unfold sortWorldK putRowK
  rw [heap_grow_old _ _ (by simpa [Sort.ahead] using hk)]
  have : g ≠ k := fun e => hne (by rw [e])
  simp [putRow, mapBlock, Sort.ahead, Array.getElem?_modify, this]
theorem take_putE (cur : Array Value) (S : List Ent) (h : S.length * 6 ≤ cur.size) : (putCells id 0 (@flatK Ent inhE Ent.cells 6 S.toArray) cur).toList.take (S.length * 6) = cellsE S := by
  rw [← flat_cells]
  apply List.ext_getElem?
  intro j
  by_cases hj : j < S.length * 6
  · rw [List.getElem?_take_of_lt hj, Array.getElem?_toList, Array.getElem?_toList]
    simp [putCells, hj, show j < cur.size by omega]
  · rw [List.getElem?_take_eq_none (by omega), List.getElem?_eq_none (by simp; omega)]
theorem ownE_sorted {w : World} {base g cp n : Nat} {os : Array Obj} {R S : List Ent} (h : OwnE w base g cp R) (hl : S.length = R.length) : OwnE (@sortWorldK Ent inhE Ent.cells 6 w g 0 n S.toArray os) base g cp S := by
  rcases h.2 with ⟨h0, _⟩ | ⟨g', cap', cur, hv, hg, hb, hn, hcap, hsz, htk⟩
  · cases h0
  · simp only [Value.slice.injEq, Option.some.injEq, Addr.mk.injEq, and_true, true_and] at hv
    obtain ⟨rfl, rfl⟩ := hv
    refine ⟨length_cellsE S, .inr ⟨g, cp, _, rfl, hg, heap_sortedE S hb, by omega, hcap, by simp [putCells, hsz], take_putE cur S (by rw [hsz, hl]; exact Nat.mul_le_mul_right _ hn)⟩⟩

theorem sort_core (base g cp : Nat) (R : List Ent) (w : World) (hO : OwnE w base g cp R) (hlen : R.length ≤ 2 ^ 40) :
    Calls Tryz.prog 63 #[.slice (some ⟨g, 0, none⟩) R.length cp, .func (.func 64) #[] #[]] w fun e w' =>
      e = .returned (.tuple #[]) ∧ ∃ S : List Ent, S.Perm R ∧ S.Pairwise (fun a b => ¬ keyCmp b a = -1) ∧ OwnE w' base g cp S ∧ w.grownBy w' (some g) := by
  have eg : ∀ args w, (callFunc 64 args).run Tryz.prog w = .ok (.enter 64 args) w := enters_of Tryz.func64 (by kernel_rfl) rfl
  have hcon := @AnyQ.slices_SortFunc _ _ Ent inhE Tryz.sortE 6 Tryz.isAgg61 Tryz.sizeOf61 Ent.cells (fun _ => rfl) (fun x v hv => by
    simp at hv
    rcases hv with rfl | rfl | rfl | rfl | rfl | rfl <;> rfl) keyCmp swoKey 64 #[] g 0 cp R.toArray w eg (cmpLaysE g 0 _ w) (holdsE hO) hO.lt.2 (by simp; omega)
  change Calls Tryz.prog 63 _ _ _ at hcon
  refine hcon.mono ?_
  rintro e w' ⟨he, d, n, os, hp, hs, rfl⟩
  refine ⟨he, d.toList, ?_, ?_, ?_, ?_⟩
  · have h1 := hp.2.2
    have h2 := hp.1
    simpa [Array.extract_eq_self_of_le, h2] using h1
  · rw [List.pairwise_iff_getElem]
    intro i j hi hj hij
    have hi' : i < d.size := by simpa using hi
    have hj' : j < d.size := by simpa using hj
    have h := hs i j (Nat.zero_le _) hij (by rw [hp.1] at hj'; exact hj')
    have e1 := @getElem!_pos (Array Ent) Nat Ent _ _ _ inhE d j hj'
    have e2 := @getElem!_pos (Array Ent) Nat Ent _ _ _ inhE d i hi'
    rw [ltOf_key_f, e1, e2] at h
    simpa using h
  · exact ownE_sorted hO (by simpa using hp.1)
  · exact grownBy_sortedE w g n os d.toList
end Go.Proofs.YtlgeffinhbodeafGreat

