/-
  The law FnExactMergeStore.
-/
import Derived.Test.YtlgeffinhbodeaeQMgX
import Derived.Deep.DeepCutAuto
namespace Go.Proofs.Ytlgeffinhbodeae.exMergeStore
open Go.ChangeShapes Go.WideShapes Go.ChangeAt Go.RowKit Go.Deep
open Go.ChangeMaps (open_string shut_string)
set_option linter.unusedVariables false
set_option linter.unusedSimpArgs false
set_option maxRecDepth 100000

theorem own : ownKnob Try.prog.godebug = none := by kernel_rfl
theorem laidOut : laidOutB Try.prog = true := by kernel_rfl
theorem toStore_in (W0 : World) (u : Value) (ts : List Tn) (w : World) (hb : Below W0.heap.size W0 w) (h : Hid (InTabs W0 u ts)) (h1 : ts.length + totT ts ≤ 1048576) (l0 : List Tw) (hl0 : Hid (l0.map Tw.tb = ts.map Tn.tb)) :
    Calls Try.prog 27 #[.agg #[u]] w fun e w' =>
      ∃ (g : Nat) (l : List Tw), e = .returned (.agg #[.slice (some ⟨g, 0, none⟩) l.length l.length]) ∧ Hid (InTabs w' (.slice (some ⟨g, 0, none⟩) l.length l.length) ((l.map Tw.tx).map Tx.tn) ∧ vwT ((l0.map Tw.tx).map Tx.tn) = vwT ((l.map Tw.tx).map Tx.tn)) ∧ Below W0.heap.size W0 w' ∧ (∀ b o, b < W0.heap.size → w'.cell? ⟨b, o, none⟩ = W0.cell? ⟨b, o, none⟩) := by
  refine (toStore_any u ts w (h.out.below hb) h1).mono ?_
  rintro e w' ⟨g, l, he, hO, hm, hb'⟩
  have k := hb.trans (hb'.mono hb.size)
  exact ⟨g, l, he, ⟨hO.st.ins, vwX_eq (by rw [tx_tb, tx_tb, hm, hl0.out])⟩, k, fun b o hlt => k.cell (p := ⟨b, o, none⟩) hlt⟩
theorem eqStore_in (W0 : World) (u u' : Value) (l l' : List Tn) (w : World) (hb : Below W0.heap.size W0 w) (h : Hid (InTabs W0 u l)) (h' : Hid (InTabs w u' l' ∧ vwT l = vwT l')) :
    Calls Try.prog 29 #[.agg #[u], .agg #[u']] w fun e w' => e = .returned (.bool true) ∧ Below W0.heap.size W0 w' := by
  refine (eqStore_any u u' l l' w (h.out.below hb) h'.out.1 h'.out.2).mono ?_
  rintro e w' ⟨he, hb'⟩
  exact ⟨he, hb.trans (hb'.mono hb.size)⟩

set_option maxHeartbeats 8000000 in
theorem walk (u : Value) (ts : List Tn) (row : ByteArray) (w : World) (h : InTabs w u ts) (hok : okT ts) (hr : row.size ≤ maxLen) :
    Calls Try.prog 6 #[.agg #[u], .string row] w fun e w' => e = .returned (.bool true) ∧ Below w.heap.size w w' := by
  have HE : Hid (InTabs w u ts ∧ okT ts) := ⟨h, hok⟩
  have hu := h.ucells
  unfold maxLen at hr
  clear h hok
  by_cases hbig : 1048576 < row.size
  · have z : (1048576 : Int) < (row.size : Int) := by omega
    go_enter Try.func6, Try.ntmps6
    go_wp2_with fail
    go_ret
    exact ⟨rfl, (Below.refl _ _).alloc (Nat.le_refl _) _⟩
  have z : ¬ (1048576 : Int) < (row.size : Int) := by omega
  obtain ⟨W0, hW0⟩ : ∃ W0 : World, W0 = w.alloc (Obj.cells #[u] 62) := ⟨_, rfl⟩
  have hb0 : Below w.heap.size w W0 := by rw [hW0]; exact (Below.refl _ _).alloc (Nat.le_refl _) _
  have hz0 : w.heap.size < W0.heap.size := by rw [hW0]; simp
  have HK0 : Hid (∀ wx, Below W0.heap.size W0 wx → wx.cell? ⟨w.heap.size, 0, none⟩ = some u ∧ InTabs wx u ts) := fun wx hx => ⟨by rw [hx.cell (p := ⟨w.heap.size, 0, none⟩) hz0, hW0]; simp, (HE.out.1.below hb0).below hx⟩
  obtain ⟨ca, hI0⟩ := HK0.out W0 (Below.refl _ _)
  have HI0 : Hid (InTabs W0 u ts) := hI0
  clear hI0
  go_enter Try.func6, Try.ntmps6
  go_upto_region 4 with fail
  rw [← hW0]
  clear hW0
  go_wp2_with fail
  refine (szStore_any u ts _ _ HI0.out HE.out.2 (by omega) (by omega)).mono ?_
  rintro e w1 ⟨x, rfl, hx, hb1⟩
  have hs1 := hb1.size
  by_cases hx0 : x < 0
  · clear hx
    go_wp2_with fail
    go_ret
    exact ⟨rfl, hb0.trans (hb1.mono (by omega))⟩
  have hn : ts.length + totT ts ≤ 1048576 := by omega
  clear hx ca
  obtain ⟨ca, hI1⟩ := HK0.out w1 hb1
  have HI1 : Hid (InTabs w1 u ts) := hI1
  clear hI1
  go_wp2_with fail
  refine (toStore_any u ts _ HI1.out hn).mono ?_
  rintro e w2 ⟨g1, l1, rfl, hO1, hm1, hb2⟩
  have HO1 : Hid (OwnTabs w2 w1.heap.size g1 l1 ∧ l1.map Tw.tb = ts.map Tn.tb) := ⟨hO1, hm1⟩
  have k02 : Below W0.heap.size W0 w2 := hb1.trans (hb2.mono hs1)
  have s2 := k02.size
  clear hO1 hm1 hb2
  go_wp2_with fail
  refine (specMerge_at row HO1.out.1 HO1.out.2 HE.out.2 hn).mono ?_
  rintro e w3 ⟨out, hM, v0, xs0, rfl, hS0, hxo, hb3⟩
  obtain ⟨va, vn, vc, rfl⟩ : ∃ va vn vc, v0 = .slice va vn vc := by
    rcases hS0.row with ⟨_, a, c, q⟩ | ⟨g, cp, q, _⟩ <;> exact ⟨_, _, _, q⟩
  have k03 : Below W0.heap.size W0 w3 := k02.trans (hb3.mono s2)
  have s3 := k03.size
  obtain ⟨W3, hW3⟩ : ∃ W3 : World, W3 = w3.alloc (Obj.cells #[.slice va vn vc] 66) := ⟨_, rfl⟩
  have hbW3 : Below w3.heap.size w3 W3 := by rw [hW3]; exact (Below.refl _ _).alloc (Nat.le_refl _) _
  have hz3 : W3.heap.size = w3.heap.size + 1 := by rw [hW3]; simp
  have k0W3 : Below W0.heap.size W0 W3 := k03.trans (hbW3.mono s3)
  -- what spec answers, in every world to come
  have HS0 : Hid ((∀ wx, Below W3.heap.size W3 wx → wx.cell? ⟨w3.heap.size, 0, none⟩ = some (.slice va vn vc) ∧ InTabs wx (.slice va vn vc) (xs0.map Tx.tn)) ∧ MrgT (ts.map Tn.tb) row out ∧ xs0.map Tx.tb = out) := ⟨fun wx hx => ⟨by rw [hx.cell (p := ⟨w3.heap.size, 0, none⟩) (by show w3.heap.size < W3.heap.size; omega), hW3]; simp, ((hS0.below hbW3).below hx).ins⟩, hM, hxo⟩
  clear hS0 hM hxo hb3 ca
  obtain ⟨ca, hI3⟩ := HK0.out W3 k0W3
  have HI3 : Hid (InTabs W3 u ts) := hI3
  clear hI3
  go_upto_region 8 with fail
  rw [← hW3]
  clear hW3
  go_wp2_with fail
  refine (toStore_any u ts _ HI3.out hn).mono ?_
  rintro e w4 ⟨g2, l2, rfl, hO2, hm2, hb4⟩
  have s4 := hb4.size
  obtain ⟨W4, hW4⟩ : ∃ W4 : World, W4 = w4.alloc (Obj.cells #[.slice (some ⟨g2, 0, none⟩) l2.length l2.length] 66) := ⟨_, rfl⟩
  have hbW4 : Below w4.heap.size w4 W4 := by rw [hW4]; exact (Below.refl _ _).alloc (Nat.le_refl _) _
  have hz4 : W4.heap.size = w4.heap.size + 1 := by rw [hW4]; simp
  have k34 : Below W3.heap.size W3 W4 := hb4.trans (hbW4.mono s4)
  have HX : Hid (OwnTabs w4 W3.heap.size g2 l2 ∧ OwnTabs W4 W3.heap.size g2 l2 ∧ l2.map Tw.tb = ts.map Tn.tb ∧ ∀ wx, Below W4.heap.size W4 wx → wx.cell? ⟨w4.heap.size, 0, none⟩ = some (.slice (some ⟨g2, 0, none⟩) l2.length l2.length)) := ⟨hO2, hO2.below hbW4, hm2, fun wx hx => by rw [hx.cell (p := ⟨w4.heap.size, 0, none⟩) (by show w4.heap.size < W4.heap.size; omega), hW4]; simp⟩
  clear hO2 hm2 hb4 ca
  have cx := HX.out.2.2.2 W4 (Below.refl _ _)
  go_upto_region 9 with fail
  rw [← hW4]
  clear hW4
  go_wp2_with fail
  refine (implMerge_at row HX.out.2.1 HX.out.2.2.1 HE.out.2 hn).mono ?_
  rintro e w5 ⟨out', hM', gg, cpp, xs, rfl, hS5, hA5, hx5, hb5⟩
  have s5 := hb5.size
  obtain ⟨W5, hW5⟩ : ∃ W5 : World, W5 = w5.alloc (Obj.cells #[.slice (some ⟨gg, 0, none⟩) xs.length cpp] 66) := ⟨_, rfl⟩
  have hbW5 : Below w5.heap.size w5 W5 := by rw [hW5]; exact (Below.refl _ _).alloc (Nat.le_refl _) _
  have hz5 : W5.heap.size = w5.heap.size + 1 := by rw [hW5]; simp
  have k45 : Below W4.heap.size W4 W5 := hb5.trans (hbW5.mono s5)
  have k35 : Below W3.heap.size W3 W5 := k34.trans (k45.mono (by omega))
  have HG : Hid (OwnSt W5 W4.heap.size (.slice (some ⟨gg, 0, none⟩) xs.length cpp) xs ∧ (∀ k, KeysT (.slice (some ⟨gg, 0, none⟩) xs.length cpp) xs k → W4.heap.size ≤ k ∧ k < w5.heap.size) ∧ ApartT xs ∧ xs.map Tx.tb = out ∧ szB (xs.map Tx.tb) ≤ 1048576 ∧ xs.length ≤ 1048576) := by
    have e1 : out' = out := mrgT_uniq hM' HS0.out.2.1
    obtain ⟨b1, b2⟩ := mrgT_sz hM'
    have b3 := szB_tn ts
    have b4 := congrArg List.length hx5
    simp at b4 b2
    refine ⟨hS5.below hbW5, fun k hk => hS5.key hk, hA5, by rw [hx5, e1], by rw [hx5]; omega, by omega⟩
  have HCg : Hid (∀ wx, Below W5.heap.size W5 wx → wx.cell? ⟨w5.heap.size, 0, none⟩ = some (.slice (some ⟨gg, 0, none⟩) xs.length cpp)) := fun wx hx => by rw [hx.cell (p := ⟨w5.heap.size, 0, none⟩) (by show w5.heap.size < W5.heap.size; omega), hW5]; simp
  clear hS5 hA5 hx5 hM' hb5 cx
  have cg := HCg.out W5 (Below.refl _ _)
  obtain ⟨cw, hw5⟩ := HS0.out.1 W5 k35
  have HI5 : Hid (InTabs W5 (.slice va vn vc) (xs0.map Tx.tn)) := hw5
  clear hw5
  have HV : Hid (vwT (xs.map Tx.tn) = vwT (xs0.map Tx.tn)) := vwX_eq (by rw [HG.out.2.2.2.1, HS0.out.2.2])
  go_upto_region 10 with fail
  rw [← hW5]
  clear hW5
  go_wp2_with fail
  refine (eqStore_any _ _ _ _ _ HG.out.1.ins HI5.out HV.out).mono ?_
  rintro e w6 ⟨rfl, hb6⟩
  have s6 := hb6.size
  have k46 : Below W4.heap.size W4 w6 := k45.trans (hb6.mono (by omega))
  have k36 : Below W3.heap.size W3 w6 := k35.trans (hb6.mono (by omega))
  have k06 : Below W0.heap.size W0 w6 := k0W3.trans (k36.mono k0W3.size)
  clear cg cw
  have cx6 := HX.out.2.2.2 w6 k46
  obtain ⟨ca6, hI6⟩ := HK0.out w6 k06
  have HI6 : Hid (InTabs w6 u ts) := hI6
  clear hI6
  go_upto_region 12 with fail
  go_cut [38] (fun s wx => s = .bool false ∧ Below w6.heap.size w6 wx)
  case first =>
    have hz6 : w4.heap.size < w6.heap.size := by omega
    have hza : w.heap.size < w6.heap.size := by have := k06.size; omega
    have HX6 : Hid (InTabs w6 (.slice (some ⟨g2, 0, none⟩) l2.length l2.length) ((l2.map Tw.tx).map Tx.tn)) := (HX.out.2.1.st.below k46).ins
    have HM2 : Hid (l2.map Tw.tb = ts.map Tn.tb) := HX.out.2.2.1
    go_region_with (first
      | (go_at_call 27; refine (toStore_in w6 u ts _ ?hB HI6 hn l2 HM2).mono ?_; (case hB => (repeat (first | assumption | exact Below.refl _ _ | refine Below.drew ?_))); rintro e w' ⟨g3, l3, rfl, HG3, hbb, hcc⟩)
      | (go_at_call 29; refine (eqStore_in w6 _ _ ((l2.map Tw.tx).map Tx.tn) ((l3.map Tw.tx).map Tx.tn) _ ?hB HX6 ?hC).mono ?_; (case hB => (repeat (first | assumption | exact Below.refl _ _ | refine Below.drew ?_))); (case hC => assumption); rintro e w' ⟨rfl, hbb2⟩))
    all_goals go_wp2_with fail
    all_goals go_meet
    all_goals exact ⟨rfl, by assumption⟩
  case rest =>
  obtain ⟨rfl, h7⟩ := hcut
  have s7 := h7.size
  have k47 : Below W4.heap.size W4 wc := k46.trans (h7.mono (by have := k46.size; omega))
  have k57 : Below W5.heap.size W5 wc := hb6.trans (h7.mono s6)
  have k37 : Below W3.heap.size W3 wc := k36.trans (h7.mono (by have := k36.size; omega))
  have HT7 : Hid (OwnSt wc W3.heap.size (.slice (some ⟨g2, 0, none⟩) l2.length l2.length) (l2.map Tw.tx) ∧ ApartT (l2.map Tw.tx) ∧ szB ((l2.map Tw.tx).map Tx.tb) ≤ 1048576 ∧ (l2.map Tw.tx).length ≤ 1048576 ∧ (∀ k, KeysT (.slice (some ⟨g2, 0, none⟩) l2.length l2.length) (l2.map Tw.tx) k → W3.heap.size ≤ k ∧ k < w4.heap.size)) := by
    have b3 := szB_tn ts
    have b4 := congrArg List.length HX.out.2.2.1
    simp at b4
    refine ⟨(HX.out.2.1.st.below k47), HX.out.2.1.apart, by rw [tx_tb, HX.out.2.2.1]; omega, by rw [List.length_map]; omega, fun k hk => HX.out.1.st.key hk⟩
  obtain ⟨tx, htx⟩ : ∃ tx, tx = totX (l2.map Tw.tx) := ⟨_, rfl⟩
  have htx1 : tx ≤ 8388608 := by
    have q1 := totX_sz (l2.map Tw.tx)
    have q2 := HT7.out.2.2.1
    have q3 := HT7.out.2.2.2.1
    rw [htx]; omega
  have HTX : Hid (tx = totX (l2.map Tw.tx)) := htx
  clear htx cx6 ca6
  have cx7 := HX.out.2.2.2 wc k47
  go_upto_region 15 with fail
  go_wp2_with fail
  refine (markStore_gen W3.heap.size _ _ 1 _ HT7.out.1 HT7.out.2.1 (by omega) (by rw [← HTX.out]; omega) (tx_ok HT7.out.2.2.1) HT7.out.2.2.2.1).mono ?_
  rintro e w8 ⟨ts8, rfl, _, _, _, hC8⟩
  rw [← HTX.out]
  have s8 := hC8.size
  have k38 : Below W3.heap.size W3 w8 := Chg.below k37 hC8 k37.size (fun k q => (HT7.out.2.2.2.2 k q).1)
  have HG8 : Hid (OwnSt w8 W4.heap.size (.slice (some ⟨gg, 0, none⟩) xs.length cpp) xs) := (HG.out.1.below k57).chg hC8 (fun k q1 q2 q3 => by have := (HT7.out.2.2.2.2 k q3).2; omega)
  have cg8 : w8.cell? ⟨w5.heap.size, 0, none⟩ = some (.slice (some ⟨gg, 0, none⟩) xs.length cpp) := by
    rw [hC8.cell (p := ⟨w5.heap.size, 0, none⟩) (by show w5.heap.size < wc.heap.size; omega) (fun q => by have := (HT7.out.2.2.2.2 _ q).2; simp only at this; omega)]; exact HCg.out wc k57
  obtain ⟨cw8, hw8⟩ := HS0.out.1 w8 k38
  have HI8 : Hid (InTabs w8 (.slice va vn vc) (xs0.map Tx.tn)) := hw8
  clear hw8 cx7 hC8
  have zk : ¬ (1 : Int) + (tx : Int) < 0 := by omega
  have hd : decide ((1 : Int) + (tx : Int) < 0) = false := decide_eq_false zk
  go_wp2_with fail
  refine (eqStore_any _ _ _ _ _ HG8.out.ins HI8.out HV.out).mono ?_
  rintro e w9 ⟨rfl, hb9⟩
  have s9 := hb9.size
  have k39 : Below W3.heap.size W3 w9 := k38.trans (hb9.mono k38.size)
  have cg9 : w9.cell? ⟨w5.heap.size, 0, none⟩ = some (.slice (some ⟨gg, 0, none⟩) xs.length cpp) := by rw [hb9.cell (p := ⟨w5.heap.size, 0, none⟩) (by show w5.heap.size < w8.heap.size; omega)]; exact cg8
  have HG9 : Hid (OwnSt w9 W4.heap.size (.slice (some ⟨gg, 0, none⟩) xs.length cpp) xs) := HG8.out.below hb9
  obtain ⟨tg, htg⟩ : ∃ tg, tg = totX xs := ⟨_, rfl⟩
  have htg1 : tg ≤ 8388608 := by
    have q1 := totX_sz xs
    have q2 := HG.out.2.2.2.2.1
    have q3 := HG.out.2.2.2.2.2
    rw [htg]; omega
  have HTG : Hid (tg = totX xs) := htg
  clear htg cg8 cw8
  go_upto_region 19 with fail
  go_wp2_with fail
  refine (markStore_gen W4.heap.size _ _ 1 _ HG9.out HG.out.2.2.1 (by omega) (by rw [← HTG.out]; omega) (tx_ok HG.out.2.2.2.2.1) HG.out.2.2.2.2.2).mono ?_
  rintro e w10 ⟨ts10, rfl, hsh, hS10, hmk, hC10⟩
  rw [← HTG.out]
  have s10 := hC10.size
  have k310 : Below W3.heap.size W3 w10 := Chg.below k39 hC10 k39.size (fun k q => by have := (HG.out.2.1 k q).1; omega)
  have cg10 : w10.cell? ⟨w5.heap.size, 0, none⟩ = some (.slice (some ⟨gg, 0, none⟩) xs.length cpp) := by
    rw [hC10.cell (p := ⟨w5.heap.size, 0, none⟩) (by show w5.heap.size < w9.heap.size; omega) (fun q => by have := (HG.out.2.1 _ q).2; simp only at this; omega)]; exact cg9
  have HG10 : Hid (OwnSt w10 W4.heap.size (.slice (some ⟨gg, 0, none⟩) xs.length cpp) ts10 ∧ MarkedT 1 ts10 ∧ totX ts10 = tg ∧ (∀ t ∈ ts10, totW t.rs ≤ 1048576 ∧ t.rs.length ≤ 1048576) ∧ ts10.length ≤ 1048576) := by
    have q1 := congrArg List.length hsh
    simp at q1
    refine ⟨hS10, hmk, by rw [shpT_tot hsh]; exact HTG.out.symm, shpT_ok hsh (tx_ok HG.out.2.2.2.2.1), by have := HG.out.2.2.2.2.2; omega⟩
  clear hsh hS10 hmk hC10 cg9
  go_upto_region 21 with fail
  go_wp2_with fail
  refine (heldStore_gen W4.heap.size _ ts10 1 _ HG10.out.1 HG10.out.2.1 (by omega) (by rw [HG10.out.2.2.1]; omega) HG10.out.2.2.2.1 HG10.out.2.2.2.2).mono ?_
  rintro e w11 ⟨rfl, hb11⟩
  rw [HG10.out.2.2.1]
  have k311 : Below W3.heap.size W3 w11 := k310.trans (hb11.mono k310.size)
  have k011 : Below W0.heap.size W0 w11 := k0W3.trans (k311.mono k0W3.size)
  obtain ⟨ca11, hI11⟩ := HK0.out w11 k011
  have HI11 : Hid (InTabs w11 u ts) := hI11
  clear hI11 cg10
  have zq : ¬ (1 : Int) + (tg : Int) < 0 := by omega
  go_wp2_with fail
  refine (toStore_any u ts _ HI11.out hn).mono ?_
  rintro e w12 ⟨g3, l3, rfl, hO3, hm3, hb12⟩
  have k312 : Below W3.heap.size W3 w12 := k311.trans (hb12.mono k311.size)
  have HO3 : Hid (OwnTabs w12 w11.heap.size g3 l3 ∧ l3.map Tw.tb = ts.map Tn.tb) := ⟨hO3, hm3⟩
  clear hO3 hm3
  go_wp2_with fail
  refine (implMerge_at row HO3.out.1 HO3.out.2 HE.out.2 hn).mono ?_
  rintro e w13 ⟨out', hM', gh, cph, ys, rfl, hS13, _, hx13, hb13⟩
  have k313 : Below W3.heap.size W3 w13 := k312.trans (hb13.mono k312.size)
  obtain ⟨W14, hW14⟩ : ∃ W14 : World, W14 = w13.alloc (Obj.cells #[.slice (some ⟨gh, 0, none⟩) ys.length cph] 66) := ⟨_, rfl⟩
  have hbW14 : Below w13.heap.size w13 W14 := by rw [hW14]; exact (Below.refl _ _).alloc (Nat.le_refl _) _
  have k314 : Below W3.heap.size W3 W14 := k313.trans (hbW14.mono k313.size)
  have HH : Hid (InTabs W14 (.slice (some ⟨gh, 0, none⟩) ys.length cph) (ys.map Tx.tn) ∧ vwT (ys.map Tx.tn) = vwT (xs0.map Tx.tn)) := ⟨(hS13.below hbW14).ins, vwX_eq (by rw [hx13, HS0.out.2.2]; exact mrgT_uniq hM' HS0.out.2.1)⟩
  have ch : W14.cell? ⟨w13.heap.size, 0, none⟩ = some (.slice (some ⟨gh, 0, none⟩) ys.length cph) := by rw [hW14]; simp
  obtain ⟨cw14, hw14⟩ := HS0.out.1 W14 k314
  have HI14 : Hid (InTabs W14 (.slice va vn vc) (xs0.map Tx.tn)) := hw14
  clear hw14 hS13 hx13 hM' ca11
  go_upto_region 27 with fail
  rw [← hW14]
  clear hW14
  go_wp2_with fail
  refine (eqStore_any _ _ _ _ _ HH.out.1 HI14.out HH.out.2).mono ?_
  rintro e w15 ⟨rfl, hb15⟩
  have k315 : Below W3.heap.size W3 w15 := k314.trans (hb15.mono k314.size)
  go_wp2_with fail
  go_ret
  exact ⟨rfl, (hb0.trans (k0W3.mono (by omega))).trans (k315.mono (by have := k0W3.size; omega))⟩

theorem lifted (os : Os) (started : os.Started) (H : Type) (enc : TypeId × Value → H) :
    ReturnsInHanded {} Try.checked os 6 .any (Rows.fnExactMergeStoreSpec.pre6 enc Try.prog Try.f6 Rows.fnExactMergeStoreRow.domain false) (Rows.fnExactMergeStoreSpec.post enc Try.prog Try.f6 false true false false) := by
  refine returnsInHanded_of_change (C := Try.checked) own started (by kernel_rfl) Try.func6
    (ChangeSpec.witness6 (enc := enc) (C := Try.checked) false ⟨#[], #[.agg #[.slice none 0 0], .string ⟨#[]⟩], []⟩ 8 (by kernel_rfl) (by kernel_rfl) (by kernel_rfl) (by kernel_rfl)) ?_
  intro W base args ds gs before hval0 hW hcnd _
  have hval : ∀ (j : Nat) t v, Try.f6.params[j]? = some t → args[j]? = some v → Value.okWide Try.prog W .any base t v := hval0
  have hW' := hW
  obtain ⟨p, q, hA0, hV, rfl, hfz, hnd⟩ := hW
  have hA : DataW.TrodAll enc Try.prog W 0 (fun _ => true) true Try.f6.params.toList args.toList ds p := hA0
  rw [Try.params6] at hA hval
  obtain ⟨v0, vs0, d0, ds0, p0, q0, hargs, rfl, rfl, h0, r0⟩ := trodAll_cons hA
  obtain ⟨v1, vs1, d1, ds1, p1, q1, rfl, rfl, rfl, h1, r1⟩ := trodAll_cons r0
  obtain ⟨rfl, rfl, rfl⟩ := trodAll_nil r1
  obtain rfl : args = #[v0, v1] := by cases args; simp_all
  obtain ⟨rfl, rfl⟩ := trodVars_none hV
  have k0 := h0
  have lt0 : ∀ x ∈ p0, x.block < W.heap.size := by obtain ⟨m, hm⟩ := k0; exact DataW.trod_lt m _ _ _ hm
  obtain ⟨u, ts, rfl, hin, ok0⟩ := open_store (hval 0 62 v0 rfl rfl) h0
  have k1 := h1
  have lt1 : ∀ x ∈ p1, x.block < W.heap.size := by obtain ⟨m, hm⟩ := k1; exact DataW.trod_lt m _ _ _ hm
  obtain ⟨s, rfl, _, _, hs⟩ := open_string Try.underlying9 (hval 1 9 v1 rfl rfl) h1
  clear hA0 hval0
  refine (walk u ts s W hin ok0 hs).mono fun e W' ⟨he, bel⟩ => ?_
  subst he
  exact ⟨_, rfl, _, _, _, [], _, [], hW', trodAll_mk1 (shut_bool Try.underlying4 _), (trodAll_cons_mk (Below.trod laidOut (by kernel_rfl) (of_decide_eq_true (by kernel_rfl)) k0 bel lt0) (trodAll_cons_mk (Below.trod laidOut (by kernel_rfl) (of_decide_eq_true (by kernel_rfl)) k1 bel lt1) trodAll_mk0)), rfl, bel.frame _, fun h => by cases h⟩

theorem over : Rows.fnExactMergeStoreRow.holds Try.pinned (OpenSpec.ofChange Rows.fnExactMergeStoreSpec) :=
  OpenClaim.holds_of_wide 6 Try.f6 rfl rfl rfl rfl rfl rfl rfl ⟨rfl, rfl, rfl, rfl, rfl⟩ rfl rfl rfl rfl rfl (by kernel_rfl) Try.func6 (by kernel_rfl)
    (of_decide_eq_true (by kernel_rfl)) (by unfold Func.isWrapper; first | (rw [if_pos (by decide +kernel)]; kernel_rfl) | (rw [if_neg (by decide +kernel)]; exact ⟨rfl, rfl⟩))
    (fun os started H enc _ => lifted os started H enc)

end Go.Proofs.Ytlgeffinhbodeae.exMergeStore
namespace Go.Proofs.Ytlgeffinhbodeae
theorem exactMergeStore_holds : Rows.FnExactMergeStoreSaid := exMergeStore.over
#print axioms exactMergeStore_holds
end Go.Proofs.Ytlgeffinhbodeae
