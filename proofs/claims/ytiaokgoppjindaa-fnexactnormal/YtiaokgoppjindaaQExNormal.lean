/-
  The law FnExactNormal.
-/
import Derived.Test.YtiaokgoppjindaaPkAH
namespace Go.Proofs.Ytiaokgoppjindaa.exNormal
open Go.ChangeShapes Go.WideShapes Go.ChangeAt Go.RowKit Go.Deep
set_option linter.unusedVariables false
set_option linter.unusedSimpArgs false
set_option maxRecDepth 100000

theorem own : ownKnob Try.prog.godebug = none := by kernel_rfl
theorem laidOut : laidOutB Try.prog = true := by kernel_rfl

theorem toFilter_in (W0 : World) (u : Value) (es : List Nd) (w : World) (hb : Below W0.heap.size W0 w) (h : Hid (InNds W0 u es)) (h1 : es.length ≤ 1048576) :
    Calls Try.prog 6 #[.agg #[u]] w fun e w' =>
      ∃ g, e = .returned (.agg #[.slice (some ⟨g, 0, none⟩) es.length es.length]) ∧ Hid (InNds w' (.slice (some ⟨g, 0, none⟩) es.length es.length) es) ∧ Below W0.heap.size W0 w' ∧ (∀ b o, b < W0.heap.size → w'.cell? ⟨b, o, none⟩ = W0.cell? ⟨b, o, none⟩) := by
  refine (toFilter_any u es w (h.out.below hb (Nat.le_refl _)) h1).mono ?_
  rintro e w' ⟨g, he, hO, hb'⟩
  have k := hb.trans (hb'.mono hb.size)
  exact ⟨g, he, InNds.own hO rfl, k, fun b o hlt => k.cell (p := ⟨b, o, none⟩) hlt⟩
theorem eqFilter_in (W0 : World) (u u' : Value) (es : List Nd) (w : World) (hb : Below W0.heap.size W0 w) (h : Hid (InNds W0 u es)) (h' : Hid (InNds w u' es)) :
    Calls Try.prog 8 #[.agg #[u], .agg #[u']] w fun e w' => e = .returned (.bool true) ∧ Below W0.heap.size W0 w' := by
  refine (eqFilter_any u u' es w (h.out.below hb (Nat.le_refl _)) h'.out).mono ?_
  rintro e w' ⟨he, hb'⟩
  exact ⟨he, hb.trans (hb'.mono hb.size)⟩

set_option maxHeartbeats 8000000 in
theorem walk (u : Value) (es : List Nd) (w : World) (h : InNds w u es) (hok : ∀ e ∈ es, e.ok) :
    Calls Try.prog 3 #[.agg #[u]] w fun e w' => e = .returned (.bool true) ∧ Below w.heap.size w w' := by
  have HE : Hid (InNds w u es ∧ ∀ e ∈ es, e.ok) := ⟨h, hok⟩
  have hu : u.cells = #[u] := by
    rcases h with ⟨a, cap, rfl, _⟩ | ⟨b, off, cap, rfl, _⟩ <;> rfl
  clear h hok
  obtain ⟨W0, hW0⟩ : ∃ W0 : World, W0 = w.alloc (Obj.cells #[u] 24) := ⟨_, rfl⟩
  have hb0 : Below w.heap.size w W0 := by rw [hW0]; exact (Below.refl _ _).alloc (Nat.le_refl _) _
  have hz0 : w.heap.size < W0.heap.size := by rw [hW0]; simp
  have ca : W0.cell? ⟨w.heap.size, 0, none⟩ = some u := by rw [hW0]; simp
  have HE0 : Hid (InNds W0 u es) := HE.out.1.below hb0 (Nat.le_refl _)
  have HA : Hid (∀ wx, Below W0.heap.size W0 wx → wx.cell? ⟨w.heap.size, 0, none⟩ = some u ∧ InNds wx u es) := fun wx hx => ⟨by rw [hx.cell (p := ⟨w.heap.size, 0, none⟩) hz0]; exact ca, HE0.out.below hx (Nat.le_refl _)⟩
  go_enter Try.func3, Try.ntmps3
  go_wp2_with fail
  rw [← hW0]
  clear hW0
  refine (szFilter_any u es _ _ HE0.out HE.out.2 (by omega) (by omega)).mono ?_
  rintro e w1 ⟨x, rfl, hx, hb1⟩
  have hs1 := hb1.size
  by_cases hx0 : x < 0
  · clear hx
    go_wp2_with fail
    go_ret
    exact ⟨rfl, hb0.trans (hb1.mono (by omega))⟩
  have hn : es.length ≤ 1048576 := by omega
  clear hx ca
  obtain ⟨ca, hE1⟩ := HA.out w1 hb1
  have HE1 : Hid (InNds w1 u es) := hE1
  clear hE1
  go_wp2_with fail
  refine (toFilter_any u es _ HE1.out hn).mono ?_
  rintro e w2 ⟨g, rfl, hO, hb2⟩
  have hs2 := hb2.size
  have HO : Hid (OwnNd w2 w1.heap.size g es.length es) := hO
  have j2 : Below W0.heap.size W0 w2 := hb1.trans (hb2.mono (by omega))
  clear hO ca
  go_wp2_with fail
  refine (specNormal_any HO.out HE.out.2 (by omega)).mono ?_
  rintro e w3 ⟨a0, n0, c0, R, rfl, hU3, hR3, hb3⟩
  have s3 := hb3.size
  have hRl := nrmOf_len hR3
  have HU3 : Hid (OwnUN w3 w2.heap.size (.slice a0 n0 c0) R ∧ NrmOf es R) := ⟨hU3, hR3⟩
  clear hU3 hR3
  obtain ⟨W4, hW4⟩ : ∃ W4 : World, W4 = w3.alloc (Obj.cells #[.slice a0 n0 c0] 28) := ⟨_, rfl⟩
  have hb4 : Below w3.heap.size w3 W4 := by rw [hW4]; exact (Below.refl _ _).alloc (Nat.le_refl _) _
  have s4 : W4.heap.size = w3.heap.size + 1 := by rw [hW4]; simp
  have HC4 : Hid (W4.cell? ⟨w3.heap.size, 0, none⟩ = some (.slice a0 n0 c0)) := by show W4.cell? _ = _; rw [hW4]; simp
  have j4 : Below W0.heap.size W0 W4 := (j2.trans (hb3.mono (by omega))).trans (hb4.mono (by omega))
  have HU4 : Hid (OwnUN W4 w2.heap.size (.slice a0 n0 c0) R) := HU3.out.1.below hb4
  have hu0 : ∀ k, (Value.slice a0 n0 c0).ownBlock = some k → w2.heap.size ≤ k ∧ k < w3.heap.size := HU3.out.1.row
  obtain ⟨ca, hE4⟩ := HA.out W4 j4
  have HE4 : Hid (InNds W4 u es) := hE4
  clear hE4
  go_upto_region 6 with fail
  rw [← hW4]
  clear hW4
  go_wp2_with fail
  refine (toFilter_any u es _ HE4.out hn).mono ?_
  rintro e w5 ⟨gx, rfl, hO5, hb5⟩
  have s5 := hb5.size
  have hgx := hO5.lt
  have HX5 : Hid (OwnNd w5 W4.heap.size gx es.length es) := hO5
  clear hO5 ca
  obtain ⟨W6, hW6⟩ : ∃ W6 : World, W6 = w5.alloc (Obj.cells #[.slice (some ⟨gx, 0, none⟩) es.length es.length] 28) := ⟨_, rfl⟩
  have hb6 : Below w5.heap.size w5 W6 := by rw [hW6]; exact (Below.refl _ _).alloc (Nat.le_refl _) _
  have s6 : W6.heap.size = w5.heap.size + 1 := by rw [hW6]; simp
  have HC6 : Hid (W6.cell? ⟨w5.heap.size, 0, none⟩ = some (.slice (some ⟨gx, 0, none⟩) es.length es.length)) := by show W6.cell? _ = _; rw [hW6]; simp
  have HX6 : Hid (OwnNd W6 W4.heap.size gx es.length es) := HX5.out.below hb6 HX5.out.lt.2
  have k46 : Below W4.heap.size W4 W6 := hb5.trans (hb6.mono (by omega))
  go_upto_region 7 with fail
  rw [← hW6]
  clear hW6
  have cx := HC6.out
  go_wp2_with fail
  refine (implNormal_core HX6.out HE.out.2).mono ?_
  rintro e w7 ⟨a1, n1, c1, R', rfl, hU7, hR7, hb7⟩
  have s7 := hb7.size
  have hRR : R' = R := nrmOf_one hR7 HU3.out.2
  subst hRR
  have HU7 : Hid (OwnUN w7 W6.heap.size (.slice a1 n1 c1) R') := hU7
  have hu1 : ∀ k, (Value.slice a1 n1 c1).ownBlock = some k → W6.heap.size ≤ k ∧ k < w7.heap.size := hU7.row
  clear hU7 hR7 cx
  obtain ⟨W8, hW8⟩ : ∃ W8 : World, W8 = w7.alloc (Obj.cells #[.slice a1 n1 c1] 28) := ⟨_, rfl⟩
  have hb8 : Below w7.heap.size w7 W8 := by rw [hW8]; exact (Below.refl _ _).alloc (Nat.le_refl _) _
  have s8 : W8.heap.size = w7.heap.size + 1 := by rw [hW8]; simp
  have k68 : Below W6.heap.size W6 W8 := hb7.trans (hb8.mono (by omega))
  have k48 : Below W4.heap.size W4 W8 := k46.trans (k68.mono (by omega))
  have j8 : Below W0.heap.size W0 W8 := j4.trans (k48.mono j4.size)
  have HC8 : Hid (W8.cell? ⟨w7.heap.size, 0, none⟩ = some (.slice a1 n1 c1) ∧ W8.cell? ⟨w5.heap.size, 0, none⟩ = some (.slice (some ⟨gx, 0, none⟩) es.length es.length) ∧ W8.cell? ⟨w3.heap.size, 0, none⟩ = some (.slice a0 n0 c0)) := by
    refine ⟨by rw [hW8]; simp, ?_, ?_⟩
    · rw [k68.cell (p := ⟨w5.heap.size, 0, none⟩) (by show w5.heap.size < W6.heap.size; omega)]; exact HC6.out
    · rw [k48.cell (p := ⟨w3.heap.size, 0, none⟩) (by show w3.heap.size < W4.heap.size; omega)]; exact HC4.out
  have HU8 : Hid (OwnUN W8 w2.heap.size (.slice a0 n0 c0) R' ∧ OwnUN W8 W6.heap.size (.slice a1 n1 c1) R' ∧ OwnNd W8 W4.heap.size gx es.length es) := ⟨HU4.out.below k48, HU7.out.below hb8, HX6.out.below k68 (by omega)⟩
  go_upto_region 8 with fail
  rw [← hW8]
  clear hW8
  obtain ⟨q1, _, q0⟩ := HC8.out
  go_wp2_with fail
  refine (eqFilter_any _ _ R' _ HU8.out.2.1.ins HU8.out.1.ins).mono ?_
  rintro e w9 ⟨rfl, hb9⟩
  have s9 := hb9.size
  have j9 : Below W0.heap.size W0 w9 := j8.trans (hb9.mono j8.size)
  clear q0 q1
  have HC9 : Hid (w9.cell? ⟨w7.heap.size, 0, none⟩ = some (.slice a1 n1 c1) ∧ w9.cell? ⟨w5.heap.size, 0, none⟩ = some (.slice (some ⟨gx, 0, none⟩) es.length es.length) ∧ w9.cell? ⟨w3.heap.size, 0, none⟩ = some (.slice a0 n0 c0)) := by
    refine ⟨?_, ?_, ?_⟩
    · rw [hb9.cell (p := ⟨w7.heap.size, 0, none⟩) (by show w7.heap.size < W8.heap.size; omega)]; exact HC8.out.1
    · rw [hb9.cell (p := ⟨w5.heap.size, 0, none⟩) (by show w5.heap.size < W8.heap.size; omega)]; exact HC8.out.2.1
    · rw [hb9.cell (p := ⟨w3.heap.size, 0, none⟩) (by show w3.heap.size < W8.heap.size; omega)]; exact HC8.out.2.2
  have HU9 : Hid (OwnUN w9 w2.heap.size (.slice a0 n0 c0) R' ∧ OwnUN w9 W6.heap.size (.slice a1 n1 c1) R' ∧ OwnNd w9 W4.heap.size gx es.length es) := ⟨HU8.out.1.below hb9, HU8.out.2.1.below hb9, HU8.out.2.2.below hb9 (by omega)⟩
  obtain ⟨cx9, ca9⟩ : w9.cell? ⟨w5.heap.size, 0, none⟩ = some (.slice (some ⟨gx, 0, none⟩) es.length es.length) ∧ w9.cell? ⟨w.heap.size, 0, none⟩ = some u := ⟨HC9.out.2.1, (HA.out w9 j9).1⟩
  have HE9 : Hid (InNds w9 u es) := (HA.out w9 j9).2
  go_upto_region 10 with fail
  go_cut [31] (fun s wx => s = .bool false ∧ Below w9.heap.size w9 wx)
  case first =>
    have hz9 : w5.heap.size < w9.heap.size := by omega
    have hza : w.heap.size < w9.heap.size := by omega
    have HX9 : Hid (InNds w9 (.slice (some ⟨gx, 0, none⟩) es.length es.length) es) := InNds.own HU9.out.2.2 rfl
    go_region_with (first
      | (go_at_call 6; refine (toFilter_in w9 u es _ ?hB HE9 hn).mono ?_; (case hB => (repeat (first | assumption | exact Below.refl _ _ | refine Below.drew ?_))); rintro e w' ⟨g3, rfl, HG, hbb, hcc⟩)
      | (go_at_call 8; refine (eqFilter_in w9 _ _ es _ ?hB HX9 ?hC).mono ?_; (case hB => (repeat (first | assumption | exact Below.refl _ _ | refine Below.drew ?_))); (case hC => assumption); rintro e w' ⟨rfl, hbb2⟩))
    all_goals go_wp2_with fail
    all_goals go_meet
    all_goals exact ⟨rfl, by assumption⟩
  case rest =>
  obtain ⟨rfl, hb10⟩ := hcut
  obtain ⟨w10, hw10⟩ : ∃ w10 : World, w10 = wc := ⟨_, rfl⟩
  subst hw10
  have s10 := hb10.size
  have HC10 : Hid (w10.cell? ⟨w7.heap.size, 0, none⟩ = some (.slice a1 n1 c1) ∧ w10.cell? ⟨w5.heap.size, 0, none⟩ = some (.slice (some ⟨gx, 0, none⟩) es.length es.length) ∧ w10.cell? ⟨w3.heap.size, 0, none⟩ = some (.slice a0 n0 c0)) := by
    refine ⟨?_, ?_, ?_⟩
    · rw [hb10.cell (p := ⟨w7.heap.size, 0, none⟩) (by show w7.heap.size < w9.heap.size; omega)]; exact HC9.out.1
    · rw [hb10.cell (p := ⟨w5.heap.size, 0, none⟩) (by show w5.heap.size < w9.heap.size; omega)]; exact HC9.out.2.1
    · rw [hb10.cell (p := ⟨w3.heap.size, 0, none⟩) (by show w3.heap.size < w9.heap.size; omega)]; exact HC9.out.2.2
  have HU10 : Hid (OwnUN w10 w2.heap.size (.slice a0 n0 c0) R' ∧ OwnUN w10 W6.heap.size (.slice a1 n1 c1) R' ∧ OwnUN w10 W4.heap.size (.slice (some ⟨gx, 0, none⟩) es.length es.length) es) := ⟨HU9.out.1.below hb10, HU9.out.2.1.below hb10, .inr ⟨gx, es.length, rfl, HU9.out.2.2.below hb10 (by omega)⟩⟩
  have j10 : Below W0.heap.size W0 w10 := j9.trans (hb10.mono j9.size)
  clear cx9 ca9
  have cx10 := HC10.out.2.1
  go_wp2_with fail
  refine (markFilter_own W4.heap.size _ es 1 _ HU10.out.2.2 (by omega) (by omega) hn).mono ?_
  rintro e w11 ⟨E1, rfl, _, _, _, hg11⟩
  have s11 := hg11.size
  have HG11 : Hid (∀ b o, b < w10.heap.size → ¬ b = gx → w11.cell? ⟨b, o, none⟩ = w10.cell? ⟨b, o, none⟩) := fun b o hb hne => hg11.cell_far ⟨b, o, none⟩ hb (fun q => hne (by simpa [Value.ownBlock] using q))
  have HC11 : Hid (w11.cell? ⟨w7.heap.size, 0, none⟩ = some (.slice a1 n1 c1) ∧ w11.cell? ⟨w3.heap.size, 0, none⟩ = some (.slice a0 n0 c0)) := by
    refine ⟨?_, ?_⟩
    · rw [HG11.out w7.heap.size 0 (by omega) (by omega)]; exact HC10.out.1
    · rw [HG11.out w3.heap.size 0 (by omega) (by omega)]; exact HC10.out.2.2
  have HU11 : Hid (OwnUN w11 w2.heap.size (.slice a0 n0 c0) R' ∧ OwnUN w11 W6.heap.size (.slice a1 n1 c1) R') :=
    ⟨HU10.out.1.keptNe hg11 (fun k hk q => by have h1 := hu0 k hk; have h2 : gx = k := by simpa [Value.ownBlock] using q
                                              omega), HU10.out.2.1.keptNe hg11 (fun k hk q => by have h1 := hu1 k hk; have h2 : gx = k := by simpa [Value.ownBlock] using q
                                                                                                 omega)⟩
  have j11 : Below W0.heap.size W0 w11 := j10.grown hg11 j10.size (fun k hk => by
    have h2 : gx = k := by simpa [Value.ownBlock] using hk
    have := j4.size; omega)
  clear hg11 cx10
  have hk1 : ¬ (1 + (es.length : Int) * 7 < 0) := by omega
  obtain ⟨q1, q0⟩ := HC11.out
  go_wp2_with fail
  refine (eqFilter_any _ _ R' _ HU11.out.2.ins HU11.out.1.ins).mono ?_
  rintro e w12 ⟨rfl, hb12⟩
  have s12 := hb12.size
  have HU12 : Hid (OwnUN w12 w2.heap.size (.slice a0 n0 c0) R' ∧ OwnUN w12 W6.heap.size (.slice a1 n1 c1) R') := ⟨HU11.out.1.below hb12, HU11.out.2.below hb12⟩
  have HC12 : Hid (w12.cell? ⟨w7.heap.size, 0, none⟩ = some (.slice a1 n1 c1) ∧ w12.cell? ⟨w3.heap.size, 0, none⟩ = some (.slice a0 n0 c0)) := by
    refine ⟨?_, ?_⟩
    · rw [hb12.cell (p := ⟨w7.heap.size, 0, none⟩) (by show w7.heap.size < w11.heap.size; omega)]; exact HC11.out.1
    · rw [hb12.cell (p := ⟨w3.heap.size, 0, none⟩) (by show w3.heap.size < w11.heap.size; omega)]; exact HC11.out.2
  have j12 : Below W0.heap.size W0 w12 := j11.trans (hb12.mono j11.size)
  clear q0 q1 hk1
  obtain ⟨q1, q0⟩ := HC12.out
  go_wp2_with fail
  refine (markFilter_own W6.heap.size _ R' 1 _ HU12.out.2 (by omega) (by omega) (by omega)).mono ?_
  rintro e w13 ⟨R1, rfl, hU13, hl13, hm13, hg13⟩
  have s13 := hg13.size
  have HC13 : Hid (w13.cell? ⟨w7.heap.size, 0, none⟩ = some (.slice a1 n1 c1) ∧ w13.cell? ⟨w3.heap.size, 0, none⟩ = some (.slice a0 n0 c0)) := by
    refine ⟨?_, ?_⟩
    · rw [hg13.cell_far ⟨w7.heap.size, 0, none⟩ (by show w7.heap.size < w12.heap.size; omega) (fun q => by have h1 : W6.heap.size ≤ w7.heap.size ∧ w7.heap.size < w7.heap.size := hu1 _ q.symm; omega)]; exact HC12.out.1
    · rw [hg13.cell_far ⟨w3.heap.size, 0, none⟩ (by show w3.heap.size < w12.heap.size; omega) (fun q => by have h1 : W6.heap.size ≤ w3.heap.size ∧ w3.heap.size < w7.heap.size := hu1 _ q.symm; omega)]; exact HC12.out.2
  have HU13 : Hid (OwnUN w13 w2.heap.size (.slice a0 n0 c0) R') := HU12.out.1.keptNe hg13 (fun g hg q => by have h1 := hu0 g hg; have h2 := hu1 g q; omega)
  have HM13 : Hid (OwnUN w13 W6.heap.size (.slice a1 n1 c1) R1 ∧ markedN 1 R1 R1.length) := ⟨hU13, hm13⟩
  have j13 : Below W0.heap.size W0 w13 := j12.grown hg13 j12.size (fun j hj => by have h2 := hu1 j hj; have := j4.size; omega)
  have HRl : Hid (R1.length = R'.length) := hl13
  clear hU13 hm13 hg13 hl13 q0 q1
  obtain ⟨q1, q0⟩ := HC13.out
  go_wp2_with fail
  rw [← HRl.out]
  refine (heldFilter_own W6.heap.size _ R1 1 _ HM13.out.1 HM13.out.2 (by omega) (by omega) (by rw [HRl.out]; omega)).mono ?_
  rintro e w14 ⟨rfl, hb14⟩
  rw [HRl.out]
  have s14 := hb14.size
  have HU14 : Hid (OwnUN w14 w2.heap.size (.slice a0 n0 c0) R') := HU13.out.below hb14
  have HC14 : Hid (w14.cell? ⟨w3.heap.size, 0, none⟩ = some (.slice a0 n0 c0)) := by
    show w14.cell? _ = _
    rw [hb14.cell (p := ⟨w3.heap.size, 0, none⟩) (by show w3.heap.size < w13.heap.size; omega)]; exact HC13.out.2
  have j14 : Below W0.heap.size W0 w14 := j13.trans (hb14.mono j13.size)
  have hk2 : (0 : Int) ≤ 1 + (R'.length : Int) * 7 := by omega
  clear q0 q1
  obtain ⟨ca, hE14⟩ := HA.out w14 j14
  have HE14 : Hid (InNds w14 u es) := hE14
  clear hE14
  go_wp2_with fail
  refine (toFilter_any u es _ HE14.out hn).mono ?_
  rintro e w15 ⟨gz, rfl, hO15, hb15⟩
  have s15 := hb15.size
  have HZ15 : Hid (OwnNd w15 w14.heap.size gz es.length es) := hO15
  clear hO15 ca
  go_wp2_with fail
  refine (implNormal_core HZ15.out HE.out.2).mono ?_
  rintro e w16 ⟨a2, n2, c2, R2, rfl, hU16, hR16, hb16⟩
  have s16 := hb16.size
  have hRR : R2 = R' := nrmOf_one hR16 HU3.out.2
  subst hRR
  have k1416 : Below w14.heap.size w14 w16 := hb15.trans (hb16.mono (by omega))
  obtain ⟨W17, hW17⟩ : ∃ W17 : World, W17 = w16.alloc (Obj.cells #[.slice a2 n2 c2] 28) := ⟨_, rfl⟩
  have hb17 : Below w16.heap.size w16 W17 := by rw [hW17]; exact (Below.refl _ _).alloc (Nat.le_refl _) _
  have k1417 : Below w14.heap.size w14 W17 := k1416.trans (hb17.mono (by omega))
  have HU17 : Hid (OwnUN W17 w2.heap.size (.slice a0 n0 c0) R2 ∧ OwnUN W17 w15.heap.size (.slice a2 n2 c2) R2) := ⟨HU14.out.below k1417, hU16.below hb17⟩
  have HC17 : Hid (W17.cell? ⟨w16.heap.size, 0, none⟩ = some (.slice a2 n2 c2) ∧ W17.cell? ⟨w3.heap.size, 0, none⟩ = some (.slice a0 n0 c0)) := by
    refine ⟨by rw [hW17]; simp, ?_⟩
    rw [k1417.cell (p := ⟨w3.heap.size, 0, none⟩) (by show w3.heap.size < w14.heap.size; omega)]; exact HC14.out
  have j17 : Below W0.heap.size W0 W17 := j14.trans (k1417.mono j14.size)
  clear hU16 hR16
  go_upto_region 25 with fail
  rw [← hW17]
  clear hW17
  obtain ⟨q1, q0⟩ := HC17.out
  go_wp2_with fail
  refine (eqFilter_any _ _ R2 _ HU17.out.2.ins HU17.out.1.ins).mono ?_
  rintro e w18 ⟨rfl, hb18⟩
  have k18 : Below w.heap.size w w18 := hb0.trans ((j17.trans (hb18.mono j17.size)).mono (by omega))
  go_wp2_with fail
  go_ret
  exact ⟨rfl, k18⟩

set_option maxRecDepth 100000 in
theorem lifted (os : Os) (started : os.Started) (H : Type) (enc : TypeId × Value → H) :
    ReturnsInHanded {} Try.checked os 3 .any (Rows.fnExactNormalSpec.pre6 enc Try.prog Try.f3 Rows.fnExactNormalRow.domain false) (Rows.fnExactNormalSpec.post enc Try.prog Try.f3 false true false false) := by
  refine returnsInHanded_of_change (C := Try.checked) own started (by kernel_rfl) Try.func3
    (ChangeSpec.witness6 (enc := enc) (C := Try.checked) false ⟨#[], #[.agg #[.slice none 0 0]], []⟩ 8 (by kernel_rfl) (by kernel_rfl) (by kernel_rfl) (by kernel_rfl)) ?_
  intro W base args ds gs before hval0 hW hcnd _
  have hval : ∀ (j : Nat) t v, Try.f3.params[j]? = some t → args[j]? = some v → Value.okWide Try.prog W .any base t v := hval0
  have hW' := hW
  obtain ⟨p, q, hA0, hV, rfl, hfz, hnd⟩ := hW
  have hA : DataW.TrodAll enc Try.prog W 0 (fun _ => true) true Try.f3.params.toList args.toList ds p := hA0
  rw [Try.params3] at hA hval
  obtain ⟨v0, vs0, d0, ds0, p0, q0, hargs, rfl, rfl, h0, r0⟩ := trodAll_cons hA
  obtain ⟨rfl, rfl, rfl⟩ := trodAll_nil r0
  obtain rfl : args = #[v0] := by cases args; simp_all
  obtain ⟨rfl, rfl⟩ := trodVars_none hV
  have k0 := h0
  have lt0 : ∀ x ∈ p0, x.block < W.heap.size := by obtain ⟨m, hm⟩ := k0; exact DataW.trod_lt m _ _ _ hm
  obtain ⟨u, es, rfl, hin, ok0⟩ := open_filter (hval 0 24 v0 rfl rfl) h0
  clear hA0 hval0
  refine (walk u es W hin ok0).mono fun e W' ⟨he, bel⟩ => ?_
  subst he
  exact ⟨_, rfl, _, _, _, [], _, [], hW', trodAll_mk1 (shut_bool Try.underlying4 _), (trodAll_cons_mk (Below.trod laidOut (by kernel_rfl) (of_decide_eq_true (by kernel_rfl)) k0 bel lt0) trodAll_mk0), rfl, bel.frame _, fun h => by cases h⟩

theorem over : Rows.fnExactNormalRow.holds Try.pinned (OpenSpec.ofChange Rows.fnExactNormalSpec) :=
  OpenClaim.holds_of_wide 3 Try.f3 rfl rfl rfl rfl rfl rfl rfl ⟨rfl, rfl, rfl, rfl, rfl⟩ rfl rfl rfl rfl rfl (by kernel_rfl) Try.func3 (by kernel_rfl)
    (of_decide_eq_true (by kernel_rfl)) (by unfold Func.isWrapper; first | (rw [if_pos (by decide +kernel)]; kernel_rfl) | (rw [if_neg (by decide +kernel)]; exact ⟨rfl, rfl⟩))
    (fun os started H enc _ => lifted os started H enc)

end Go.Proofs.Ytiaokgoppjindaa.exNormal
namespace Go.Proofs.Ytiaokgoppjindaa
theorem exactNormal_holds : Rows.FnExactNormalSaid := exNormal.over
#print axioms exactNormal_holds
end Go.Proofs.Ytiaokgoppjindaa
