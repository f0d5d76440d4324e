/-
  The law FnExactEncodeRun.
-/
import Derived.Test.YtlgeffinhbodeacQLwE
import Derived.Test.YtlgeffinhbodeacQEncJ
import Derived.Test.YtlgeffinhbodeacQOpenS
namespace Go.Proofs.Ytlgeffinhbodeac.exEncodeRun
open Go.ChangeShapes Go.WideShapes Go.ChangeAt Go.RowKit Go.Deep
set_option linter.unusedVariables false
set_option maxRecDepth 100000

theorem own : ownKnob Try.prog.godebug = none := by kernel_rfl
theorem laidOut : laidOutB Try.prog = true := by kernel_rfl

theorem toRun_in (W0 : World) (u : Value) (es : List Ent) (w : World) (hb : Below W0.heap.size W0 w) (h : Hid (InEnts W0 u es)) (h1 : es.length ≤ 1048576) :
    Calls Try.prog 23 #[.agg #[u]] w fun e w' =>
      ∃ g, e = .returned (.agg #[.slice (some ⟨g, 0, none⟩) es.length es.length]) ∧ Hid (InEnts w' (.slice (some ⟨g, 0, none⟩) es.length es.length) es) ∧ Below W0.heap.size W0 w' ∧ (∀ b o, b < W0.heap.size → w'.cell? ⟨b, o, none⟩ = W0.cell? ⟨b, o, none⟩) := by
  refine (toRun_any u es w (h.out.below hb (Nat.le_refl _)) h1).mono ?_
  rintro e w' ⟨g, he, hO, hb'⟩
  have k := hb.trans (hb'.mono hb.size)
  exact ⟨g, he, InEnts.own hO (Nat.le_refl _) (Nat.le_trans h1 (by decide)), k, fun b o hlt => k.cell (p := ⟨b, o, none⟩) hlt⟩
theorem eqRun_in (W0 : World) (u u' : Value) (es : List Ent) (w : World) (hb : Below W0.heap.size W0 w) (h : Hid (InEnts W0 u es)) (h' : Hid (InEnts w u' es)) :
    Calls Try.prog 26 #[.agg #[u], .agg #[u']] w fun e w' => e = .returned (.bool true) ∧ Below W0.heap.size W0 w' := by
  refine (eqRun_any u u' es w (h.out.below hb (Nat.le_refl _)) h'.out).mono ?_
  rintro e w' ⟨he, hb'⟩
  exact ⟨he, hb.trans (hb'.mono hb.size)⟩

set_option maxHeartbeats 4000000 in
theorem walk (u : Value) (es : List Ent) (per : Int) (w : World) (h : InEnts w u es) (hok : ∀ e ∈ es, e.ok) :
    Calls Try.prog 5 #[.agg #[u], .int .i64 per] w fun e w' => e = .returned (.bool true) ∧ Below w.heap.size w w' := by
  have HE : Hid (InEnts w u es ∧ ∀ e ∈ es, e.ok) := ⟨h, hok⟩
  have hu : u.cells = #[u] := by
    rcases h with ⟨a, cap, rfl, _⟩ | ⟨b, off, cap, rfl, _⟩ <;> rfl
  clear h hok
  obtain ⟨W0, hW0⟩ : ∃ W0 : World, W0 = w.alloc (Obj.cells #[u] 45) := ⟨_, rfl⟩
  have hb0 : Below w.heap.size w W0 := by rw [hW0]; exact (Below.refl _ _).alloc (Nat.le_refl _) _
  have hz0 : w.heap.size < W0.heap.size := by rw [hW0]; simp
  have ca : W0.cell? ⟨w.heap.size, 0, none⟩ = some u := by rw [hW0]; simp
  have HE0 : Hid (InEnts W0 u es) := HE.out.1.below hb0 (Nat.le_refl _)
  go_enter Try.func5, Try.ntmps5
  go_wp2_with fail
  rw [← hW0]
  clear hW0
  refine (szRun_any u es _ _ HE0.out HE.out.2 (by omega) (by omega)).mono ?_
  rintro e w1 ⟨x, rfl, hx, hb1⟩
  have ca1 : w1.cell? ⟨w.heap.size, 0, none⟩ = some u := by rw [hb1.cell (p := ⟨w.heap.size, 0, none⟩) hz0]; exact ca
  have hs1 := hb1.size
  by_cases hx0 : x < 0
  · clear hx
    go_wp2_with fail
    go_ret
    exact ⟨rfl, hb0.trans (hb1.mono (by omega))⟩
  have hn : es.length ≤ 1048576 := by omega
  clear hx
  have HE1 : Hid (InEnts w1 u es) := HE0.out.below hb1 (Nat.le_refl _)
  go_wp2_with fail
  refine (toRun_any u es _ HE1.out hn).mono ?_
  rintro e w2 ⟨g, rfl, hO, hb2⟩
  have hs2 := hb2.size
  have HO : Hid (OwnE w2 w1.heap.size g es.length es) := hO
  clear hO
  have ca2 : w2.cell? ⟨w.heap.size, 0, none⟩ = some u := by rw [hb2.cell (p := ⟨w.heap.size, 0, none⟩) (by show w.heap.size < _; omega)]; exact ca1
  have HM : Hid (es.length ≤ maxLen) := Nat.le_trans hn (by decide)
  go_wp2_with fail
  refine (specEnc_core g 0 es.length es per _ HO.out.at HE.out.2 HO.out.lt.2 (Nat.le_refl _) HM.out).mono ?_
  rintro e w3 ⟨gs, cs, xs, rfl, hS3, hEn, hb3⟩
  have hxl := encOf_len hEn HE.out.2
  have HX : Hid (EncOf es per xs) := hEn
  have HS3 : Hid (OwnY w3 w2.heap.size gs cs xs) := hS3
  have ls := hS3.lt
  clear hS3 hEn
  have hs3 := hb3.size
  have ca3 : w3.cell? ⟨w.heap.size, 0, none⟩ = some u := by rw [hb3.cell (p := ⟨w.heap.size, 0, none⟩) (by show w.heap.size < _; omega)]; exact ca2
  have HE3 : Hid (InEnts w3 u es) := (HE1.out.below hb2 (Nat.le_refl _)).below hb3 (Nat.le_refl _)
  clear ca ca1 ca2
  go_wp2_with fail
  refine (toRun_any u es _ HE3.out hn).mono ?_
  rintro e w4 ⟨g2, rfl, hO4, hb4⟩
  have hs4 := hb4.size
  have ca4 : w4.cell? ⟨w.heap.size, 0, none⟩ = some u := by rw [hb4.cell (p := ⟨w.heap.size, 0, none⟩) (by show w.heap.size < _; omega)]; exact ca3
  obtain ⟨W5, hW5⟩ : ∃ W5 : World, W5 = w4.alloc (Obj.cells #[.slice (some ⟨g2, 0, none⟩) es.length es.length] 50) := ⟨_, rfl⟩
  have hb5 : Below w4.heap.size w4 W5 := by rw [hW5]; exact (Below.refl _ _).alloc (Nat.le_refl _) _
  have hz5 : w4.heap.size < W5.heap.size := by rw [hW5]; simp
  have cx5 : W5.cell? ⟨w4.heap.size, 0, none⟩ = some (.slice (some ⟨g2, 0, none⟩) es.length es.length) := by rw [hW5]; simp
  have ca5 : W5.cell? ⟨w.heap.size, 0, none⟩ = some u := by rw [hb5.cell (p := ⟨w.heap.size, 0, none⟩) (by show w.heap.size < _; omega)]; exact ca4
  have l2 := hO4.lt
  have HO5 : Hid (OwnE W5 w3.heap.size g2 es.length es) := hO4.below hb5 hO4.lt.2
  have HE5 : Hid (InEnts W5 u es) := (HE3.out.below hb4 (Nat.le_refl _)).below hb5 (Nat.le_refl _)
  have HS5 : Hid (OwnY W5 w2.heap.size gs cs xs) := (HS3.out.below hb4).below hb5
  clear hO4 ca3 ca4
  go_wp2_with fail
  rw [← hW5]
  clear hW5
  refine (implEnc_core g2 0 es.length es per _ HO5.out.at HE.out.2 HO5.out.lt.2 (Nat.le_refl _) HM.out).mono ?_
  rintro e w6 ⟨gi, ci, xs', rfl, hI6, hEn', hb6⟩
  have hs6 := hb6.size
  obtain rfl : xs' = xs := encOf_uniq hEn' HX.out
  have li := hI6.lt
  have HMx : Hid (xs'.length ≤ maxLen) := Nat.le_trans hxl (by decide)
  have HI6 : Hid (OwnY w6 W5.heap.size gi ci xs' ∧ OwnY w6 w2.heap.size gs cs xs') := ⟨hI6, HS5.out.below hb6⟩
  clear hEn' hI6
  have cx6 : w6.cell? ⟨w4.heap.size, 0, none⟩ = some (.slice (some ⟨g2, 0, none⟩) es.length es.length) := by rw [hb6.cell (p := ⟨w4.heap.size, 0, none⟩) hz5]; exact cx5
  have ca6 : w6.cell? ⟨w.heap.size, 0, none⟩ = some u := by rw [hb6.cell (p := ⟨w.heap.size, 0, none⟩) (by show w.heap.size < _; omega)]; exact ca5
  have HO6 : Hid (OwnE w6 w3.heap.size g2 es.length es) := HO5.out.below hb6 HO5.out.lt.2
  have HE6 : Hid (InEnts w6 u es) := HE5.out.below hb6 (Nat.le_refl _)
  have k6 : Below w.heap.size w w6 := ((((((hb0.trans (hb1.mono (by omega))).trans (hb2.mono (by omega))).trans (hb3.mono (by omega))).trans (hb4.mono (by omega))).trans (hb5.mono (by omega))).trans (hb6.mono (by omega)))
  clear cx5 ca5
  go_wp2_with fail
  refine (eqByteS_same gi 0 ci gs 0 cs xs' _ HI6.out.1.at HI6.out.2.at HI6.out.1.lt.2 HI6.out.2.lt.2 HMx.out).mono ?_
  rintro e w7 ⟨rfl, hb7⟩
  have hs7 := hb7.size
  have cx7 : w7.cell? ⟨w4.heap.size, 0, none⟩ = some (.slice (some ⟨g2, 0, none⟩) es.length es.length) := by rw [hb7.cell (p := ⟨w4.heap.size, 0, none⟩) (by show w4.heap.size < _; omega)]; exact cx6
  have ca7 : w7.cell? ⟨w.heap.size, 0, none⟩ = some u := by rw [hb7.cell (p := ⟨w.heap.size, 0, none⟩) (by show w.heap.size < _; omega)]; exact ca6
  have HO7 : Hid (OwnE w7 w3.heap.size g2 es.length es ∧ OwnY w7 W5.heap.size gi ci xs' ∧ OwnY w7 w2.heap.size gs cs xs') := ⟨HO6.out.below hb7 HO6.out.lt.2, HI6.out.1.below hb7, HI6.out.2.below hb7⟩
  have HE7 : Hid (InEnts w7 u es) := HE6.out.below hb7 (Nat.le_refl _)
  have k7 : Below w.heap.size w w7 := k6.trans (hb7.mono (by omega))
  clear cx6 ca6 HO6 HI6 HE6
  go_upto_region 10 with fail
  go_cut [35] (fun s wx => s = .bool false ∧ Below w7.heap.size w7 wx)
  case first =>
    have hz6 : w4.heap.size < w7.heap.size := by omega
    have hza : w.heap.size < w7.heap.size := by omega
    have HX6 : Hid (InEnts w7 (.slice (some ⟨g2, 0, none⟩) es.length es.length) es) := InEnts.own HO7.out.1 (Nat.le_refl _) HM.out
    go_region_with (first
      | (go_at_call 23; refine (toRun_in w7 u es _ ?hB HE7 hn).mono ?_; (case hB => (repeat (first | assumption | exact Below.refl _ _ | refine Below.drew ?_))); rintro e w' ⟨g3, rfl, HG, hbb, hcc⟩)
      | (go_at_call 26; refine (eqRun_in w7 _ _ es _ ?hB HX6 ?hC).mono ?_; (case hB => (repeat (first | assumption | exact Below.refl _ _ | refine Below.drew ?_))); (case hC => assumption); rintro e w' ⟨rfl, hbb2⟩))
    all_goals go_wp2_with fail
    all_goals go_meet
    all_goals exact ⟨rfl, by assumption⟩
  case rest =>
  obtain ⟨rfl, h8⟩ := hcut
  have hs8 := h8.size
  have cx8 : wc.cell? ⟨w4.heap.size, 0, none⟩ = some (.slice (some ⟨g2, 0, none⟩) es.length es.length) := by rw [h8.cell (p := ⟨w4.heap.size, 0, none⟩) (by show w4.heap.size < _; omega)]; exact cx7
  have HO8 : Hid (OwnE wc w3.heap.size g2 es.length es ∧ OwnY wc W5.heap.size gi ci xs' ∧ OwnY wc w2.heap.size gs cs xs') := ⟨HO7.out.1.below h8 HO7.out.1.lt.2, HO7.out.2.1.below h8, HO7.out.2.2.below h8⟩
  have k8 : Below w.heap.size w wc := k7.trans (h8.mono (by omega))
  have HU8 : Hid (OwnU wc w3.heap.size (.slice (some ⟨g2, 0, none⟩) es.length es.length) es) := .inr ⟨g2, es.length, rfl, HO8.out.1⟩
  have HC8 : Hid (wc.cell? ⟨w.heap.size, 0, none⟩ = some u) := by show wc.cell? _ = _; rw [h8.cell (p := ⟨w.heap.size, 0, none⟩) (by show w.heap.size < _; omega)]; exact ca7
  clear cx7 ca7 HO7
  go_wp2_with fail
  refine (markRun_own w3.heap.size (.slice (some ⟨g2, 0, none⟩) es.length es.length) es 1 _ HU8.out (by omega) (by omega) hn (by omega)).mono ?_
  rintro e w9 ⟨R', rfl, _, _, _, hg9⟩
  have hs9 := hg9.size
  have c9 : Chg (fun k => k = g2) wc w9 := Chg.of_grown hg9 (fun k hk => by cases hk; rfl)
  have HO9 : Hid (OwnY w9 W5.heap.size gi ci xs' ∧ OwnY w9 w2.heap.size gs cs xs') := ⟨HO8.out.2.1.chg c9 (by show ¬ gi = g2; omega), HO8.out.2.2.chg c9 (by show ¬ gs = g2; omega)⟩
  have k9 : Below w.heap.size w w9 := k8.grown hg9 (by omega) (fun j hj => by cases hj; show w.heap.size ≤ g2; omega)
  have hk1 : ¬ (1 + (es.length : Int) * 6) < 0 := by omega
  have HC9 : Hid (w9.cell? ⟨w.heap.size, 0, none⟩ = some u) := hg9.cell HC8.out (fun q => by have q' : w.heap.size = g2 := Option.some.inj q; omega)
  clear cx8 hg9 c9 HO8 HU8
  go_wp2_with fail
  refine (eqByteS_same gi 0 ci gs 0 cs xs' _ HO9.out.1.at HO9.out.2.at HO9.out.1.lt.2 HO9.out.2.lt.2 HMx.out).mono ?_
  rintro e w10 ⟨rfl, hb10⟩
  have hs10 := hb10.size
  have HO10 : Hid (OwnY w10 W5.heap.size gi ci xs' ∧ OwnY w10 w2.heap.size gs cs xs') := ⟨HO9.out.1.below hb10, HO9.out.2.below hb10⟩
  have k10 : Below w.heap.size w w10 := k9.trans (hb10.mono (by omega))
  have HC10 : Hid (w10.cell? ⟨w.heap.size, 0, none⟩ = some u) := by show w10.cell? _ = _; rw [hb10.cell (p := ⟨w.heap.size, 0, none⟩) (by show w.heap.size < _; omega)]; exact HC9.out
  clear HO9
  go_wp2_with fail
  refine (markByteS_all W5.heap.size gi ci xs' w10 HO10.out.1 hxl).mono ?_
  rintro e w11 ⟨rfl, hg11, ys, hyl, hY, hMk⟩
  have hs11 := hg11.size
  have c11 : Chg (fun k => k = gi) w10 w11 := Chg.of_grown hg11 (fun k hk => by cases hk; rfl)
  have HO11 : Hid ((OwnY w11 W5.heap.size gi ci ys ∧ MarkY ys ys.length ∧ ys.length = xs'.length) ∧ OwnY w11 w2.heap.size gs cs xs') := ⟨⟨hY, hMk, hyl⟩, HO10.out.2.chg c11 (by show ¬ gs = gi; omega)⟩
  have k11 : Below w.heap.size w w11 := k10.grown hg11 (by omega) (fun j hj => by cases hj; omega)
  have HC11 : Hid (w11.cell? ⟨w.heap.size, 0, none⟩ = some u) := hg11.cell HC10.out (fun q => by have q' : w.heap.size = gi := Option.some.inj q; omega)
  clear hY hMk hyl hg11 c11 HO10
  go_wp2_with fail
  refine (heldByteS_own W5.heap.size gi ci xs'.length ys w11 HO11.out.1.1 HO11.out.1.2.1 HO11.out.1.2.2 hxl).mono ?_
  rintro e w12 ⟨rfl, hb12⟩
  have hs12 := hb12.size
  have HO12 : Hid (OwnY w12 w2.heap.size gs cs xs') := HO11.out.2.below hb12
  have k12 : Below w.heap.size w w12 := k11.trans (hb12.mono (by omega))
  have ca12 : w12.cell? ⟨w.heap.size, 0, none⟩ = some u := by rw [hb12.cell (p := ⟨w.heap.size, 0, none⟩) (by show w.heap.size < _; omega)]; exact HC11.out
  have HE12 : Hid (InEnts w12 u es) := HE.out.1.below k12 (Nat.le_refl _)
  have hk2 : ¬ (1 + (xs'.length : Int)) < 0 := by omega
  clear HO11
  go_wp2_with fail
  refine (toRun_any u es _ HE12.out hn).mono ?_
  rintro e w13 ⟨g13, rfl, hO13, hb13⟩
  have hs13 := hb13.size
  have HO13 : Hid (OwnE w13 w12.heap.size g13 es.length es ∧ OwnY w13 w2.heap.size gs cs xs') := ⟨hO13, HO12.out.below hb13⟩
  have k13 : Below w.heap.size w w13 := k12.trans (hb13.mono (by omega))
  clear hO13 HO12
  go_wp2_with fail
  refine (implEnc_core g13 0 es.length es per _ HO13.out.1.at HE.out.2 HO13.out.1.lt.2 (Nat.le_refl _) HM.out).mono ?_
  rintro e w14 ⟨gj, cj, zs, rfl, hI14, hEn14, hb14⟩
  have hs14 := hb14.size
  obtain rfl : zs = xs' := encOf_uniq hEn14 HX.out
  have HO14 : Hid (OwnY w14 w13.heap.size gj cj zs ∧ OwnY w14 w2.heap.size gs cs zs) := ⟨hI14, HO13.out.2.below hb14⟩
  have k14 : Below w.heap.size w w14 := k13.trans (hb14.mono (by omega))
  clear hI14 hEn14 HO13
  go_wp2_with fail
  refine (eqByteS_same gj 0 cj gs 0 cs zs _ HO14.out.1.at HO14.out.2.at HO14.out.1.lt.2 HO14.out.2.lt.2 HMx.out).mono ?_
  rintro e w15 ⟨rfl, hb15⟩
  go_wp2_with fail
  go_ret
  exact ⟨rfl, k14.trans (hb15.mono (by omega))⟩

theorem lifted (os : Os) (started : os.Started) (H : Type) (enc : TypeId × Value → H) :
    ReturnsInHanded {} Try.checked os 5 .any (Rows.fnExactEncodeRunSpec.pre6 enc Try.prog Try.f5 Rows.fnExactEncodeRunRow.domain false) (Rows.fnExactEncodeRunSpec.post enc Try.prog Try.f5 false true false false) := by
  refine returnsInHanded_of_change (C := Try.checked) own started (by kernel_rfl) Try.func5
    (ChangeSpec.witness6 (enc := enc) (C := Try.checked) false ⟨#[], #[.agg #[.slice none 0 0], .int .i64 0], []⟩ 8 (by kernel_rfl) (by kernel_rfl) (by kernel_rfl) (by kernel_rfl)) ?_
  intro W base args ds gs before hval0 hW hcnd _
  have hval : ∀ (j : Nat) t v, Try.f5.params[j]? = some t → args[j]? = some v → Value.okWide Try.prog W .any base t v := hval0
  have hW' := hW
  obtain ⟨p, q, hA0, hV, rfl, hfz, hnd⟩ := hW
  have hA : DataW.TrodAll enc Try.prog W 0 (fun _ => true) true Try.f5.params.toList args.toList ds p := hA0
  rw [Try.params5] at hA hval
  obtain ⟨v0, vs0, d0, ds0, p0, q0, hargs, rfl, rfl, h0, r0⟩ := trodAll_cons hA
  obtain ⟨v1, vs1, d1, ds1, p1, q1, hvs, rfl, rfl, h1, r1⟩ := trodAll_cons r0
  obtain ⟨rfl, rfl, rfl⟩ := trodAll_nil r1
  obtain rfl : args = #[v0, v1] := by cases args; simp_all
  obtain ⟨rfl, rfl⟩ := trodVars_none hV
  have k0 := h0
  have k1 := h1
  have lt0 : ∀ x ∈ p0, x.block < W.heap.size := by obtain ⟨m, hm⟩ := k0; exact DataW.trod_lt m _ _ _ hm
  have lt1 : ∀ x ∈ p1, x.block < W.heap.size := by obtain ⟨m, hm⟩ := k1; exact DataW.trod_lt m _ _ _ hm
  obtain ⟨u, es, rfl, hin, ok0⟩ := open_run (hval 0 45 v0 rfl rfl) h0
  obtain ⟨per, rfl⟩ := okWide_int Try.underlying2 (hval 1 2 v1 rfl rfl)
  clear hA0 hval0
  refine (walk u es per W hin ok0).mono fun e W' ⟨he, bel⟩ => ?_
  subst he
  exact ⟨_, rfl, _, _, _, [], _, [], hW', trodAll_mk1 (shut_bool Try.underlying4 _), (trodAll_cons_mk (Below.trod laidOut (by kernel_rfl) (of_decide_eq_true (by kernel_rfl)) k0 bel lt0) (trodAll_cons_mk (Below.trod laidOut (by kernel_rfl) (of_decide_eq_true (by kernel_rfl)) k1 bel lt1) trodAll_mk0)), rfl, bel.frame _, fun h => by cases h⟩

theorem over : Rows.fnExactEncodeRunRow.holds Try.pinned (OpenSpec.ofChange Rows.fnExactEncodeRunSpec) :=
  OpenClaim.holds_of_wide 5 Try.f5 rfl rfl rfl rfl rfl rfl rfl ⟨rfl, rfl, rfl, rfl, rfl⟩ rfl rfl rfl rfl rfl (by kernel_rfl) Try.func5 (by kernel_rfl)
    (of_decide_eq_true (by kernel_rfl)) (by unfold Func.isWrapper; first | (rw [if_pos (by decide +kernel)]; kernel_rfl) | (rw [if_neg (by decide +kernel)]; exact ⟨rfl, rfl⟩))
    (fun os started H enc _ => lifted os started H enc)

end Go.Proofs.Ytlgeffinhbodeac.exEncodeRun
namespace Go.Proofs.Ytlgeffinhbodeac
theorem exactEncodeRun_holds : Rows.FnExactEncodeRunSaid := exEncodeRun.over
#print axioms exactEncodeRun_holds
end Go.Proofs.Ytlgeffinhbodeac
