/-
  The law FnExactValidRun.
-/
import Derived.Test.YtnncedndlhfdkabPkAA
namespace Go.Proofs.Ytnncedndlhfdkab.exValidRun
open Go.ChangeShapes Go.WideShapes Go.ChangeAt Go.RowKit Go.Deep
set_option linter.unusedVariables false

theorem own : ownKnob Try.prog.godebug = none := by kernel_rfl
theorem laidOut : laidOutB Try.prog = true := by kernel_rfl

theorem bool_of_iff {a b : Bool} {p : Prop} (h : a = true ↔ p) (k : b = true ↔ p) : a = b := by
  rw [Bool.eq_iff_iff, h, k]

theorem toRun_in (W0 : World) (u : Value) (es : List Ent) (w : World) (hb : Below W0.heap.size W0 w) (h : Hid (InEnts W0 u es)) (h1 : es.length ≤ 1048576) :
    Calls Try.prog 10 #[.agg #[u]] w fun e w' =>
      ∃ g, e = .returned (.agg #[.slice (some ⟨g, 0, none⟩) es.length es.length]) ∧ Hid (InEnts w' (.slice (some ⟨g, 0, none⟩) es.length es.length) es) ∧ Below W0.heap.size W0 w' ∧ (∀ b o, b < W0.heap.size → w'.cell? ⟨b, o, none⟩ = W0.cell? ⟨b, o, none⟩) := by
  refine (toRun_any u es w (h.out.below hb (Nat.le_refl _)) h1).mono ?_
  rintro e w' ⟨g, he, hO, hb'⟩
  have k := hb.trans (hb'.mono hb.size)
  exact ⟨g, he, InEnts.own hO (Nat.le_refl _) (Nat.le_trans h1 (by decide)), k, fun b o hlt => k.cell (p := ⟨b, o, none⟩) hlt⟩
theorem eqRun_in (W0 : World) (u u' : Value) (es : List Ent) (w : World) (hb : Below W0.heap.size W0 w) (h : Hid (InEnts W0 u es)) (h' : Hid (InEnts w u' es)) :
    Calls Try.prog 12 #[.agg #[u], .agg #[u']] w fun e w' => e = .returned (.bool true) ∧ Below W0.heap.size W0 w' := by
  refine (eqRun_any u u' es w (h.out.below hb (Nat.le_refl _)) h'.out).mono ?_
  rintro e w' ⟨he, hb'⟩
  exact ⟨he, hb.trans (hb'.mono hb.size)⟩

set_option maxHeartbeats 1000000 in
theorem walk (u : Value) (es : List Ent) (w : World) (h : InEnts w u es) (hok : ∀ e ∈ es, e.ok) :
    Calls Try.prog 3 #[.agg #[u]] w fun e w' => e = .returned (.bool true) ∧ Below w.heap.size w w' := by
  have HE : Hid (InEnts w u es ∧ ∀ e ∈ es, e.ok) := ⟨h, hok⟩
  have hu : u.cells = #[u] := by
    rcases h with ⟨a, cap, rfl, _⟩ | ⟨b, off, cap, rfl, _⟩ <;> rfl
  clear h hok
  obtain ⟨W0, hW0⟩ : ∃ W0 : World, W0 = w.alloc (Obj.cells #[u] 24) := ⟨_, rfl⟩
  have hb0 : Below w.heap.size w W0 := by rw [hW0]; exact (Below.refl _ _).alloc (Nat.le_refl _) _
  have hz0 : w.heap.size < W0.heap.size := by rw [hW0]; simp
  have ca : W0.cell? ⟨w.heap.size, 0, none⟩ = some u := by rw [hW0]; simp
  have HE0 : Hid (InEnts W0 u es) := HE.out.1.below hb0 (Nat.le_refl _)
  go_enter Try.func3, Try.ntmps3
  go_wp2_with fail
  rw [← hW0]
  clear hW0
  refine (szRun_any u es _ _ HE0.out HE.out.2 (by omega) (by omega)).mono ?_
  rintro e w1 ⟨x, rfl, hx, hb1⟩
  have ca1 : w1.cell? ⟨w.heap.size, 0, none⟩ = some u := by rw [hb1.cell (p := ⟨w.heap.size, 0, none⟩) hz0]; exact ca
  have hs1 := hb1.size
  by_cases hx0 : x < 0
  · clear hx
    go_wp2_with fail
    go_ret
    exact ⟨rfl, hb0.trans (hb1.mono (by omega))⟩
  have hn : es.length ≤ 1048576 := by omega
  clear hx
  have HE1 : Hid (InEnts w1 u es) := HE0.out.below hb1 (Nat.le_refl _)
  go_wp2_with fail
  refine (toRun_any u es _ HE1.out hn).mono ?_
  rintro e w2 ⟨g, rfl, hO, hb2⟩
  have hs2 := hb2.size
  have HO : Hid (OwnE w2 w1.heap.size g es.length es) := hO
  clear hO
  have ca2 : w2.cell? ⟨w.heap.size, 0, none⟩ = some u := by rw [hb2.cell (p := ⟨w.heap.size, 0, none⟩) (by show w.heap.size < _; omega)]; exact ca1
  have HM : Hid (es.length ≤ maxLen) := Nat.le_trans hn (by decide)
  go_wp2_with fail
  refine (specValidRun_core g 0 es.length es _ HO.out.at HE.out.2 HO.out.lt.2 (Nat.le_refl _) HM.out).mono ?_
  rintro e w3 ⟨r1, rfl, hr1, hb3⟩
  have HR1 : Hid (r1 = true ↔ GoodR es) := hr1
  clear hr1
  have hs3 := hb3.size
  have ca3 : w3.cell? ⟨w.heap.size, 0, none⟩ = some u := by rw [hb3.cell (p := ⟨w.heap.size, 0, none⟩) (by show w.heap.size < _; omega)]; exact ca2
  have HE3 : Hid (InEnts w3 u es) := (HE1.out.below hb2 (Nat.le_refl _)).below hb3 (Nat.le_refl _)
  clear ca ca1 ca2
  go_wp2_with fail
  refine (toRun_any u es _ HE3.out hn).mono ?_
  rintro e w4 ⟨g2, rfl, hO4, hb4⟩
  have hs4 := hb4.size
  have ca4 : w4.cell? ⟨w.heap.size, 0, none⟩ = some u := by rw [hb4.cell (p := ⟨w.heap.size, 0, none⟩) (by show w.heap.size < _; omega)]; exact ca3
  obtain ⟨W5, hW5⟩ : ∃ W5 : World, W5 = w4.alloc (Obj.cells #[.slice (some ⟨g2, 0, none⟩) es.length es.length] 29) := ⟨_, rfl⟩
  have hb5 : Below w4.heap.size w4 W5 := by rw [hW5]; exact (Below.refl _ _).alloc (Nat.le_refl _) _
  have hz5 : w4.heap.size < W5.heap.size := by rw [hW5]; simp
  have cx5 : W5.cell? ⟨w4.heap.size, 0, none⟩ = some (.slice (some ⟨g2, 0, none⟩) es.length es.length) := by rw [hW5]; simp
  have ca5 : W5.cell? ⟨w.heap.size, 0, none⟩ = some u := by rw [hb5.cell (p := ⟨w.heap.size, 0, none⟩) (by show w.heap.size < _; omega)]; exact ca4
  have HO5 : Hid (OwnE W5 w3.heap.size g2 es.length es) := hO4.below hb5 hO4.lt.2
  have HE5 : Hid (InEnts W5 u es) := (HE3.out.below hb4 (Nat.le_refl _)).below hb5 (Nat.le_refl _)
  clear hO4 ca3 ca4
  go_wp2_with fail
  rw [← hW5]
  clear hW5
  refine (implValidRun_core g2 0 es.length es _ HO5.out.at HE.out.2 HO5.out.lt.2 (Nat.le_refl _) HM.out).mono ?_
  rintro e w6 ⟨r2, rfl, hr2, hb6⟩
  have hs6 := hb6.size
  obtain rfl : r2 = r1 := bool_of_iff hr2 HR1.out
  clear hr2
  have cx6 : w6.cell? ⟨w4.heap.size, 0, none⟩ = some (.slice (some ⟨g2, 0, none⟩) es.length es.length) := by rw [hb6.cell (p := ⟨w4.heap.size, 0, none⟩) hz5]; exact cx5
  have ca6 : w6.cell? ⟨w.heap.size, 0, none⟩ = some u := by rw [hb6.cell (p := ⟨w.heap.size, 0, none⟩) (by show w.heap.size < _; omega)]; exact ca5
  have HO6 : Hid (OwnE w6 w3.heap.size g2 es.length es) := HO5.out.below hb6 HO5.out.lt.2
  have HE6 : Hid (InEnts w6 u es) := HE5.out.below hb6 (Nat.le_refl _)
  have k6 : Below w.heap.size w w6 := ((((((hb0.trans (hb1.mono (by omega))).trans (hb2.mono (by omega))).trans (hb3.mono (by omega))).trans (hb4.mono (by omega))).trans (hb5.mono (by omega))).trans (hb6.mono (by omega)))
  clear cx5 ca5
  go_upto_region 10 with fail
  go_cut [26] (fun s wx => s = .bool false ∧ Below w6.heap.size w6 wx)
  case first =>
    have hz6 : w4.heap.size < w6.heap.size := by omega
    have hza : w.heap.size < w6.heap.size := by omega
    have HX6 : Hid (InEnts w6 (.slice (some ⟨g2, 0, none⟩) es.length es.length) es) := InEnts.own HO6.out (Nat.le_refl _) HM.out
    go_region_with (first
      | (go_at_call 10; refine (toRun_in w6 u es _ ?hB HE6 hn).mono ?_; (case hB => (repeat (first | assumption | exact Below.refl _ _ | refine Below.drew ?_))); rintro e w' ⟨g3, rfl, HG, hbb, hcc⟩)
      | (go_at_call 12; refine (eqRun_in w6 _ _ es _ ?hB HX6 ?hC).mono ?_; (case hB => (repeat (first | assumption | exact Below.refl _ _ | refine Below.drew ?_))); (case hC => assumption); rintro e w' ⟨rfl, hbb2⟩))
    all_goals go_wp2_with fail
    all_goals go_meet
    all_goals exact ⟨rfl, by assumption⟩
  case rest =>
  obtain ⟨rfl, h3⟩ := hcut
  go_wp2_with fail
  go_ret
  exact ⟨rfl, k6.trans (h3.mono (by omega))⟩

set_option maxRecDepth 100000 in
theorem lifted (os : Os) (started : os.Started) (H : Type) (enc : TypeId × Value → H) :
    ReturnsInHanded {} Try.checked os 3 .any (Rows.fnExactValidRunSpec.pre6 enc Try.prog Try.f3 Rows.fnExactValidRunRow.domain false) (Rows.fnExactValidRunSpec.post enc Try.prog Try.f3 false true false false) := by
  refine returnsInHanded_of_change (C := Try.checked) own started (by kernel_rfl) Try.func3
    (ChangeSpec.witness6 (enc := enc) (C := Try.checked) false ⟨#[], #[.agg #[.slice none 0 0]], []⟩ 8 (by kernel_rfl) (by kernel_rfl) (by kernel_rfl) (by kernel_rfl)) ?_
  intro W base args ds gs before hval0 hW hcnd _
  have hval : ∀ (j : Nat) t v, Try.f3.params[j]? = some t → args[j]? = some v → Value.okWide Try.prog W .any base t v := hval0
  have hW' := hW
  obtain ⟨p, q, hA0, hV, rfl, hfz, hnd⟩ := hW
  have hA : DataW.TrodAll enc Try.prog W 0 (fun _ => true) true Try.f3.params.toList args.toList ds p := hA0
  rw [Try.params3] at hA hval
  obtain ⟨v0, vs0, d0, ds0, p0, q0, hargs, rfl, rfl, h0, r0⟩ := trodAll_cons hA
  obtain ⟨rfl, rfl, rfl⟩ := trodAll_nil r0
  obtain rfl : args = #[v0] := by cases args; simp_all
  obtain ⟨rfl, rfl⟩ := trodVars_none hV
  have k0 := h0
  have lt0 : ∀ x ∈ p0, x.block < W.heap.size := by obtain ⟨m, hm⟩ := k0; exact DataW.trod_lt m _ _ _ hm
  obtain ⟨u, es, rfl, hin, ok0⟩ := open_run (hval 0 24 v0 rfl rfl) h0
  clear hA0 hval0
  refine (walk u es W hin ok0).mono fun e W' ⟨he, bel⟩ => ?_
  subst he
  exact ⟨_, rfl, _, _, _, [], _, [], hW', trodAll_mk1 (shut_bool Try.underlying4 _), (trodAll_cons_mk (Below.trod laidOut (by kernel_rfl) (of_decide_eq_true (by kernel_rfl)) k0 bel lt0) trodAll_mk0), rfl, bel.frame _, fun h => by cases h⟩

theorem over : Rows.fnExactValidRunRow.holds Try.pinned (OpenSpec.ofChange Rows.fnExactValidRunSpec) :=
  OpenClaim.holds_of_wide 3 Try.f3 rfl rfl rfl rfl rfl rfl rfl ⟨rfl, rfl, rfl, rfl, rfl⟩ rfl rfl rfl rfl rfl (by kernel_rfl) Try.func3 (by kernel_rfl)
    (of_decide_eq_true (by kernel_rfl)) (by unfold Func.isWrapper; first | (rw [if_pos (by decide +kernel)]; kernel_rfl) | (rw [if_neg (by decide +kernel)]; exact ⟨rfl, rfl⟩))
    (fun os started H enc _ => lifted os started H enc)

end Go.Proofs.Ytnncedndlhfdkab.exValidRun
namespace Go.Proofs.Ytnncedndlhfdkab
theorem exactValidRun_holds : Rows.FnExactValidRunSaid := exValidRun.over
#print axioms exactValidRun_holds
end Go.Proofs.Ytnncedndlhfdkab
