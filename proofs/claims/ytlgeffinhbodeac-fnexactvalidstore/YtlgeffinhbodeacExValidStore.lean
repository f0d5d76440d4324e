/-
  The law FnExactValidStore.
-/
import Derived.Test.YtlgeffinhbodeacVStS
import Derived.Test.YtlgeffinhbodeacTabs3
import Derived.Test.YtlgeffinhbodeacEqT
import Derived.Deep.DeepCutAuto
namespace Go.Proofs.Ytlgeffinhbodeac
open Go.ChangeShapes Go.WideShapes Go.ChangeAt Go.RowKit Go.Deep
set_option linter.unusedVariables false

def Tw.tn (t : Tw) : Tn := ⟨t.lo, .slice (some ⟨t.g, 0, none⟩) t.l.length t.l.length, rnsOf t.l⟩
theorem OwnTabs.ins {w : World} {base g : Nat} {ts : List Tw} (h : OwnTabs w base g ts) (hn : ts.length ≤ 1048576) : InTabs w (.slice (some ⟨g, 0, none⟩) ts.length ts.length) (ts.map Tw.tn) := by
  refine .inr ⟨g, 0, ts.length, by simp, fun i t ht => ?_, h.lt.2, by simp, by unfold maxLen; omega⟩
  rw [List.getElem?_map] at ht
  cases hp : ts[i]? with
  | none => rw [hp] at ht; cases ht
  | some p =>
    rw [hp] at ht
    simp at ht
    subst ht
    have hm := List.mem_of_getElem? hp
    obtain ⟨c0, c1⟩ := h.row.cells (p := p.pr) (i := i) (by rw [List.getElem?_map, hp]; rfl)
    rw [Nat.zero_add]
    have hs := h.short p hm
    exact ⟨c0, c1, inRuns_own (h.tabs p hm).row (h.tabs p hm).rows (by unfold maxLen; omega) (fun x hx => Nat.le_trans ((h.tabs p hm).short x hx) (by decide))⟩
theorem vwT_own (ts : List Tw) : vwT (ts.map Tw.tn) = (ts.map Tw.tb).map fun t => (t.lo, t.rs) := by
  unfold vwT
  rw [List.map_map, List.map_map]
  apply List.map_congr_left
  intro t ht
  simp [Tw.tn, Tw.tb, rnsOf, esOf, Function.comp_def]
theorem vwT_eq {l l' : List Tw} (h : l.map Tw.tb = l'.map Tw.tb) : vwT (l.map Tw.tn) = vwT (l'.map Tw.tn) := by rw [vwT_own, vwT_own, h]
end Go.Proofs.Ytlgeffinhbodeac
namespace Go.Proofs.Ytlgeffinhbodeac.exValidStore
open Go.ChangeShapes Go.WideShapes Go.ChangeAt Go.RowKit Go.Deep
set_option linter.unusedVariables false
set_option maxRecDepth 100000

theorem own : ownKnob Try.prog.godebug = none := by kernel_rfl
theorem laidOut : laidOutB Try.prog = true := by kernel_rfl
theorem bool_of_iff {a b : Bool} {p : Prop} (h : a = true ↔ p) (k : b = true ↔ p) : a = b := by
  rw [Bool.eq_iff_iff, h, k]
theorem toStore_in (W0 : World) (u : Value) (ts : List Tn) (w : World) (hb : Below W0.heap.size W0 w) (h : Hid (InTabs W0 u ts)) (h1 : ts.length + totT ts ≤ 1048576) (l0 : List Tw) (hl0 : Hid (l0.map Tw.tb = ts.map Tn.tb)) :
    Calls Try.prog 32 #[.agg #[u]] w fun e w' =>
      ∃ (g : Nat) (l : List Tw), e = .returned (.agg #[.slice (some ⟨g, 0, none⟩) l.length l.length]) ∧ Hid (InTabs w' (.slice (some ⟨g, 0, none⟩) l.length l.length) (l.map Tw.tn) ∧ vwT (l0.map Tw.tn) = vwT (l.map Tw.tn)) ∧ Below W0.heap.size W0 w' ∧ (∀ b o, b < W0.heap.size → w'.cell? ⟨b, o, none⟩ = W0.cell? ⟨b, o, none⟩) := by
  refine (toStore_any u ts w (h.out.below hb) h1).mono ?_
  rintro e w' ⟨g, l, he, hO, hm, hb'⟩
  have k := hb.trans (hb'.mono hb.size)
  have hll : l.length ≤ 1048576 := by have := congrArg List.length hm; simp at this; omega
  exact ⟨g, l, he, ⟨hO.ins hll, vwT_eq (by rw [hm, hl0.out])⟩, k, fun b o hlt => k.cell (p := ⟨b, o, none⟩) hlt⟩
theorem eqStore_in (W0 : World) (u u' : Value) (l l' : List Tn) (w : World) (hb : Below W0.heap.size W0 w) (h : Hid (InTabs W0 u l)) (h' : Hid (InTabs w u' l' ∧ vwT l = vwT l')) :
    Calls Try.prog 34 #[.agg #[u], .agg #[u']] w fun e w' => e = .returned (.bool true) ∧ Below W0.heap.size W0 w' := by
  refine (eqStore_any u u' l l' w (h.out.below hb) h'.out.1 h'.out.2).mono ?_
  rintro e w' ⟨he, hb'⟩
  exact ⟨he, hb.trans (hb'.mono hb.size)⟩

set_option maxHeartbeats 2000000 in
theorem walk (u : Value) (ts : List Tn) (w : World) (h : InTabs w u ts) (hok : okT ts) :
    Calls Try.prog 6 #[.agg #[u]] w fun e w' => e = .returned (.bool true) ∧ Below w.heap.size w w' := by
  have HE : Hid (InTabs w u ts ∧ okT ts) := ⟨h, hok⟩
  have hu := h.ucells
  clear h hok
  obtain ⟨W0, hW0⟩ : ∃ W0 : World, W0 = w.alloc (Obj.cells #[u] 59) := ⟨_, rfl⟩
  have hb0 : Below w.heap.size w W0 := by rw [hW0]; exact (Below.refl _ _).alloc (Nat.le_refl _) _
  have hz0 : w.heap.size < W0.heap.size := by rw [hW0]; simp
  have ca : W0.cell? ⟨w.heap.size, 0, none⟩ = some u := by rw [hW0]; simp
  have HE0 : Hid (InTabs W0 u ts) := HE.out.1.below hb0
  go_enter Try.func6, Try.ntmps6
  go_wp2_with fail
  rw [← hW0]
  clear hW0
  refine (szStore_any u ts _ _ HE0.out HE.out.2 (by omega) (by omega)).mono ?_
  rintro e w1 ⟨x, rfl, hx, hb1⟩
  have ca1 : w1.cell? ⟨w.heap.size, 0, none⟩ = some u := by rw [hb1.cell (p := ⟨w.heap.size, 0, none⟩) hz0]; exact ca
  have hs1 := hb1.size
  by_cases hx0 : x < 0
  · clear hx
    go_wp2_with fail
    go_ret
    exact ⟨rfl, hb0.trans (hb1.mono (by omega))⟩
  have hn : ts.length + totT ts ≤ 1048576 := by omega
  clear hx
  have HE1 : Hid (InTabs w1 u ts) := HE0.out.below hb1
  go_wp2_with fail
  refine (toStore_any u ts _ HE1.out hn).mono ?_
  rintro e w2 ⟨g, l, rfl, hO, hm, hb2⟩
  have hs2 := hb2.size
  have hll : l.length ≤ 1048576 := by have := congrArg List.length hm; simp at this; omega
  have HO : Hid (OwnTabs w2 w1.heap.size g l ∧ l.map Tw.tb = ts.map Tn.tb) := ⟨hO, hm⟩
  clear hO hm
  have ca2 : w2.cell? ⟨w.heap.size, 0, none⟩ = some u := by rw [hb2.cell (p := ⟨w.heap.size, 0, none⟩) (by show w.heap.size < _; omega)]; exact ca1
  go_wp2_with fail
  have hs := specValidStore_core g 0 l.length (l.map Tw.tm) w2 HO.out.1.at (ok_tms HO.out.2 HE.out.2 HO.out.1.short) HO.out.1.lt.2 (by simpa using hll)
  rw [List.length_map] at hs
  refine hs.mono ?_
  clear hs
  rintro e w3 ⟨r1, rfl, hr1, hb3⟩
  have HR1 : Hid (r1 = true ↔ GoodS (ts.map Tn.tb)) := by
    show r1 = true ↔ GoodS (ts.map Tn.tb)
    rw [← HO.out.2, ← tms_tbs]
    exact hr1
  clear hr1
  have hs3 := hb3.size
  have ca3 : w3.cell? ⟨w.heap.size, 0, none⟩ = some u := by rw [hb3.cell (p := ⟨w.heap.size, 0, none⟩) (by show w.heap.size < _; omega)]; exact ca2
  have HE3 : Hid (InTabs w3 u ts) := (HE1.out.below hb2).below hb3
  clear ca ca1 ca2
  go_wp2_with fail
  refine (toStore_any u ts _ HE3.out hn).mono ?_
  rintro e w4 ⟨g2, l2, rfl, hO4, hm4, hb4⟩
  have hs4 := hb4.size
  have hll2 : l2.length ≤ 1048576 := by have := congrArg List.length hm4; simp at this; omega
  have HM4 : Hid (l2.map Tw.tb = ts.map Tn.tb) := hm4
  clear hm4
  have ca4 : w4.cell? ⟨w.heap.size, 0, none⟩ = some u := by rw [hb4.cell (p := ⟨w.heap.size, 0, none⟩) (by show w.heap.size < _; omega)]; exact ca3
  obtain ⟨W5, hW5⟩ : ∃ W5 : World, W5 = w4.alloc (Obj.cells #[.slice (some ⟨g2, 0, none⟩) l2.length l2.length] 64) := ⟨_, rfl⟩
  have hb5 : Below w4.heap.size w4 W5 := by rw [hW5]; exact (Below.refl _ _).alloc (Nat.le_refl _) _
  have hz5 : w4.heap.size < W5.heap.size := by rw [hW5]; simp
  have cx5 : W5.cell? ⟨w4.heap.size, 0, none⟩ = some (.slice (some ⟨g2, 0, none⟩) l2.length l2.length) := by rw [hW5]; simp
  have ca5 : W5.cell? ⟨w.heap.size, 0, none⟩ = some u := by rw [hb5.cell (p := ⟨w.heap.size, 0, none⟩) (by show w.heap.size < _; omega)]; exact ca4
  have HO5 : Hid (OwnTabs W5 w3.heap.size g2 l2) := hO4.below hb5
  have HE5 : Hid (InTabs W5 u ts) := (HE3.out.below hb4).below hb5
  clear hO4 ca3 ca4
  go_wp2_with fail
  rw [← hW5]
  clear hW5
  have hs := implValidStore_core g2 0 l2.length (l2.map Tw.tm) W5 HO5.out.at (ok_tms HM4.out HE.out.2 HO5.out.short) HO5.out.lt.2 (by simpa using hll2)
  rw [List.length_map] at hs
  refine hs.mono ?_
  clear hs
  rintro e w6 ⟨r2, rfl, hr2, hb6⟩
  have hs6 := hb6.size
  obtain rfl : r2 = r1 := bool_of_iff (p := GoodS (ts.map Tn.tb)) (by rw [← HM4.out, ← tms_tbs]; exact hr2) HR1.out
  clear hr2
  have cx6 : w6.cell? ⟨w4.heap.size, 0, none⟩ = some (.slice (some ⟨g2, 0, none⟩) l2.length l2.length) := by rw [hb6.cell (p := ⟨w4.heap.size, 0, none⟩) hz5]; exact cx5
  have ca6 : w6.cell? ⟨w.heap.size, 0, none⟩ = some u := by rw [hb6.cell (p := ⟨w.heap.size, 0, none⟩) (by show w.heap.size < _; omega)]; exact ca5
  have HO6 : Hid (OwnTabs w6 w3.heap.size g2 l2) := HO5.out.below hb6
  have HE6 : Hid (InTabs w6 u ts) := HE5.out.below hb6
  have k6 : Below w.heap.size w w6 := ((((((hb0.trans (hb1.mono (by omega))).trans (hb2.mono (by omega))).trans (hb3.mono (by omega))).trans (hb4.mono (by omega))).trans (hb5.mono (by omega))).trans (hb6.mono (by omega)))
  clear cx5 ca5
  go_upto_region 10 with fail
  go_cut [26] (fun s wx => s = .bool false ∧ Below w6.heap.size w6 wx)
  case first =>
    have hz6 : w4.heap.size < w6.heap.size := by omega
    have hza : w.heap.size < w6.heap.size := by omega
    have HX6 : Hid (InTabs w6 (.slice (some ⟨g2, 0, none⟩) l2.length l2.length) (l2.map Tw.tn)) := HO6.out.ins hll2
    go_region_with (first
      | (go_at_call 32; refine (toStore_in w6 u ts _ ?hB HE6 hn l2 HM4).mono ?_; (case hB => (repeat (first | assumption | exact Below.refl _ _ | refine Below.drew ?_))); rintro e w' ⟨g3, l3, rfl, HG, hbb, hcc⟩)
      | (go_at_call 34; refine (eqStore_in w6 _ _ (l2.map Tw.tn) (l3.map Tw.tn) _ ?hB HX6 ?hC).mono ?_; (case hB => (repeat (first | assumption | exact Below.refl _ _ | refine Below.drew ?_))); (case hC => assumption); rintro e w' ⟨rfl, hbb2⟩))
    all_goals go_wp2_with fail
    all_goals go_meet
    all_goals exact ⟨rfl, by assumption⟩
  case rest =>
  obtain ⟨rfl, h3⟩ := hcut
  go_wp2_with fail
  go_ret
  exact ⟨rfl, k6.trans (h3.mono (by omega))⟩

theorem lifted (os : Os) (started : os.Started) (H : Type) (enc : TypeId × Value → H) :
    ReturnsInHanded {} Try.checked os 6 .any (Rows.fnExactValidStoreSpec.pre6 enc Try.prog Try.f6 Rows.fnExactValidStoreRow.domain false) (Rows.fnExactValidStoreSpec.post enc Try.prog Try.f6 false true false false) := by
  refine returnsInHanded_of_change (C := Try.checked) own started (by kernel_rfl) Try.func6
    (ChangeSpec.witness6 (enc := enc) (C := Try.checked) false ⟨#[], #[.agg #[.slice none 0 0]], []⟩ 8 (by kernel_rfl) (by kernel_rfl) (by kernel_rfl) (by kernel_rfl)) ?_
  intro W base args ds gs before hval0 hW hcnd _
  have hval : ∀ (j : Nat) t v, Try.f6.params[j]? = some t → args[j]? = some v → Value.okWide Try.prog W .any base t v := hval0
  have hW' := hW
  obtain ⟨p, q, hA0, hV, rfl, hfz, hnd⟩ := hW
  have hA : DataW.TrodAll enc Try.prog W 0 (fun _ => true) true Try.f6.params.toList args.toList ds p := hA0
  rw [Try.params6] at hA hval
  obtain ⟨v0, vs0, d0, ds0, p0, q0, hargs, rfl, rfl, h0, r0⟩ := trodAll_cons hA
  obtain ⟨rfl, rfl, rfl⟩ := trodAll_nil r0
  obtain rfl : args = #[v0] := by cases args; simp_all
  obtain ⟨rfl, rfl⟩ := trodVars_none hV
  have k0 := h0
  have lt0 : ∀ x ∈ p0, x.block < W.heap.size := by obtain ⟨m, hm⟩ := k0; exact DataW.trod_lt m _ _ _ hm
  obtain ⟨u, ts, rfl, hin, ok0⟩ := open_store (hval 0 59 v0 rfl rfl) h0
  clear hA0 hval0
  refine (walk u ts W hin ok0).mono fun e W' ⟨he, bel⟩ => ?_
  subst he
  exact ⟨_, rfl, _, _, _, [], _, [], hW', trodAll_mk1 (shut_bool Try.underlying4 _), (trodAll_cons_mk (Below.trod laidOut (by kernel_rfl) (of_decide_eq_true (by kernel_rfl)) k0 bel lt0) trodAll_mk0), rfl, bel.frame _, fun h => by cases h⟩

theorem over : Rows.fnExactValidStoreRow.holds Try.pinned (OpenSpec.ofChange Rows.fnExactValidStoreSpec) :=
  OpenClaim.holds_of_wide 6 Try.f6 rfl rfl rfl rfl rfl rfl rfl ⟨rfl, rfl, rfl, rfl, rfl⟩ rfl rfl rfl rfl rfl (by kernel_rfl) Try.func6 (by kernel_rfl)
    (of_decide_eq_true (by kernel_rfl)) (by unfold Func.isWrapper; first | (rw [if_pos (by decide +kernel)]; kernel_rfl) | (rw [if_neg (by decide +kernel)]; exact ⟨rfl, rfl⟩))
    (fun os started H enc _ => lifted os started H enc)

end Go.Proofs.Ytlgeffinhbodeac.exValidStore
namespace Go.Proofs.Ytlgeffinhbodeac
theorem exactValidStore_holds : Rows.FnExactValidStoreSaid := exValidStore.over
#print axioms exactValidStore_holds
end Go.Proofs.Ytlgeffinhbodeac
