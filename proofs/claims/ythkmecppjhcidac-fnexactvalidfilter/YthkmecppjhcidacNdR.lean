/-
  Nodes of filters in memory: szNode, toNode, eqNode and their lists; filters that come in.
-/
import Derived.Test.YthkmecppjhcidacNdM
import Derived.Test.YthkmecppjhcidacOpenS
import Derived.Test.YthkmecppjhcidacBox
import Derived.Deep.DeepCutAuto
import Derived.Deep.RegionWith
namespace Go.Proofs.Ythkmecppjhcidac
open Go.ChangeShapes Go.WideShapes Go.ChangeAt Go.RowKit Go.Deep
set_option linter.unusedVariables false
set_option linter.unusedSimpArgs false
set_option maxRecDepth 100000

structure Nd.ok (e : Nd) : Prop where
  s : e.s.size ≤ maxLen
  t : e.t.size ≤ maxLen
  kind : (Lit.int .i64 e.kind).wf = true
  lo : (Lit.int .u64 e.lo).wf = true
  up : (Lit.int .u64 e.up).wf = true
  n : (Lit.int .i64 e.n).wf = true
abbrev Nd.seven (e : Nd) : List Value := [.int .i64 e.kind, .string e.s, .bool e.hi, .string e.t, .int .u64 e.lo, .int .u64 e.up, .int .i64 e.n]
abbrev Nd.v (e : Nd) : Value := .agg #[.int .i64 e.kind, .string e.s, .bool e.hi, .string e.t, .int .u64 e.lo, .int .u64 e.up, .int .i64 e.n]
def zeroN : Nd := ⟨0, ⟨#[]⟩, false, ⟨#[]⟩, 0, 0, 0⟩
def cellsN (es : List Nd) : List Value := es.flatMap Nd.seven
theorem cellsN_cons (e : Nd) (es : List Nd) : cellsN (e :: es) = e.seven ++ cellsN es := by simp [cellsN]
theorem length_cellsN (es : List Nd) : (cellsN es).length = es.length * 7 := by
  induction es with
  | nil => rfl
  | cons e es ih => rw [cellsN_cons, List.length_append, ih]; simp; omega
theorem cellsN_get (es : List Nd) : ∀ (k : Nat) (e : Nd), es[k]? = some e → ∀ j, j < 7 → (cellsN es)[k * 7 + j]? = e.seven[j]? := by
  induction es with
  | nil => intro k e h; simp at h
  | cons f es ih =>
    intro k e h j hj
    rw [cellsN_cons]
    cases k with
    | zero =>
      simp at h; subst h
      rw [List.getElem?_append_left (by show 0 * 7 + j < 7; omega)]
      simp
    | succ k =>
      simp at h
      rw [List.getElem?_append_right (by show 7 ≤ (k + 1) * 7 + j; omega)]
      have : (k + 1) * 7 + j - f.seven.length = k * 7 + j := by show (k + 1) * 7 + j - 7 = _; omega
      rw [this]; exact ih k e h j hj
theorem cellsN_set (es : List Nd) : ∀ (k : Nat) (e e' : Nd) (u : Value) (j : Nat), es[k]? = some e → j < 7 → e'.seven = e.seven.set j u → (cellsN es).set (k * 7 + j) u = cellsN (es.set k e') := by
  induction es with
  | nil => intro k e e' u j h; simp at h
  | cons f es ih =>
    intro k e e' u j h hj hc
    rw [cellsN_cons]
    cases k with
    | zero =>
      simp at h; subst h
      rw [List.set_append_left _ _ (by show 0 * 7 + j < 7; omega), List.set_cons_zero, cellsN_cons, hc]
      simp
    | succ k =>
      simp at h
      rw [List.set_append_right _ _ (by show 7 ≤ (k + 1) * 7 + j; omega), List.set_cons_succ, cellsN_cons]
      have : (k + 1) * 7 + j - f.seven.length = k * 7 + j := by show (k + 1) * 7 + j - 7 = _; omega
      rw [this, ih k e e' u j h hj hc]

/-- The nodes 'es' lie at ⟨b, off⟩, seven cells each. -/
def NdsAt (w : World) (b off : Nat) (es : List Nd) : Prop :=
  ∀ i e, es[i]? = some e → w.cell? ⟨b, off + i * 7, none⟩ = some (.int .i64 e.kind) ∧ w.cell? ⟨b, off + i * 7 + 1, none⟩ = some (.string e.s) ∧ w.cell? ⟨b, off + i * 7 + 2, none⟩ = some (.bool e.hi) ∧ w.cell? ⟨b, off + i * 7 + 3, none⟩ = some (.string e.t) ∧ w.cell? ⟨b, off + i * 7 + 4, none⟩ = some (.int .u64 e.lo) ∧ w.cell? ⟨b, off + i * 7 + 5, none⟩ = some (.int .u64 e.up) ∧ w.cell? ⟨b, off + i * 7 + 6, none⟩ = some (.int .i64 e.n)
theorem NdsAt.below {B : Nat} {w w' : World} {b off : Nat} {es : List Nd} (h : NdsAt w b off es) (hb : Below B w w') (hlt : b < B) : NdsAt w' b off es := by
  intro i e he
  have := h i e he
  refine ⟨?_, ?_, ?_, ?_, ?_, ?_, ?_⟩
  all_goals rw [hb.cell (by exact hlt)]
  · exact this.1
  · exact this.2.1
  · exact this.2.2.1
  · exact this.2.2.2.1
  · exact this.2.2.2.2.1
  · exact this.2.2.2.2.2.1
  · exact this.2.2.2.2.2.2
/-- A row of the call's own holds the nodes 'es'. -/
def OwnNd (w : World) (base g cap : Nat) (es : List Nd) : Prop := w.ownsRow base 76 7 (.slice (some ⟨g, 0, none⟩) es.length cap) es.length (cellsN es)
theorem OwnNd.at {w : World} {base g cap : Nat} {es : List Nd} (h : OwnNd w base g cap es) : NdsAt w g 0 es := by
  intro i e he
  have hi : i < es.length := (List.getElem?_eq_some_iff.1 he).1
  have c := fun j (hj : j < 7) => (World.ownsRow.cellAt h (i * 7 + j) (by omega)).trans (cellsN_get es i e he j hj)
  refine ⟨?_, ?_, ?_, ?_, ?_, ?_, ?_⟩
  · simpa using c 0 (by omega)
  · simpa using c 1 (by omega)
  · simpa using c 2 (by omega)
  · simpa using c 3 (by omega)
  · simpa using c 4 (by omega)
  · simpa using c 5 (by omega)
  · simpa using c 6 (by omega)
theorem OwnNd.lt {w : World} {base g cap : Nat} {es : List Nd} (h : OwnNd w base g cap es) : base ≤ g ∧ g < w.heap.size := World.ownsRow.lt h g rfl
theorem OwnNd.below {B : Nat} {w w' : World} {base g cap : Nat} {es : List Nd} (h : OwnNd w base g cap es) (hb : Below B w w') (hg : g < B) : OwnNd w' base g cap es := by
  refine ⟨h.1, ?_⟩
  rcases h.2 with hn | ⟨g', cap', cur, hv, h1, h2, rest⟩
  · exact .inl hn
  · simp only [Value.slice.injEq, Option.some.injEq, Addr.mk.injEq, and_true, true_and] at hv
    obtain ⟨rfl, rfl⟩ := hv
    exact .inr ⟨g, cap, cur, rfl, h1, by rw [hb.block g hg]; exact h2, rest⟩
theorem OwnNd.mono {w : World} {base base' g cap : Nat} {es : List Nd} (h : OwnNd w base g cap es) (hb : base' ≤ base) : OwnNd w base' g cap es := by
  refine ⟨h.1, ?_⟩
  rcases h.2 with hn | ⟨g', cap', cur, hv, h1, rest⟩
  · exact .inl hn
  · exact .inr ⟨g', cap', cur, hv, Nat.le_trans hb h1, rest⟩
theorem OwnNd.caps {w : World} {base g cp : Nat} {R : List Nd} (h : OwnNd w base g cp R) : R.length ≤ cp ∧ cp ≤ maxLen := by
  rcases h.2 with ⟨h0, _⟩ | ⟨g', cap', cur, hv, _, _, hn, hcap, _, _⟩
  · cases h0
  · simp only [Value.slice.injEq, Option.some.injEq, Addr.mk.injEq, and_true, true_and] at hv
    obtain ⟨rfl, rfl⟩ := hv
    exact ⟨hn, hcap⟩
theorem OwnNd.set {w : World} {base g cap : Nat} {es : List Nd} (h : OwnNd w base g cap es) (k j : Nat) (e e' : Nd) (u : Value) (hk : es[k]? = some e) (hj : j < 7) (hc : e'.seven = e.seven.set j u) :
    OwnNd (w.setCell ⟨g, k * 7 + j, none⟩ u) base g cap (es.set k e') := by
  have := (World.ownsRow.stored h (k * 7 + j) u).1
  rw [cellsN_set es k e e' u j hk hj hc] at this
  unfold OwnNd
  rw [List.length_set]
  exact this
theorem Try.infoNd : (Try.prog.info? 76).map (fun i => (i.zero, i.size, i.bytes)) = some (some (.agg #[.int .i64 0, .string ⟨#[]⟩, .bool false, .string ⟨#[]⟩, .int .u64 0, .int .u64 0, .int .i64 0]), 7, 72) := by kernel_rfl
theorem OwnNd.put {w : World} {base g cap : Nat} {es : List Nd} (h : OwnNd w base g cap es) (k : Nat) (f e : Nd) (hk : es[k]? = some f) :
    OwnNd (((((((w.setCell ⟨g, k * 7, none⟩ (.int .i64 e.kind)).setCell ⟨g, k * 7 + 1, none⟩ (.string e.s)).setCell ⟨g, k * 7 + 2, none⟩ (.bool e.hi)).setCell ⟨g, k * 7 + 3, none⟩ (.string e.t)).setCell ⟨g, k * 7 + 4, none⟩ (.int .u64 e.lo)).setCell ⟨g, k * 7 + 5, none⟩ (.int .u64 e.up)).setCell ⟨g, k * 7 + 6, none⟩ (.int .i64 e.n)) base g cap (es.set k e) := by
  have hlt : k < es.length := (List.getElem?_eq_some_iff.1 hk).1
  have g1 := h.set k 0 f ({ f with kind := e.kind }) (.int .i64 e.kind) hk (by omega) rfl
  have g2 := g1.set k 1 ({ f with kind := e.kind }) ({ f with kind := e.kind, s := e.s }) (.string e.s) (by simp [hlt]) (by omega) rfl
  have g3 := g2.set k 2 ({ f with kind := e.kind, s := e.s }) ({ f with kind := e.kind, s := e.s, hi := e.hi }) (.bool e.hi) (by simp [hlt]) (by omega) rfl
  have g4 := g3.set k 3 ({ f with kind := e.kind, s := e.s, hi := e.hi }) ({ f with kind := e.kind, s := e.s, hi := e.hi, t := e.t }) (.string e.t) (by simp [hlt]) (by omega) rfl
  have g5 := g4.set k 4 ({ f with kind := e.kind, s := e.s, hi := e.hi, t := e.t }) ({ f with kind := e.kind, s := e.s, hi := e.hi, t := e.t, lo := e.lo }) (.int .u64 e.lo) (by simp [hlt]) (by omega) rfl
  have g6 := g5.set k 5 ({ f with kind := e.kind, s := e.s, hi := e.hi, t := e.t, lo := e.lo }) ({ f with kind := e.kind, s := e.s, hi := e.hi, t := e.t, lo := e.lo, up := e.up }) (.int .u64 e.up) (by simp [hlt]) (by omega) rfl
  have g7 := g6.set k 6 ({ f with kind := e.kind, s := e.s, hi := e.hi, t := e.t, lo := e.lo, up := e.up }) e (.int .i64 e.n) (by simp [hlt]) (by omega) rfl
  simpa only [List.set_set, Nat.add_zero] using g7
theorem below_put7 {B : Nat} {a w : World} (h : Below B a w) {g : Nat} (hg : B ≤ g) (o0 o1 o2 o3 o4 o5 o6 : Nat) (v0 v1 v2 v3 v4 v5 v6 : Value) :
    Below B a (((((((w.setCell ⟨g, o0, none⟩ v0).setCell ⟨g, o1, none⟩ v1).setCell ⟨g, o2, none⟩ v2).setCell ⟨g, o3, none⟩ v3).setCell ⟨g, o4, none⟩ v4).setCell ⟨g, o5, none⟩ v5).setCell ⟨g, o6, none⟩ v6) :=
  ((((((h.setCell hg _).setCell hg _).setCell hg _).setCell hg _).setCell hg _).setCell hg _).setCell hg _
theorem takeN_succ {es fs : List Nd} {k : Nat} {e : Nd} (h : fs.take k = es.take k) (hl : fs.length = es.length) (he : es[k]? = some e) : (fs.set k e).take (k + 1) = es.take (k + 1) := by
  have hlt : k < es.length := (List.getElem?_eq_some_iff.1 he).1
  rw [List.take_set, List.take_add_one, List.take_add_one (l := es), he, List.getElem?_eq_getElem (by omega), h]
  simp only [Option.toList]
  rw [List.set_append_right _ _ (by simp; omega)]
  simp
  rw [show k - min k es.length = 0 by omega]
  rfl

set_option maxHeartbeats 400000 in
theorem szNode_core (e : Nd) (left : Int) (w : World) (ho : e.ok) (h0 : 0 ≤ left) (h1 : left ≤ 2 ^ 40) :
    Calls Try.prog 65 #[e.v, .int .i64 left] w fun r w' => ∃ x, r = .returned (.int .i64 x) ∧ (x = -1 ∨ (0 ≤ x ∧ x + e.s.size + e.t.size = left)) ∧ Below w.heap.size w w' := by
  have hr := ho.s
  have hf := ho.t
  unfold maxLen at hr hf
  go_enter Try.func65, Try.ntmps65
  go_wp2
  · go_ret
    exact ⟨_, rfl, .inl rfl, (Below.refl _ _).alloc (Nat.le_refl _) _⟩
  · go_ret
    exact ⟨_, rfl, .inl rfl, (Below.refl _ _).alloc (Nat.le_refl _) _⟩
  · go_ret
    exact ⟨_, rfl, .inr ⟨by assumption, by omega⟩, (Below.refl _ _).alloc (Nat.le_refl _) _⟩
set_option maxHeartbeats 400000 in
theorem toNode_core (e : Nd) (w : World) : Calls Try.prog 72 #[e.v] w fun r w' => r = .returned e.v ∧ Below w.heap.size w w' := by
  go_enter Try.func72, Try.ntmps72
  go_wp2
  refine bodyPost_ret (v := e.v) (by simp [results, Try.results72, go_sem]) rfl ⟨rfl, ?_⟩
  exact (((Below.refl _ _).alloc (Nat.le_refl _) _).alloc (by simp) _).alloc (by simp; omega) _
set_option maxHeartbeats 400000 in
theorem eqNode_same (e : Nd) (w : World) : Calls Try.prog 76 #[e.v, e.v] w fun r w' => r = .returned (.bool true) ∧ Below w.heap.size w w' := by
  go_enter Try.func76, Try.ntmps76
  go_wp2
  go_ret
  exact ⟨rfl, ((Below.refl _ _).alloc (Nat.le_refl _) _).alloc (by simp) _⟩
end Go.Proofs.Ythkmecppjhcidac
