import Derived.Deep.DeepCutAuto
import Derived.Deep.RegionWith
import Derived.Test.YtlgeffinhbodeaePkAA
/-
  What has turned between two worlds.
-/
namespace Go.Proofs.Ytlgeffinhbodeae
open Go.ChangeShapes Go.WideShapes Go.ChangeAt Go.RowKit Go.Deep
set_option linter.unusedVariables false
set_option linter.unusedSimpArgs false

/-- From 'w' to 'w'': only what lies in blocks of 'S' has turned, and new blocks came. -/
structure Chg (S : Nat → Prop) (w w' : World) : Prop where
  os : w'.os = w.os
  tape : w'.tape = w.tape
  output : w'.output = w.output
  size : w.heap.size ≤ w'.heap.size
  block : ∀ k, k < w.heap.size → ¬ S k → w'.heap[k]? = w.heap[k]?
theorem Chg.refl (S : Nat → Prop) (w : World) : Chg S w w := ⟨rfl, rfl, rfl, Nat.le_refl _, fun _ _ _ => rfl⟩
theorem Chg.trans {S : Nat → Prop} {a b c : World} (h : Chg S a b) (k : Chg S b c) : Chg S a c :=
  ⟨k.os.trans h.os, k.tape.trans h.tape, k.output.trans h.output, Nat.le_trans h.size k.size, fun i hi hn => (k.block i (Nat.lt_of_lt_of_le hi h.size) hn).trans (h.block i hi hn)⟩
theorem Chg.mono {S T : Nat → Prop} {w w' : World} (h : Chg S w w') (hs : ∀ k, S k → T k) : Chg T w w' := ⟨h.os, h.tape, h.output, h.size, fun k hk hn => h.block k hk (fun q => hn (hs k q))⟩
theorem Chg.of_below {S : Nat → Prop} {w w' : World} (h : Below w.heap.size w w') : Chg S w w' := ⟨h.os, h.tape, h.output, h.size, fun k hk _ => h.block k hk⟩
theorem Chg.of_grown {S : Nat → Prop} {w w' : World} {row : Option Nat} (h : w.grownBy w' row) (hs : ∀ k, row = some k → S k) : Chg S w w' :=
  ⟨h.os, h.tape, h.output, h.size, fun k hk hn => h.block k hk (fun q => hn (hs k q.symm))⟩
theorem Chg.of_set {S : Nat → Prop} (w : World) (g o : Nat) (u : Value) (hs : S g) : Chg S w (w.setCell ⟨g, o, none⟩ u) := Chg.of_grown (grown_set w g o u) (fun k hk => by cases hk; exact hs)
theorem Chg.below {S : Nat → Prop} {B : Nat} {a w w' : World} (h : Below B a w) (k : Chg S w w') (hB : B ≤ w.heap.size) (hs : ∀ k, S k → B ≤ k) : Below B a w' :=
  h.trans ⟨k.os, k.tape, k.output, k.size, fun i hi => k.block i (by omega) (fun q => by have := hs i q; omega)⟩
theorem Chg.cell {S : Nat → Prop} {w w' : World} (h : Chg S w w') {p : Addr} (hp : p.block < w.heap.size) (hn : ¬ S p.block) : w'.cell? p = w.cell? p := World.cell?_of_block (w := w) (h.block p.block hp hn)
theorem Chg.frozen {S : Nat → Prop} {w w' : World} (h : Chg S w w') {p : Addr} (hp : p.block < w.heap.size) (hn : ¬ S p.block) : w'.frozen? p = w.frozen? p := World.frozen?_of_block (w := w) (h.block p.block hp hn)
theorem EntsAt.chg {S : Nat → Prop} {w w' : World} {b off : Nat} {es : List Ent} (h : EntsAt w b off es) (hb : Chg S w w') (hlt : b < w.heap.size) (hn : ¬ S b) : EntsAt w' b off es := by
  intro i e he
  have := h i e he
  refine ⟨?_, ?_, ?_, ?_, ?_, ?_⟩
  all_goals rw [hb.cell (by exact hlt) (by exact hn)]
  · exact this.1
  · exact this.2.1
  · exact this.2.2.1
  · exact this.2.2.2.1
  · exact this.2.2.2.2.1
  · exact this.2.2.2.2.2
theorem own_apart {w : World} {base e size : Nat} {v : Value} {n : Nat} {xs : List Value} {base' e' size' : Nat} {v' : Value} {n' : Nat} {xs' : List Value} (h : w.ownsRow base e size v n xs) (h' : w.ownsRow base' e' size' v' n' xs') (hne : e ≠ e') : ∀ k, v.ownBlock = some k → v'.ownBlock ≠ some k := by
  intro k hk hk'
  rcases h.2 with ⟨rfl, _⟩ | ⟨g1, cap1, cur, rfl, _, hc, _⟩
  · simp [Value.ownBlock] at hk
  · rcases h'.2 with ⟨rfl, _⟩ | ⟨g2, cap2, cur2, rfl, _, hc2, _⟩
    · simp [Value.ownBlock] at hk'
    · simp [Value.ownBlock] at hk hk'
      subst hk hk'
      rw [hc] at hc2
      simp at hc2
      exact hne hc2.2
theorem own_chg {S : Nat → Prop} {w w' : World} {base e size : Nat} {v : Value} {n : Nat} {xs : List Value} (h : w.ownsRow base e size v n xs) (hb : Chg S w w') (hn : ∀ k, v.ownBlock = some k → ¬ S k) : w'.ownsRow base e size v n xs := by
  refine ⟨h.1, ?_⟩
  rcases h.2 with hz | ⟨g, cap, cur, rfl, h1, hg, rest⟩
  · exact .inl hz
  · refine .inr ⟨g, cap, cur, rfl, h1, ?_, rest⟩
    have hlt : g < w.heap.size := by
      rcases Nat.lt_or_ge g w.heap.size with q | q
      · exact q
      · rw [Array.getElem?_eq_none q] at hg; cases hg
    rw [hb.block g hlt (hn g rfl)]; exact hg

end Go.Proofs.Ytlgeffinhbodeae

/-
  Variables of a struct's type that lie in memory, as rows of one element.
-/
namespace Go.Proofs.Ytlgeffinhbodeae
open Go.ChangeShapes Go.WideShapes Go.ChangeAt Go.RowKit Go.Deep
set_option linter.unusedVariables false

def BoxAt (w : World) (base t sz g : Nat) (vs : List Value) : Prop := w.ownsRow base t sz (.slice (some ⟨g, 0, none⟩) 1 1) 1 vs
theorem BoxAt.len {w : World} {base t sz g : Nat} {vs : List Value} (h : BoxAt w base t sz g vs) : vs.length = sz := by have := h.1; omega
theorem BoxAt.lt {w : World} {base t sz g : Nat} {vs : List Value} (h : BoxAt w base t sz g vs) : base ≤ g ∧ g < w.heap.size := World.ownsRow.lt h g rfl
theorem BoxAt.chg {S : Nat → Prop} {w w' : World} {base t sz g : Nat} {vs : List Value} (h : BoxAt w base t sz g vs) (hc : Chg S w w') (hn : ¬ S g) : BoxAt w' base t sz g vs := own_chg h hc (fun k q => by simp [Value.ownBlock] at q; subst q; exact hn)
theorem BoxAt.below {w w' : World} {base t sz g : Nat} {vs : List Value} (h : BoxAt w base t sz g vs) (hb : Below w.heap.size w w') : BoxAt w' base t sz g vs := h.chg (Chg.of_below hb) (S := fun _ => False) (fun q => q)
theorem BoxAt.cell {w : World} {base t sz g : Nat} {vs : List Value} (h : BoxAt w base t sz g vs) {j : Nat} {v : Value} (hv : vs[j]? = some v) : w.cell? ⟨g, j, none⟩ = some v := by
  have hj := (List.getElem?_eq_some_iff.1 hv).1
  rw [World.ownsRow.cellAt h j (by have := h.len; omega), hv]
theorem BoxAt.frozen {w : World} {base t sz g : Nat} {vs : List Value} (h : BoxAt w base t sz g vs) (j : Nat) : w.frozen? ⟨g, j, none⟩ = false := World.ownsRow.frozenAt h j
theorem BoxAt.set {w : World} {base t sz g : Nat} {vs : List Value} (h : BoxAt w base t sz g vs) (j : Nat) (u : Value) : BoxAt (w.setCell ⟨g, j, none⟩ u) base t sz g (vs.set j u) := (World.ownsRow.stored h j u).1
theorem BoxAt.beside {w : World} {base t sz g : Nat} {vs : List Value} (h : BoxAt w base t sz g vs) {k : Nat} (hk : ¬ g = k) (j : Nat) (u : Value) : BoxAt (w.setCell ⟨k, j, none⟩ u) base t sz g vs := h.chg (Chg.of_set w k j u (S := fun q => q = k) rfl) hk
theorem boxAt_new (w : World) {base t sz : Nat} (cs : Array Value) (hb : base ≤ w.heap.size) (hs : cs.size = sz) : BoxAt (w.alloc (.cells cs t)) base t sz w.heap.size cs.toList :=
  World.ownsRow_lit w cs 1 hb (by decide) (by omega)
/-- Three cells stored. -/
def set3 (w : World) (g : Nat) (a b c : Value) : World := ((w.setCell ⟨g, 0, none⟩ a).setCell ⟨g, 1, none⟩ b).setCell ⟨g, 2, none⟩ c
theorem BoxAt.set3 {w : World} {base t g : Nat} {vs : List Value} (h : BoxAt w base t 3 g vs) (a b c : Value) : BoxAt (set3 w g a b c) base t 3 g [a, b, c] := by
  have h1 := ((h.set 0 a).set 1 b).set 2 c
  have hl := h.len
  match vs, hl with
  | [x, y, z], _ => exact h1
theorem BoxAt.beside3 {w : World} {base t sz g : Nat} {vs : List Value} (h : BoxAt w base t sz g vs) {k : Nat} (hk : ¬ g = k) (a b c : Value) : BoxAt (Go.Proofs.Ytlgeffinhbodeae.set3 w k a b c) base t sz g vs :=
  ((h.beside hk 0 a).beside hk 1 b).beside hk 2 c
theorem below_set {B : Nat} {a w : World} (h : Below B a w) {k : Nat} (hk : B ≤ k) (j : Nat) (u : Value) : Below B a (w.setCell ⟨k, j, none⟩ u) := h.setCell (p := ⟨k, j, none⟩) hk u
theorem below_set3 {B : Nat} {a w : World} (h : Below B a w) {k : Nat} (hk : B ≤ k) (x y z : Value) : Below B a (set3 w k x y z) := below_set (below_set (below_set h hk 0 x) hk 1 y) hk 2 z
theorem size_set (w : World) (k j : Nat) (u : Value) : (w.setCell ⟨k, j, none⟩ u).heap.size = w.heap.size := by
  simp [World.setCell]
end Go.Proofs.Ytlgeffinhbodeae

/-
  Nodes of filters in memory: szNode, toNode, eqNode and their lists; filters that come in.
-/
namespace Go.Proofs.Ytlgeffinhbodeae
open Go.ChangeShapes Go.WideShapes Go.ChangeAt Go.RowKit Go.Deep
set_option linter.unusedVariables false
set_option linter.unusedSimpArgs false
set_option maxRecDepth 100000

structure Nd.ok (e : Nd) : Prop where
  s : e.s.size ≤ maxLen
  t : e.t.size ≤ maxLen
  kind : (Lit.int .i64 e.kind).wf = true
  lo : (Lit.int .u64 e.lo).wf = true
  up : (Lit.int .u64 e.up).wf = true
  n : (Lit.int .i64 e.n).wf = true
abbrev Nd.seven (e : Nd) : List Value := [.int .i64 e.kind, .string e.s, .bool e.hi, .string e.t, .int .u64 e.lo, .int .u64 e.up, .int .i64 e.n]
abbrev Nd.v (e : Nd) : Value := .agg #[.int .i64 e.kind, .string e.s, .bool e.hi, .string e.t, .int .u64 e.lo, .int .u64 e.up, .int .i64 e.n]
def zeroN : Nd := ⟨0, ⟨#[]⟩, false, ⟨#[]⟩, 0, 0, 0⟩
def cellsN (es : List Nd) : List Value := es.flatMap Nd.seven
theorem cellsN_cons (e : Nd) (es : List Nd) : cellsN (e :: es) = e.seven ++ cellsN es := by simp [cellsN]
theorem length_cellsN (es : List Nd) : (cellsN es).length = es.length * 7 := by
  induction es with
  | nil => rfl
  | cons e es ih => rw [cellsN_cons, List.length_append, ih]; simp; omega
theorem cellsN_get (es : List Nd) : ∀ (k : Nat) (e : Nd), es[k]? = some e → ∀ j, j < 7 → (cellsN es)[k * 7 + j]? = e.seven[j]? := by
  induction es with
  | nil => intro k e h; simp at h
  | cons f es ih =>
    intro k e h j hj
    rw [cellsN_cons]
    cases k with
    | zero =>
      simp at h; subst h
      rw [List.getElem?_append_left (by show 0 * 7 + j < 7; omega)]
      simp
    | succ k =>
      simp at h
      rw [List.getElem?_append_right (by show 7 ≤ (k + 1) * 7 + j; omega)]
      have : (k + 1) * 7 + j - f.seven.length = k * 7 + j := by show (k + 1) * 7 + j - 7 = _; omega
      rw [this]; exact ih k e h j hj
theorem cellsN_set (es : List Nd) : ∀ (k : Nat) (e e' : Nd) (u : Value) (j : Nat), es[k]? = some e → j < 7 → e'.seven = e.seven.set j u → (cellsN es).set (k * 7 + j) u = cellsN (es.set k e') := by
  induction es with
  | nil => intro k e e' u j h; simp at h
  | cons f es ih =>
    intro k e e' u j h hj hc
    rw [cellsN_cons]
    cases k with
    | zero =>
      simp at h; subst h
      rw [List.set_append_left _ _ (by show 0 * 7 + j < 7; omega), List.set_cons_zero, cellsN_cons, hc]
      simp
    | succ k =>
      simp at h
      rw [List.set_append_right _ _ (by show 7 ≤ (k + 1) * 7 + j; omega), List.set_cons_succ, cellsN_cons]
      have : (k + 1) * 7 + j - f.seven.length = k * 7 + j := by show (k + 1) * 7 + j - 7 = _; omega
      rw [this, ih k e e' u j h hj hc]

/-- The nodes 'es' lie at ⟨b, off⟩, seven cells each. -/
def NdsAt (w : World) (b off : Nat) (es : List Nd) : Prop :=
  ∀ i e, es[i]? = some e → w.cell? ⟨b, off + i * 7, none⟩ = some (.int .i64 e.kind) ∧ w.cell? ⟨b, off + i * 7 + 1, none⟩ = some (.string e.s) ∧ w.cell? ⟨b, off + i * 7 + 2, none⟩ = some (.bool e.hi) ∧ w.cell? ⟨b, off + i * 7 + 3, none⟩ = some (.string e.t) ∧ w.cell? ⟨b, off + i * 7 + 4, none⟩ = some (.int .u64 e.lo) ∧ w.cell? ⟨b, off + i * 7 + 5, none⟩ = some (.int .u64 e.up) ∧ w.cell? ⟨b, off + i * 7 + 6, none⟩ = some (.int .i64 e.n)
theorem NdsAt.below {B : Nat} {w w' : World} {b off : Nat} {es : List Nd} (h : NdsAt w b off es) (hb : Below B w w') (hlt : b < B) : NdsAt w' b off es := by
  intro i e he
  have := h i e he
  refine ⟨?_, ?_, ?_, ?_, ?_, ?_, ?_⟩
  all_goals rw [hb.cell (by exact hlt)]
  · exact this.1
  · exact this.2.1
  · exact this.2.2.1
  · exact this.2.2.2.1
  · exact this.2.2.2.2.1
  · exact this.2.2.2.2.2.1
  · exact this.2.2.2.2.2.2
/-- A row of the call's own holds the nodes 'es'. -/
def OwnNd (w : World) (base g cap : Nat) (es : List Nd) : Prop := w.ownsRow base 173 7 (.slice (some ⟨g, 0, none⟩) es.length cap) es.length (cellsN es)
theorem OwnNd.at {w : World} {base g cap : Nat} {es : List Nd} (h : OwnNd w base g cap es) : NdsAt w g 0 es := by
  intro i e he
  have hi : i < es.length := (List.getElem?_eq_some_iff.1 he).1
  have c := fun j (hj : j < 7) => (World.ownsRow.cellAt h (i * 7 + j) (by omega)).trans (cellsN_get es i e he j hj)
  refine ⟨?_, ?_, ?_, ?_, ?_, ?_, ?_⟩
  · simpa using c 0 (by omega)
  · simpa using c 1 (by omega)
  · simpa using c 2 (by omega)
  · simpa using c 3 (by omega)
  · simpa using c 4 (by omega)
  · simpa using c 5 (by omega)
  · simpa using c 6 (by omega)
theorem OwnNd.lt {w : World} {base g cap : Nat} {es : List Nd} (h : OwnNd w base g cap es) : base ≤ g ∧ g < w.heap.size := World.ownsRow.lt h g rfl
theorem OwnNd.below {B : Nat} {w w' : World} {base g cap : Nat} {es : List Nd} (h : OwnNd w base g cap es) (hb : Below B w w') (hg : g < B) : OwnNd w' base g cap es := by
  refine ⟨h.1, ?_⟩
  rcases h.2 with hn | ⟨g', cap', cur, hv, h1, h2, rest⟩
  · exact .inl hn
  · simp only [Value.slice.injEq, Option.some.injEq, Addr.mk.injEq, and_true, true_and] at hv
    obtain ⟨rfl, rfl⟩ := hv
    exact .inr ⟨g, cap, cur, rfl, h1, by rw [hb.block g hg]; exact h2, rest⟩
theorem OwnNd.mono {w : World} {base base' g cap : Nat} {es : List Nd} (h : OwnNd w base g cap es) (hb : base' ≤ base) : OwnNd w base' g cap es := by
  refine ⟨h.1, ?_⟩
  rcases h.2 with hn | ⟨g', cap', cur, hv, h1, rest⟩
  · exact .inl hn
  · exact .inr ⟨g', cap', cur, hv, Nat.le_trans hb h1, rest⟩
theorem OwnNd.caps {w : World} {base g cp : Nat} {R : List Nd} (h : OwnNd w base g cp R) : R.length ≤ cp ∧ cp ≤ maxLen := by
  rcases h.2 with ⟨h0, _⟩ | ⟨g', cap', cur, hv, _, _, hn, hcap, _, _⟩
  · cases h0
  · simp only [Value.slice.injEq, Option.some.injEq, Addr.mk.injEq, and_true, true_and] at hv
    obtain ⟨rfl, rfl⟩ := hv
    exact ⟨hn, hcap⟩
theorem OwnNd.set {w : World} {base g cap : Nat} {es : List Nd} (h : OwnNd w base g cap es) (k j : Nat) (e e' : Nd) (u : Value) (hk : es[k]? = some e) (hj : j < 7) (hc : e'.seven = e.seven.set j u) :
    OwnNd (w.setCell ⟨g, k * 7 + j, none⟩ u) base g cap (es.set k e') := by
  have := (World.ownsRow.stored h (k * 7 + j) u).1
  rw [cellsN_set es k e e' u j hk hj hc] at this
  unfold OwnNd
  rw [List.length_set]
  exact this
theorem Try.infoNd : (Try.prog.info? 173).map (fun i => (i.zero, i.size, i.bytes)) = some (some (.agg #[.int .i64 0, .string ⟨#[]⟩, .bool false, .string ⟨#[]⟩, .int .u64 0, .int .u64 0, .int .i64 0]), 7, 72) := by kernel_rfl
theorem OwnNd.put {w : World} {base g cap : Nat} {es : List Nd} (h : OwnNd w base g cap es) (k : Nat) (f e : Nd) (hk : es[k]? = some f) :
    OwnNd (((((((w.setCell ⟨g, k * 7, none⟩ (.int .i64 e.kind)).setCell ⟨g, k * 7 + 1, none⟩ (.string e.s)).setCell ⟨g, k * 7 + 2, none⟩ (.bool e.hi)).setCell ⟨g, k * 7 + 3, none⟩ (.string e.t)).setCell ⟨g, k * 7 + 4, none⟩ (.int .u64 e.lo)).setCell ⟨g, k * 7 + 5, none⟩ (.int .u64 e.up)).setCell ⟨g, k * 7 + 6, none⟩ (.int .i64 e.n)) base g cap (es.set k e) := by
  have hlt : k < es.length := (List.getElem?_eq_some_iff.1 hk).1
  have g1 := h.set k 0 f ({ f with kind := e.kind }) (.int .i64 e.kind) hk (by omega) rfl
  have g2 := g1.set k 1 ({ f with kind := e.kind }) ({ f with kind := e.kind, s := e.s }) (.string e.s) (by simp [hlt]) (by omega) rfl
  have g3 := g2.set k 2 ({ f with kind := e.kind, s := e.s }) ({ f with kind := e.kind, s := e.s, hi := e.hi }) (.bool e.hi) (by simp [hlt]) (by omega) rfl
  have g4 := g3.set k 3 ({ f with kind := e.kind, s := e.s, hi := e.hi }) ({ f with kind := e.kind, s := e.s, hi := e.hi, t := e.t }) (.string e.t) (by simp [hlt]) (by omega) rfl
  have g5 := g4.set k 4 ({ f with kind := e.kind, s := e.s, hi := e.hi, t := e.t }) ({ f with kind := e.kind, s := e.s, hi := e.hi, t := e.t, lo := e.lo }) (.int .u64 e.lo) (by simp [hlt]) (by omega) rfl
  have g6 := g5.set k 5 ({ f with kind := e.kind, s := e.s, hi := e.hi, t := e.t, lo := e.lo }) ({ f with kind := e.kind, s := e.s, hi := e.hi, t := e.t, lo := e.lo, up := e.up }) (.int .u64 e.up) (by simp [hlt]) (by omega) rfl
  have g7 := g6.set k 6 ({ f with kind := e.kind, s := e.s, hi := e.hi, t := e.t, lo := e.lo, up := e.up }) e (.int .i64 e.n) (by simp [hlt]) (by omega) rfl
  simpa only [List.set_set, Nat.add_zero] using g7
theorem below_put7 {B : Nat} {a w : World} (h : Below B a w) {g : Nat} (hg : B ≤ g) (o0 o1 o2 o3 o4 o5 o6 : Nat) (v0 v1 v2 v3 v4 v5 v6 : Value) :
    Below B a (((((((w.setCell ⟨g, o0, none⟩ v0).setCell ⟨g, o1, none⟩ v1).setCell ⟨g, o2, none⟩ v2).setCell ⟨g, o3, none⟩ v3).setCell ⟨g, o4, none⟩ v4).setCell ⟨g, o5, none⟩ v5).setCell ⟨g, o6, none⟩ v6) :=
  ((((((h.setCell hg _).setCell hg _).setCell hg _).setCell hg _).setCell hg _).setCell hg _).setCell hg _
theorem takeN_succ {es fs : List Nd} {k : Nat} {e : Nd} (h : fs.take k = es.take k) (hl : fs.length = es.length) (he : es[k]? = some e) : (fs.set k e).take (k + 1) = es.take (k + 1) := by
  have hlt : k < es.length := (List.getElem?_eq_some_iff.1 he).1
  rw [List.take_set, List.take_add_one, List.take_add_one (l := es), he, List.getElem?_eq_getElem (by omega), h]
  simp only [Option.toList]
  rw [List.set_append_right _ _ (by simp; omega)]
  simp
  rw [show k - min k es.length = 0 by omega]
  rfl

set_option maxHeartbeats 400000 in
theorem szNode_core (e : Nd) (left : Int) (w : World) (ho : e.ok) (h0 : 0 ≤ left) (h1 : left ≤ 2 ^ 40) :
    Calls Try.prog 169 #[e.v, .int .i64 left] w fun r w' => ∃ x, r = .returned (.int .i64 x) ∧ (x = -1 ∨ (0 ≤ x ∧ x + e.s.size + e.t.size = left)) ∧ Below w.heap.size w w' := by
  have hr := ho.s
  have hf := ho.t
  unfold maxLen at hr hf
  go_enter Try.func169, Try.ntmps169
  go_wp2
  · go_ret
    exact ⟨_, rfl, .inl rfl, (Below.refl _ _).alloc (Nat.le_refl _) _⟩
  · go_ret
    exact ⟨_, rfl, .inl rfl, (Below.refl _ _).alloc (Nat.le_refl _) _⟩
  · go_ret
    exact ⟨_, rfl, .inr ⟨by assumption, by omega⟩, (Below.refl _ _).alloc (Nat.le_refl _) _⟩
set_option maxHeartbeats 400000 in
theorem toNode_core (e : Nd) (w : World) : Calls Try.prog 173 #[e.v] w fun r w' => r = .returned e.v ∧ Below w.heap.size w w' := by
  go_enter Try.func173, Try.ntmps173
  go_wp2
  refine bodyPost_ret (v := e.v) (by simp [results, Try.results173, go_sem]) rfl ⟨rfl, ?_⟩
  exact (((Below.refl _ _).alloc (Nat.le_refl _) _).alloc (by simp) _).alloc (by simp; omega) _
set_option maxHeartbeats 400000 in
theorem eqNode_same (e : Nd) (w : World) : Calls Try.prog 176 #[e.v, e.v] w fun r w' => r = .returned (.bool true) ∧ Below w.heap.size w w' := by
  go_enter Try.func176, Try.ntmps176
  go_wp2
  go_ret
  exact ⟨rfl, ((Below.refl _ _).alloc (Nat.le_refl _) _).alloc (by simp) _⟩
end Go.Proofs.Ytlgeffinhbodeae

/-
  Nodes that come in: lists of nodes and filters opened, copied and compared.
-/
namespace Go.Proofs.Ytlgeffinhbodeae
open Go.ChangeShapes Go.WideShapes Go.ChangeAt Go.RowKit Go.Deep
set_option linter.unusedVariables false
set_option linter.unusedSimpArgs false
set_option maxRecDepth 100000

theorem Try.cellsNd : Try.prog.cellsOf 222 = 7 := by kernel_rfl
theorem list7 {α : Type} {cs : List α} (h : cs.length = 7) : ∃ c0 c1 c2 c3 c4 c5 c6, cs = [c0, c1, c2, c3, c4, c5, c6] := by
  match cs, h with
  | [c0, c1, c2, c3, c4, c5, c6], _ => exact ⟨c0, c1, c2, c3, c4, c5, c6, rfl⟩
theorem nd_of_trod {H : Type} {enc : TypeId × Value → H} {w : World} {base : Nat} {spare : Nat → Bool} {held : Bool} {fuel : Nat} {cs : List Value} {x : DataW H × List MemPlace}
    (h : DataW.trod enc Try.prog w base spare held fuel 222 cs = some x) : ∃ e : Nd, e.ok ∧ cs = e.seven := by
  obtain ⟨xs, n, _, _, hl, hlen, hf⟩ := DataW.trod_struct Try.underlying222 h
  rw [Try.cellsNd] at hl
  obtain ⟨c0, c1, c2, c3, c4, c5, c6, rfl⟩ := list7 hl
  obtain ⟨x0, x1, x2, x3, x4, x5, x6, rfl⟩ := list7 (cs := xs) hlen
  have h0 := hf 0 _ rfl
  have h1 := hf 1 _ rfl
  have h2 := hf 2 _ rfl
  have h3 := hf 3 _ rfl
  have h4 := hf 4 _ rfl
  have h5 := hf 5 _ rfl
  have h6 := hf 6 _ rfl
  simp [Try.cellsStr, Try.cellsU64, Try.cellsI64, Try.cellsBool] at h0 h1 h2 h3 h4 h5 h6
  obtain ⟨a0, e0, _, b0⟩ := DataW.trod_int Try.underlying2 h0
  obtain ⟨a1, e1, _, b1⟩ := DataW.trod_string Try.underlying9 h1
  obtain ⟨a2, e2, _⟩ := DataW.trod_bool Try.underlying4 h2
  obtain ⟨a3, e3, _, b3⟩ := DataW.trod_string Try.underlying9 h3
  obtain ⟨a4, e4, _, b4⟩ := DataW.trod_int Try.underlying81 h4
  obtain ⟨a5, e5, _, b5⟩ := DataW.trod_int Try.underlying81 h5
  obtain ⟨a6, e6, _, b6⟩ := DataW.trod_int Try.underlying2 h6
  simp only [List.cons.injEq, and_true] at e0 e1 e2 e3 e4 e5 e6
  exact ⟨⟨a0, a1, a2, a3, a4, a5, a6⟩, ⟨b1, b3, b0, b4, b5, b6⟩, by rw [e0, e1, e2, e3, e4, e5, e6]⟩

/-- What is read of a slice of cells that came in. -/
def InNds (w : World) (v : Value) (es : List Nd) : Prop :=
  (∃ a cap, v = .slice a 0 cap ∧ es = []) ∨
  ∃ b off cap, v = .slice (some ⟨b, off, none⟩) es.length cap ∧ NdsAt w b off es ∧ b < w.heap.size ∧ es.length ≤ cap ∧ cap ≤ maxLen
theorem InNds.below {B : Nat} {w w' : World} {v : Value} {es : List Nd} (h : InNds w v es) (hb : Below B w w') (hB : w.heap.size ≤ B) : InNds w' v es := by
  rcases h with h | ⟨b, off, cap, hv, hE, hlt, h1, h2⟩
  · exact .inl h
  · exact .inr ⟨b, off, cap, hv, hE.below hb (by omega), by have := hb.size; omega, h1, h2⟩
theorem made_zeroN (n : Nat) : (madeCells #[.int .i64 0, .string ⟨#[]⟩, .bool false, .string ⟨#[]⟩, .int .u64 0, .int .u64 0, .int .i64 0] (n * 7)).toList = cellsN (List.replicate n zeroN) := by
  apply List.ext_getElem?
  intro j
  by_cases hj : j < n * 7
  · have h := cellsN_get (List.replicate n zeroN) (j / 7) zeroN (by rw [List.getElem?_replicate, if_pos (by omega)]) (j % 7) (Nat.mod_lt _ (by omega))
    rw [show j / 7 * 7 + j % 7 = j by omega] at h
    rw [h]
    have h6 : j % 7 < 7 := Nat.mod_lt _ (by omega)
    simp [madeCells, hj]
    generalize j % 7 = m at *
    match m, h6 with
    | 0, _ => rfl
    | 1, _ => rfl
    | 2, _ => rfl
    | 3, _ => rfl
    | 4, _ => rfl
    | 5, _ => rfl
    | 6, _ => rfl
  · have h1 : (cellsN (List.replicate n zeroN)).length ≤ j := by rw [length_cellsN, List.length_replicate]; omega
    rw [List.getElem?_eq_none h1]
    simp [madeCells, hj]
theorem InNds.own {w : World} {base g n cap : Nat} {es : List Nd} (h : OwnNd w base g cap es) (hn : n = es.length) : InNds w (.slice (some ⟨g, 0, none⟩) n cap) es := by
  subst hn
  exact .inr ⟨g, 0, cap, rfl, h.at, h.lt.2, h.caps.1, h.caps.2⟩
end Go.Proofs.Ytlgeffinhbodeae

/-
  Instructions of code in memory, eleven cells each: szIns, toIns, eqIns.
-/
namespace Go.Proofs.Ytlgeffinhbodeae
open Go.ChangeShapes Go.WideShapes Go.ChangeAt Go.RowKit Go.Deep
set_option linter.unusedVariables false
set_option linter.unusedSimpArgs false
set_option maxRecDepth 100000

structure Ix where
  op : Int
  a : Int
  b : Int
  free : Bool
  leaf : Nd
structure Ix.ok (e : Ix) : Prop where
  op : (Lit.int .i64 e.op).wf = true
  a : (Lit.int .i64 e.a).wf = true
  b : (Lit.int .i64 e.b).wf = true
  leaf : e.leaf.ok
abbrev Ix.ten (e : Ix) : List Value := [.int .i64 e.op, .int .i64 e.a, .int .i64 e.b, .bool e.free, .int .i64 e.leaf.kind, .string e.leaf.s, .bool e.leaf.hi, .string e.leaf.t, .int .u64 e.leaf.lo, .int .u64 e.leaf.up, .int .i64 e.leaf.n]
abbrev Ix.v (e : Ix) : Value := .agg #[.int .i64 e.op, .int .i64 e.a, .int .i64 e.b, .bool e.free, .int .i64 e.leaf.kind, .string e.leaf.s, .bool e.leaf.hi, .string e.leaf.t, .int .u64 e.leaf.lo, .int .u64 e.leaf.up, .int .i64 e.leaf.n]
def zeroI : Ix := ⟨0, 0, 0, false, zeroN⟩
def cellsX (es : List Ix) : List Value := es.flatMap Ix.ten
theorem cellsX_cons (e : Ix) (es : List Ix) : cellsX (e :: es) = e.ten ++ cellsX es := by simp [cellsX]
theorem length_cellsX (es : List Ix) : (cellsX es).length = es.length * 11 := by
  induction es with
  | nil => rfl
  | cons e es ih => rw [cellsX_cons, List.length_append, ih]; simp; omega
theorem cellsX_get (es : List Ix) : ∀ (k : Nat) (e : Ix), es[k]? = some e → ∀ j, j < 11 → (cellsX es)[k * 11 + j]? = e.ten[j]? := by
  induction es with
  | nil => intro k e h; simp at h
  | cons f es ih =>
    intro k e h j hj
    rw [cellsX_cons]
    cases k with
    | zero =>
      simp at h; subst h
      rw [List.getElem?_append_left (by show 0 * 11 + j < 11; omega)]
      simp
    | succ k =>
      simp at h
      rw [List.getElem?_append_right (by show 11 ≤ (k + 1) * 11 + j; omega)]
      have : (k + 1) * 11 + j - f.ten.length = k * 11 + j := by show (k + 1) * 11 + j - 11 = _; omega
      rw [this]; exact ih k e h j hj
theorem cellsX_set (es : List Ix) : ∀ (k : Nat) (e e' : Ix) (u : Value) (j : Nat), es[k]? = some e → j < 11 → e'.ten = e.ten.set j u → (cellsX es).set (k * 11 + j) u = cellsX (es.set k e') := by
  induction es with
  | nil => intro k e e' u j h; simp at h
  | cons f es ih =>
    intro k e e' u j h hj hc
    rw [cellsX_cons]
    cases k with
    | zero =>
      simp at h; subst h
      rw [List.set_append_left _ _ (by show 0 * 11 + j < 11; omega), List.set_cons_zero, cellsX_cons, hc]
      simp
    | succ k =>
      simp at h
      rw [List.set_append_right _ _ (by show 11 ≤ (k + 1) * 11 + j; omega), List.set_cons_succ, cellsX_cons]
      have : (k + 1) * 11 + j - f.ten.length = k * 11 + j := by show (k + 1) * 11 + j - 11 = _; omega
      rw [this, ih k e e' u j h hj hc]

/-- The instructions 'es' lie at ⟨b, off⟩, eleven cells each. -/
def IxsAt (w : World) (b off : Nat) (es : List Ix) : Prop :=
  ∀ i e, es[i]? = some e → w.cell? ⟨b, off + i * 11, none⟩ = some (.int .i64 e.op) ∧ w.cell? ⟨b, off + i * 11 + 1, none⟩ = some (.int .i64 e.a) ∧ w.cell? ⟨b, off + i * 11 + 2, none⟩ = some (.int .i64 e.b) ∧ w.cell? ⟨b, off + i * 11 + 3, none⟩ = some (.bool e.free) ∧ w.cell? ⟨b, off + i * 11 + 4, none⟩ = some (.int .i64 e.leaf.kind) ∧ w.cell? ⟨b, off + i * 11 + 5, none⟩ = some (.string e.leaf.s) ∧ w.cell? ⟨b, off + i * 11 + 6, none⟩ = some (.bool e.leaf.hi) ∧ w.cell? ⟨b, off + i * 11 + 7, none⟩ = some (.string e.leaf.t) ∧ w.cell? ⟨b, off + i * 11 + 8, none⟩ = some (.int .u64 e.leaf.lo) ∧ w.cell? ⟨b, off + i * 11 + 9, none⟩ = some (.int .u64 e.leaf.up) ∧ w.cell? ⟨b, off + i * 11 + 10, none⟩ = some (.int .i64 e.leaf.n)
theorem IxsAt.below {B : Nat} {w w' : World} {b off : Nat} {es : List Ix} (h : IxsAt w b off es) (hb : Below B w w') (hlt : b < B) : IxsAt w' b off es := by
  intro i e he
  have := h i e he
  refine ⟨?_, ?_, ?_, ?_, ?_, ?_, ?_, ?_, ?_, ?_, ?_⟩
  all_goals rw [hb.cell (by exact hlt)]
  · exact this.1
  · exact this.2.1
  · exact this.2.2.1
  · exact this.2.2.2.1
  · exact this.2.2.2.2.1
  · exact this.2.2.2.2.2.1
  · exact this.2.2.2.2.2.2.1
  · exact this.2.2.2.2.2.2.2.1
  · exact this.2.2.2.2.2.2.2.2.1
  · exact this.2.2.2.2.2.2.2.2.2.1
  · exact this.2.2.2.2.2.2.2.2.2.2
theorem IxsAt.chg {S : Nat → Prop} {w w' : World} {b off : Nat} {es : List Ix} (h : IxsAt w b off es) (hb : Chg S w w') (hlt : b < w.heap.size) (hn : ¬ S b) : IxsAt w' b off es := by
  intro i e he
  have := h i e he
  refine ⟨?_, ?_, ?_, ?_, ?_, ?_, ?_, ?_, ?_, ?_, ?_⟩
  all_goals rw [hb.cell (by exact hlt) (by exact hn)]
  · exact this.1
  · exact this.2.1
  · exact this.2.2.1
  · exact this.2.2.2.1
  · exact this.2.2.2.2.1
  · exact this.2.2.2.2.2.1
  · exact this.2.2.2.2.2.2.1
  · exact this.2.2.2.2.2.2.2.1
  · exact this.2.2.2.2.2.2.2.2.1
  · exact this.2.2.2.2.2.2.2.2.2.1
  · exact this.2.2.2.2.2.2.2.2.2.2
/-- A row of the call's own holds the instructions 'es'. -/
def OwnX (w : World) (base g cap : Nat) (es : List Ix) : Prop := w.ownsRow base 175 11 (.slice (some ⟨g, 0, none⟩) es.length cap) es.length (cellsX es)
theorem OwnX.at {w : World} {base g cap : Nat} {es : List Ix} (h : OwnX w base g cap es) : IxsAt w g 0 es := by
  intro i e he
  have hi : i < es.length := (List.getElem?_eq_some_iff.1 he).1
  have c := fun j (hj : j < 11) => (World.ownsRow.cellAt h (i * 11 + j) (by omega)).trans (cellsX_get es i e he j hj)
  refine ⟨?_, ?_, ?_, ?_, ?_, ?_, ?_, ?_, ?_, ?_, ?_⟩
  · simpa using c 0 (by omega)
  · simpa using c 1 (by omega)
  · simpa using c 2 (by omega)
  · simpa using c 3 (by omega)
  · simpa using c 4 (by omega)
  · simpa using c 5 (by omega)
  · simpa using c 6 (by omega)
  · simpa using c 7 (by omega)
  · simpa using c 8 (by omega)
  · simpa using c 9 (by omega)
  · simpa using c 10 (by omega)
theorem OwnX.lt {w : World} {base g cap : Nat} {es : List Ix} (h : OwnX w base g cap es) : base ≤ g ∧ g < w.heap.size := World.ownsRow.lt h g rfl
theorem OwnX.below {B : Nat} {w w' : World} {base g cap : Nat} {es : List Ix} (h : OwnX w base g cap es) (hb : Below B w w') (hg : g < B) : OwnX w' base g cap es := by
  refine ⟨h.1, ?_⟩
  rcases h.2 with hn | ⟨g', cap', cur, hv, h1, h2, rest⟩
  · exact .inl hn
  · simp only [Value.slice.injEq, Option.some.injEq, Addr.mk.injEq, and_true, true_and] at hv
    obtain ⟨rfl, rfl⟩ := hv
    exact .inr ⟨g, cap, cur, rfl, h1, by rw [hb.block g hg]; exact h2, rest⟩
theorem OwnX.caps {w : World} {base g cp : Nat} {R : List Ix} (h : OwnX w base g cp R) : R.length ≤ cp ∧ cp ≤ maxLen := by
  rcases h.2 with ⟨h0, _⟩ | ⟨g', cap', cur, hv, _, _, hn, hcap, _, _⟩
  · cases h0
  · simp only [Value.slice.injEq, Option.some.injEq, Addr.mk.injEq, and_true, true_and] at hv
    obtain ⟨rfl, rfl⟩ := hv
    exact ⟨hn, hcap⟩
theorem OwnX.set {w : World} {base g cap : Nat} {es : List Ix} (h : OwnX w base g cap es) (k j : Nat) (e e' : Ix) (u : Value) (hk : es[k]? = some e) (hj : j < 11) (hc : e'.ten = e.ten.set j u) :
    OwnX (w.setCell ⟨g, k * 11 + j, none⟩ u) base g cap (es.set k e') := by
  have := (World.ownsRow.stored h (k * 11 + j) u).1
  rw [cellsX_set es k e e' u j hk hj hc] at this
  unfold OwnX
  rw [List.length_set]
  exact this
theorem Try.infoX : (Try.prog.info? 175).map (fun i => (i.zero, i.size, i.bytes)) = some (some (.agg #[.int .i64 0, .int .i64 0, .int .i64 0, .bool false, .int .i64 0, .string ⟨#[]⟩, .bool false, .string ⟨#[]⟩, .int .u64 0, .int .u64 0, .int .i64 0]), 11, 104) := by kernel_rfl
theorem OwnX.put {w : World} {base g cap : Nat} {es : List Ix} (h : OwnX w base g cap es) (k : Nat) (f e : Ix) (hk : es[k]? = some f) :
    OwnX (((((((((((w.setCell ⟨g, k * 11, none⟩ (.int .i64 e.op)).setCell ⟨g, k * 11 + 1, none⟩ (.int .i64 e.a)).setCell ⟨g, k * 11 + 2, none⟩ (.int .i64 e.b)).setCell ⟨g, k * 11 + 3, none⟩ (.bool e.free)).setCell ⟨g, k * 11 + 4, none⟩ (.int .i64 e.leaf.kind)).setCell ⟨g, k * 11 + 5, none⟩ (.string e.leaf.s)).setCell ⟨g, k * 11 + 6, none⟩ (.bool e.leaf.hi)).setCell ⟨g, k * 11 + 7, none⟩ (.string e.leaf.t)).setCell ⟨g, k * 11 + 8, none⟩ (.int .u64 e.leaf.lo)).setCell ⟨g, k * 11 + 9, none⟩ (.int .u64 e.leaf.up)).setCell ⟨g, k * 11 + 10, none⟩ (.int .i64 e.leaf.n)) base g cap (es.set k e) := by
  have hlt : k < es.length := (List.getElem?_eq_some_iff.1 hk).1
  have g1 := h.set k 0 f ({ f with op := e.op }) (.int .i64 e.op) hk (by omega) rfl
  have g2 := g1.set k 1 ({ f with op := e.op }) ({ f with op := e.op, a := e.a }) (.int .i64 e.a) (by simp [hlt]) (by omega) rfl
  have g3 := g2.set k 2 ({ f with op := e.op, a := e.a }) ({ f with op := e.op, a := e.a, b := e.b }) (.int .i64 e.b) (by simp [hlt]) (by omega) rfl
  have g4 := g3.set k 3 ({ f with op := e.op, a := e.a, b := e.b }) ({ f with op := e.op, a := e.a, b := e.b, free := e.free }) (.bool e.free) (by simp [hlt]) (by omega) rfl
  have g5 := g4.set k 4 ({ f with op := e.op, a := e.a, b := e.b, free := e.free }) ({ f with op := e.op, a := e.a, b := e.b, free := e.free, leaf := { f.leaf with kind := e.leaf.kind } }) (.int .i64 e.leaf.kind) (by simp [hlt]) (by omega) rfl
  have g6 := g5.set k 5 ({ f with op := e.op, a := e.a, b := e.b, free := e.free, leaf := { f.leaf with kind := e.leaf.kind } }) ({ f with op := e.op, a := e.a, b := e.b, free := e.free, leaf := { f.leaf with kind := e.leaf.kind, s := e.leaf.s } }) (.string e.leaf.s) (by simp [hlt]) (by omega) rfl
  have g7 := g6.set k 6 ({ f with op := e.op, a := e.a, b := e.b, free := e.free, leaf := { f.leaf with kind := e.leaf.kind, s := e.leaf.s } }) ({ f with op := e.op, a := e.a, b := e.b, free := e.free, leaf := { f.leaf with kind := e.leaf.kind, s := e.leaf.s, hi := e.leaf.hi } }) (.bool e.leaf.hi) (by simp [hlt]) (by omega) rfl
  have g8 := g7.set k 7 ({ f with op := e.op, a := e.a, b := e.b, free := e.free, leaf := { f.leaf with kind := e.leaf.kind, s := e.leaf.s, hi := e.leaf.hi } }) ({ f with op := e.op, a := e.a, b := e.b, free := e.free, leaf := { f.leaf with kind := e.leaf.kind, s := e.leaf.s, hi := e.leaf.hi, t := e.leaf.t } }) (.string e.leaf.t) (by simp [hlt]) (by omega) rfl
  have g9 := g8.set k 8 ({ f with op := e.op, a := e.a, b := e.b, free := e.free, leaf := { f.leaf with kind := e.leaf.kind, s := e.leaf.s, hi := e.leaf.hi, t := e.leaf.t } }) ({ f with op := e.op, a := e.a, b := e.b, free := e.free, leaf := { f.leaf with kind := e.leaf.kind, s := e.leaf.s, hi := e.leaf.hi, t := e.leaf.t, lo := e.leaf.lo } }) (.int .u64 e.leaf.lo) (by simp [hlt]) (by omega) rfl
  have g10 := g9.set k 9 ({ f with op := e.op, a := e.a, b := e.b, free := e.free, leaf := { f.leaf with kind := e.leaf.kind, s := e.leaf.s, hi := e.leaf.hi, t := e.leaf.t, lo := e.leaf.lo } }) ({ f with op := e.op, a := e.a, b := e.b, free := e.free, leaf := { f.leaf with kind := e.leaf.kind, s := e.leaf.s, hi := e.leaf.hi, t := e.leaf.t, lo := e.leaf.lo, up := e.leaf.up } }) (.int .u64 e.leaf.up) (by simp [hlt]) (by omega) rfl
  have g11 := g10.set k 10 ({ f with op := e.op, a := e.a, b := e.b, free := e.free, leaf := { f.leaf with kind := e.leaf.kind, s := e.leaf.s, hi := e.leaf.hi, t := e.leaf.t, lo := e.leaf.lo, up := e.leaf.up } }) e (.int .i64 e.leaf.n) (by simp [hlt]) (by omega) rfl
  simpa only [List.set_set, Nat.add_zero] using g11
theorem takeX_succ {es fs : List Ix} {k : Nat} {e : Ix} (h : fs.take k = es.take k) (hl : fs.length = es.length) (he : es[k]? = some e) : (fs.set k e).take (k + 1) = es.take (k + 1) := by
  have hlt : k < es.length := (List.getElem?_eq_some_iff.1 he).1
  rw [List.take_set, List.take_add_one, List.take_add_one (l := es), he, List.getElem?_eq_getElem (by omega), h]
  simp only [Option.toList]
  rw [List.set_append_right _ _ (by simp; omega)]
  simp
  rw [show k - min k es.length = 0 by omega]
  rfl

set_option maxHeartbeats 400000 in
theorem szIns_core (e : Ix) (left : Int) (w : World) (ho : e.ok) (h0 : 0 ≤ left) (h1 : left ≤ 2 ^ 40) :
    Calls Try.prog 145 #[e.v, .int .i64 left] w fun r w' => ∃ x, r = .returned (.int .i64 x) ∧ (x = -1 ∨ (0 ≤ x ∧ x ≤ left)) ∧ Below w.heap.size w w' := by
  go_enter Try.func145, Try.ntmps145
  go_wp2_with fail
  refine (szNode_core e.leaf left _ ho.leaf h0 h1).mono ?_
  rintro r w1 ⟨x, rfl, hx, hb1⟩
  have k1 : Below w.heap.size w w1 := ((Below.refl _ _).alloc (Nat.le_refl _) (Obj.cells #[.int .i64 e.op, .int .i64 e.a, .int .i64 e.b, .bool e.free, .int .i64 e.leaf.kind, .string e.leaf.s, .bool e.leaf.hi, .string e.leaf.t, .int .u64 e.leaf.lo, .int .u64 e.leaf.up, .int .i64 e.leaf.n] 224)).trans (hb1.mono (by simp))
  have HX : Hid (x = -1 ∨ (0 ≤ x ∧ x ≤ left)) := by
    show _ ∨ _
    omega
  by_cases hx0 : x < 0
  · clear hx
    go_wp2_with fail
    go_ret
    exact ⟨_, rfl, .inl rfl, k1⟩
  · clear hx
    go_wp2_with fail
    go_ret
    exact ⟨_, rfl, HX.out, k1⟩
theorem below_put11 {B : Nat} {a w : World} (h : Below B a w) {g : Nat} (hg : B ≤ g) (o0 o1 o2 o3 o4 o5 o6 o7 o8 o9 o10 : Nat) (v0 v1 v2 v3 v4 v5 v6 v7 v8 v9 v10 : Value) :
    Below B a (((((((((((w.setCell ⟨g, o0, none⟩ v0).setCell ⟨g, o1, none⟩ v1).setCell ⟨g, o2, none⟩ v2).setCell ⟨g, o3, none⟩ v3).setCell ⟨g, o4, none⟩ v4).setCell ⟨g, o5, none⟩ v5).setCell ⟨g, o6, none⟩ v6).setCell ⟨g, o7, none⟩ v7).setCell ⟨g, o8, none⟩ v8).setCell ⟨g, o9, none⟩ v9).setCell ⟨g, o10, none⟩ v10) :=
  ((((((((((h.setCell hg _).setCell hg _).setCell hg _).setCell hg _).setCell hg _).setCell hg _).setCell hg _).setCell hg _).setCell hg _).setCell hg _).setCell hg _
set_option maxHeartbeats 2000000 in
theorem toIns_core (e : Ix) (w : World) : Calls Try.prog 148 #[e.v] w fun r w' => r = .returned e.v ∧ Below w.heap.size w w' := by
  obtain ⟨W0, hW0⟩ : ∃ W0 : World, W0 = ((w.alloc (Obj.cells #[.int .i64 e.op, .int .i64 e.a, .int .i64 e.b, .bool e.free, .int .i64 e.leaf.kind, .string e.leaf.s, .bool e.leaf.hi, .string e.leaf.t, .int .u64 e.leaf.lo, .int .u64 e.leaf.up, .int .i64 e.leaf.n] 224)).alloc (Obj.cells #[.int .i64 0, .int .i64 0, .int .i64 0, .bool false, .int .i64 0, .string ⟨#[]⟩, .bool false, .string ⟨#[]⟩, .int .u64 0, .int .u64 0, .int .i64 0] 175)).alloc (Obj.cells #[.int .i64 e.op, .int .i64 e.a, .int .i64 e.b, .bool e.free, .int .i64 0, .string ⟨#[]⟩, .bool false, .string ⟨#[]⟩, .int .u64 0, .int .u64 0, .int .i64 0] 175) := ⟨_, rfl⟩
  have hb0 : Below w.heap.size w W0 := by rw [hW0]; exact (((Below.refl _ _).alloc (Nat.le_refl _) _).alloc (by simp) _).alloc (by simp; omega) _
  have hz0 : W0.heap.size = w.heap.size + 1 + 1 + 1 := by rw [hW0]; simp
  have HA : Hid (W0.cell? ⟨w.heap.size, 4, none⟩ = some (.int .i64 e.leaf.kind) ∧ W0.cell? ⟨w.heap.size, 5, none⟩ = some (.string e.leaf.s) ∧ W0.cell? ⟨w.heap.size, 6, none⟩ = some (.bool e.leaf.hi) ∧ W0.cell? ⟨w.heap.size, 7, none⟩ = some (.string e.leaf.t) ∧ W0.cell? ⟨w.heap.size, 8, none⟩ = some (.int .u64 e.leaf.lo) ∧ W0.cell? ⟨w.heap.size, 9, none⟩ = some (.int .u64 e.leaf.up) ∧ W0.cell? ⟨w.heap.size, 10, none⟩ = some (.int .i64 e.leaf.n)) := by
    rw [hW0]
    refine ⟨?_, ?_, ?_, ?_, ?_, ?_, ?_⟩ <;> simp [go_sem]
  have HB : Hid (W0.cell? ⟨w.heap.size + 1 + 1, 0, none⟩ = some (.int .i64 e.op) ∧ W0.cell? ⟨w.heap.size + 1 + 1, 1, none⟩ = some (.int .i64 e.a) ∧ W0.cell? ⟨w.heap.size + 1 + 1, 2, none⟩ = some (.int .i64 e.b) ∧ W0.cell? ⟨w.heap.size + 1 + 1, 3, none⟩ = some (.bool e.free) ∧ W0.cell? ⟨w.heap.size + 1 + 1, 4, none⟩ = some (.int .i64 0) ∧ W0.cell? ⟨w.heap.size + 1 + 1, 5, none⟩ = some (.string ⟨#[]⟩) ∧ W0.cell? ⟨w.heap.size + 1 + 1, 6, none⟩ = some (.bool false) ∧ W0.cell? ⟨w.heap.size + 1 + 1, 7, none⟩ = some (.string ⟨#[]⟩) ∧ W0.cell? ⟨w.heap.size + 1 + 1, 8, none⟩ = some (.int .u64 0) ∧ W0.cell? ⟨w.heap.size + 1 + 1, 9, none⟩ = some (.int .u64 0) ∧ W0.cell? ⟨w.heap.size + 1 + 1, 10, none⟩ = some (.int .i64 0) ∧ ∀ j, W0.frozen? ⟨w.heap.size + 1 + 1, j, none⟩ = false) := by
    rw [hW0]
    refine ⟨?_, ?_, ?_, ?_, ?_, ?_, ?_, ?_, ?_, ?_, ?_, fun j => ?_⟩ <;> simp [go_sem]
  have HC : Hid (W0.cell? ⟨w.heap.size + 1, 0, none⟩ = some (.int .i64 0) ∧ W0.cell? ⟨w.heap.size + 1, 1, none⟩ = some (.int .i64 0) ∧ W0.cell? ⟨w.heap.size + 1, 2, none⟩ = some (.int .i64 0) ∧ W0.cell? ⟨w.heap.size + 1, 3, none⟩ = some (.bool false) ∧ W0.cell? ⟨w.heap.size + 1, 4, none⟩ = some (.int .i64 0) ∧ W0.cell? ⟨w.heap.size + 1, 5, none⟩ = some (.string ⟨#[]⟩) ∧ W0.cell? ⟨w.heap.size + 1, 6, none⟩ = some (.bool false) ∧ W0.cell? ⟨w.heap.size + 1, 7, none⟩ = some (.string ⟨#[]⟩) ∧ W0.cell? ⟨w.heap.size + 1, 8, none⟩ = some (.int .u64 0) ∧ W0.cell? ⟨w.heap.size + 1, 9, none⟩ = some (.int .u64 0) ∧ W0.cell? ⟨w.heap.size + 1, 10, none⟩ = some (.int .i64 0) ∧ ∀ j, W0.frozen? ⟨w.heap.size + 1, j, none⟩ = false) := by
    rw [hW0]
    refine ⟨?_, ?_, ?_, ?_, ?_, ?_, ?_, ?_, ?_, ?_, ?_, fun j => ?_⟩ <;> simp [go_sem]
  go_enter Try.func148, Try.ntmps148
  go_upto_region 6 with fail
  rw [← hW0]
  clear hW0
  obtain ⟨a4, a5, a6, a7, a8, a9, a10⟩ := HA.out
  go_wp2_with fail
  refine (toNode_core e.leaf _).mono ?_
  rintro r w1 ⟨rfl, hb1⟩
  clear a4 a5 a6 a7 a8 a9 a10
  have k1 : Below w.heap.size w w1 := hb0.trans (hb1.mono (by omega))
  have hp : ∀ b o, b < W0.heap.size → w1.cell? ⟨b, o, none⟩ = W0.cell? ⟨b, o, none⟩ := fun b o h => hb1.cell (p := ⟨b, o, none⟩) h
  have HC1 : Hid (w1.cell? ⟨w.heap.size + 1, 0, none⟩ = some (.int .i64 0) ∧ w1.cell? ⟨w.heap.size + 1, 1, none⟩ = some (.int .i64 0) ∧ w1.cell? ⟨w.heap.size + 1, 2, none⟩ = some (.int .i64 0) ∧ w1.cell? ⟨w.heap.size + 1, 3, none⟩ = some (.bool false) ∧ w1.cell? ⟨w.heap.size + 1, 4, none⟩ = some (.int .i64 0) ∧ w1.cell? ⟨w.heap.size + 1, 5, none⟩ = some (.string ⟨#[]⟩) ∧ w1.cell? ⟨w.heap.size + 1, 6, none⟩ = some (.bool false) ∧ w1.cell? ⟨w.heap.size + 1, 7, none⟩ = some (.string ⟨#[]⟩) ∧ w1.cell? ⟨w.heap.size + 1, 8, none⟩ = some (.int .u64 0) ∧ w1.cell? ⟨w.heap.size + 1, 9, none⟩ = some (.int .u64 0) ∧ w1.cell? ⟨w.heap.size + 1, 10, none⟩ = some (.int .i64 0) ∧ ∀ j, w1.frozen? ⟨w.heap.size + 1, j, none⟩ = false) := by
    obtain ⟨b0, b1, b2, b3, b4, b5, b6, b7, b8, b9, b10, bf⟩ := HC.out
    exact ⟨(hp _ _ (by omega)).trans b0, (hp _ _ (by omega)).trans b1, (hp _ _ (by omega)).trans b2, (hp _ _ (by omega)).trans b3, (hp _ _ (by omega)).trans b4, (hp _ _ (by omega)).trans b5, (hp _ _ (by omega)).trans b6, (hp _ _ (by omega)).trans b7, (hp _ _ (by omega)).trans b8, (hp _ _ (by omega)).trans b9, (hp _ _ (by omega)).trans b10, fun j => by rw [hb1.frozen (p := ⟨w.heap.size + 1, j, none⟩) (by show w.heap.size + 1 < _; omega)]; exact bf j⟩
  obtain ⟨b0, b1, b2, b3, b4, b5, b6, b7, b8, b9, b10, bf⟩ : w1.cell? ⟨w.heap.size + 1 + 1, 0, none⟩ = some (.int .i64 e.op) ∧ w1.cell? ⟨w.heap.size + 1 + 1, 1, none⟩ = some (.int .i64 e.a) ∧ w1.cell? ⟨w.heap.size + 1 + 1, 2, none⟩ = some (.int .i64 e.b) ∧ w1.cell? ⟨w.heap.size + 1 + 1, 3, none⟩ = some (.bool e.free) ∧ w1.cell? ⟨w.heap.size + 1 + 1, 4, none⟩ = some (.int .i64 0) ∧ w1.cell? ⟨w.heap.size + 1 + 1, 5, none⟩ = some (.string ⟨#[]⟩) ∧ w1.cell? ⟨w.heap.size + 1 + 1, 6, none⟩ = some (.bool false) ∧ w1.cell? ⟨w.heap.size + 1 + 1, 7, none⟩ = some (.string ⟨#[]⟩) ∧ w1.cell? ⟨w.heap.size + 1 + 1, 8, none⟩ = some (.int .u64 0) ∧ w1.cell? ⟨w.heap.size + 1 + 1, 9, none⟩ = some (.int .u64 0) ∧ w1.cell? ⟨w.heap.size + 1 + 1, 10, none⟩ = some (.int .i64 0) ∧ ∀ j, w1.frozen? ⟨w.heap.size + 1 + 1, j, none⟩ = false := by
    obtain ⟨b0, b1, b2, b3, b4, b5, b6, b7, b8, b9, b10, bf⟩ := HB.out
    exact ⟨(hp _ _ (by omega)).trans b0, (hp _ _ (by omega)).trans b1, (hp _ _ (by omega)).trans b2, (hp _ _ (by omega)).trans b3, (hp _ _ (by omega)).trans b4, (hp _ _ (by omega)).trans b5, (hp _ _ (by omega)).trans b6, (hp _ _ (by omega)).trans b7, (hp _ _ (by omega)).trans b8, (hp _ _ (by omega)).trans b9, (hp _ _ (by omega)).trans b10, fun j => by rw [hb1.frozen (p := ⟨w.heap.size + 1 + 1, j, none⟩) (by show w.heap.size + 1 + 1 < _; omega)]; exact bf j⟩
  clear hp
  go_upto_region 7 with fail
  obtain ⟨W7, hW7⟩ : ∃ W7 : World, W7 = (((((((w1.setCell ⟨w.heap.size + 1 + 1, 4, none⟩ (.int .i64 e.leaf.kind)).setCell ⟨w.heap.size + 1 + 1, 5, none⟩ (.string e.leaf.s)).setCell ⟨w.heap.size + 1 + 1, 6, none⟩ (.bool e.leaf.hi)).setCell ⟨w.heap.size + 1 + 1, 7, none⟩ (.string e.leaf.t)).setCell ⟨w.heap.size + 1 + 1, 8, none⟩ (.int .u64 e.leaf.lo)).setCell ⟨w.heap.size + 1 + 1, 9, none⟩ (.int .u64 e.leaf.up)).setCell ⟨w.heap.size + 1 + 1, 10, none⟩ (.int .i64 e.leaf.n)) := ⟨_, rfl⟩
  have k7 : Below w.heap.size w W7 := by
    rw [hW7]
    exact ((((((k1.setCell (by show _ ≤ w.heap.size + 1 + 1; omega) _).setCell (by show _ ≤ w.heap.size + 1 + 1; omega) _).setCell (by show _ ≤ w.heap.size + 1 + 1; omega) _).setCell (by show _ ≤ w.heap.size + 1 + 1; omega) _).setCell (by show _ ≤ w.heap.size + 1 + 1; omega) _).setCell (by show _ ≤ w.heap.size + 1 + 1; omega) _).setCell (by show _ ≤ w.heap.size + 1 + 1; omega) _
  have HB7 : Hid (W7.cell? ⟨w.heap.size + 1 + 1, 0, none⟩ = some (.int .i64 e.op) ∧ W7.cell? ⟨w.heap.size + 1 + 1, 1, none⟩ = some (.int .i64 e.a) ∧ W7.cell? ⟨w.heap.size + 1 + 1, 2, none⟩ = some (.int .i64 e.b) ∧ W7.cell? ⟨w.heap.size + 1 + 1, 3, none⟩ = some (.bool e.free) ∧ W7.cell? ⟨w.heap.size + 1 + 1, 4, none⟩ = some (.int .i64 e.leaf.kind) ∧ W7.cell? ⟨w.heap.size + 1 + 1, 5, none⟩ = some (.string e.leaf.s) ∧ W7.cell? ⟨w.heap.size + 1 + 1, 6, none⟩ = some (.bool e.leaf.hi) ∧ W7.cell? ⟨w.heap.size + 1 + 1, 7, none⟩ = some (.string e.leaf.t) ∧ W7.cell? ⟨w.heap.size + 1 + 1, 8, none⟩ = some (.int .u64 e.leaf.lo) ∧ W7.cell? ⟨w.heap.size + 1 + 1, 9, none⟩ = some (.int .u64 e.leaf.up) ∧ W7.cell? ⟨w.heap.size + 1 + 1, 10, none⟩ = some (.int .i64 e.leaf.n)) := by
    rw [hW7]
    refine ⟨?_, ?_, ?_, ?_, ?_, ?_, ?_, ?_, ?_, ?_, ?_⟩ <;> simp [go_sem, b0, b1, b2, b3, b4, b5, b6, b7, b8, b9, b10]
  have HC7 : Hid (W7.cell? ⟨w.heap.size + 1, 0, none⟩ = some (.int .i64 0) ∧ W7.cell? ⟨w.heap.size + 1, 1, none⟩ = some (.int .i64 0) ∧ W7.cell? ⟨w.heap.size + 1, 2, none⟩ = some (.int .i64 0) ∧ W7.cell? ⟨w.heap.size + 1, 3, none⟩ = some (.bool false) ∧ W7.cell? ⟨w.heap.size + 1, 4, none⟩ = some (.int .i64 0) ∧ W7.cell? ⟨w.heap.size + 1, 5, none⟩ = some (.string ⟨#[]⟩) ∧ W7.cell? ⟨w.heap.size + 1, 6, none⟩ = some (.bool false) ∧ W7.cell? ⟨w.heap.size + 1, 7, none⟩ = some (.string ⟨#[]⟩) ∧ W7.cell? ⟨w.heap.size + 1, 8, none⟩ = some (.int .u64 0) ∧ W7.cell? ⟨w.heap.size + 1, 9, none⟩ = some (.int .u64 0) ∧ W7.cell? ⟨w.heap.size + 1, 10, none⟩ = some (.int .i64 0) ∧ ∀ j, W7.frozen? ⟨w.heap.size + 1, j, none⟩ = false) := by
    obtain ⟨d0, d1, d2, d3, d4, d5, d6, d7, d8, d9, d10, df⟩ := HC1.out
    rw [hW7]
    refine ⟨?_, ?_, ?_, ?_, ?_, ?_, ?_, ?_, ?_, ?_, ?_, fun j => ?_⟩ <;> simp [go_sem, d0, d1, d2, d3, d4, d5, d6, d7, d8, d9, d10, df]
  rw [← hW7]
  clear hW7 b0 b1 b2 b3 b4 b5 b6 b7 b8 b9 b10 bf
  obtain ⟨b0, b1, b2, b3, b4, b5, b6, b7, b8, b9, b10⟩ := HB7.out
  obtain ⟨d0, d1, d2, d3, d4, d5, d6, d7, d8, d9, d10, df⟩ := HC7.out
  go_wp2_with fail
  refine bodyPost_ret (v := e.v) (by simp [results, Try.results148, go_sem, d0, d1, d2, d3, d4, d5, d6, d7, d8, d9, d10]) rfl ⟨rfl, ?_⟩
  exact below_put11 k7 (by omega) _ _ _ _ _ _ _ _ _ _ _ _ _ _ _ _ _ _ _ _ _ _
set_option maxHeartbeats 1000000 in
theorem eqIns_same (e : Ix) (w : World) : Calls Try.prog 151 #[e.v, e.v] w fun r w' => r = .returned (.bool true) ∧ Below w.heap.size w w' := by
  have k0 : Below w.heap.size w ((w.alloc (Obj.cells #[.int .i64 e.op, .int .i64 e.a, .int .i64 e.b, .bool e.free, .int .i64 e.leaf.kind, .string e.leaf.s, .bool e.leaf.hi, .string e.leaf.t, .int .u64 e.leaf.lo, .int .u64 e.leaf.up, .int .i64 e.leaf.n] 175)).alloc (Obj.cells #[.int .i64 e.op, .int .i64 e.a, .int .i64 e.b, .bool e.free, .int .i64 e.leaf.kind, .string e.leaf.s, .bool e.leaf.hi, .string e.leaf.t, .int .u64 e.leaf.lo, .int .u64 e.leaf.up, .int .i64 e.leaf.n] 175)) := ((Below.refl _ _).alloc (Nat.le_refl _) _).alloc (by simp) _
  go_enter Try.func151, Try.ntmps151
  go_wp2_with fail
  refine (eqNode_same e.leaf _).mono ?_
  rintro r w1 ⟨rfl, hb1⟩
  go_wp2_with fail
  go_ret
  exact ⟨rfl, k0.trans (hb1.mono (by simp; omega))⟩
end Go.Proofs.Ytlgeffinhbodeae

/-
  Instructions that come in: lists of them opened, copied and compared.
-/
namespace Go.Proofs.Ytlgeffinhbodeae
open Go.ChangeShapes Go.WideShapes Go.ChangeAt Go.RowKit Go.Deep
set_option linter.unusedVariables false
set_option linter.unusedSimpArgs false
set_option maxRecDepth 100000

theorem Try.cellsX : Try.prog.cellsOf 224 = 11 := by kernel_rfl
theorem list11 {α : Type} {cs : List α} (h : cs.length = 11) : ∃ c0 c1 c2 c3 c4 c5 c6 c7 c8 c9 c10, cs = [c0, c1, c2, c3, c4, c5, c6, c7, c8, c9, c10] := by
  match cs, h with
  | [c0, c1, c2, c3, c4, c5, c6, c7, c8, c9, c10], _ => exact ⟨c0, c1, c2, c3, c4, c5, c6, c7, c8, c9, c10, rfl⟩
theorem list5x {α : Type} {cs : List α} (h : cs.length = 5) : ∃ c0 c1 c2 c3 c4, cs = [c0, c1, c2, c3, c4] := by
  match cs, h with
  | [c0, c1, c2, c3, c4], _ => exact ⟨c0, c1, c2, c3, c4, rfl⟩
theorem ix_of_trod {H : Type} {enc : TypeId × Value → H} {w : World} {base : Nat} {spare : Nat → Bool} {held : Bool} {fuel : Nat} {cs : List Value} {x : DataW H × List MemPlace}
    (h : DataW.trod enc Try.prog w base spare held fuel 224 cs = some x) : ∃ e : Ix, e.ok ∧ cs = e.ten := by
  obtain ⟨xs, n, _, _, hl, hlen, hf⟩ := DataW.trod_struct Try.underlying224 h
  rw [Try.cellsX] at hl
  obtain ⟨c0, c1, c2, c3, c4, c5, c6, c7, c8, c9, c10, rfl⟩ := list11 hl
  obtain ⟨x0, x1, x2, x3, x4, rfl⟩ := list5x (cs := xs) hlen
  have h0 := hf 0 _ rfl
  have h1 := hf 1 _ rfl
  have h2 := hf 2 _ rfl
  have h3 := hf 3 _ rfl
  have h4 := hf 4 _ rfl
  simp [Try.cellsStr, Try.cellsU64, Try.cellsI64, Try.cellsBool, Try.cellsNd] at h0 h1 h2 h3 h4
  obtain ⟨a0, e0, _, b0⟩ := DataW.trod_int Try.underlying2 h0
  obtain ⟨a1, e1, _, b1⟩ := DataW.trod_int Try.underlying2 h1
  obtain ⟨a2, e2, _, b2⟩ := DataW.trod_int Try.underlying2 h2
  obtain ⟨a3, e3, _⟩ := DataW.trod_bool Try.underlying4 h3
  obtain ⟨e, ok, he⟩ := nd_of_trod h4
  simp only [List.cons.injEq, and_true] at e0 e1 e2 e3 he
  obtain ⟨f0, f1, f2, f3, f4, f5, f6⟩ := he
  exact ⟨⟨a0, a1, a2, a3, e⟩, ⟨b0, b1, b2, ok⟩, by rw [e0, e1, e2, e3, f0, f1, f2, f3, f4, f5, f6]⟩
/-- What is read of a slice of cells that came in. -/
def InIxs (w : World) (v : Value) (es : List Ix) : Prop :=
  (∃ a cap, v = .slice a 0 cap ∧ es = []) ∨
  ∃ b off cap, v = .slice (some ⟨b, off, none⟩) es.length cap ∧ IxsAt w b off es ∧ b < w.heap.size ∧ es.length ≤ cap ∧ cap ≤ maxLen
theorem InIxs.below {B : Nat} {w w' : World} {v : Value} {es : List Ix} (h : InIxs w v es) (hb : Below B w w') (hB : w.heap.size ≤ B) : InIxs w' v es := by
  rcases h with h | ⟨b, off, cap, hv, hE, hlt, h1, h2⟩
  · exact .inl h
  · exact .inr ⟨b, off, cap, hv, hE.below hb (by omega), by have := hb.size; omega, h1, h2⟩
theorem ixs_of_trod {H : Type} {enc : TypeId × Value → H} {w : World} {base : Nat} {held : Bool} {fuel : Nat} {v : Value} {x : DataW H × List MemPlace}
    (h : DataW.trod enc Try.prog w base (fun _ => true) held fuel 44 [v] = some x) : ∃ es : List Ix, InIxs w v es ∧ ∀ e ∈ es, e.ok := by
  rcases open_slice Try.underlying44 h with ⟨hcs, _⟩ | ⟨a, len, cap, m, n, D, Pl, hcs, hba, hl, hm, hmm, _, hel⟩
  · simp only [List.cons.injEq, and_true] at hcs
    exact ⟨[], .inl ⟨none, 0, hcs, rfl⟩, by simp⟩
  · simp only [List.cons.injEq, and_true] at hcs
    subst hcs
    rw [if_pos rfl] at hmm
    subst hmm
    have hel11 : ∀ i, i < m → ∃ cs', w.cells? base (a.add (i * 11)) 11 = some cs' ∧ DataW.trod enc Try.prog w base (fun _ => true) held n 224 cs' = some (D i, Pl i) := fun i hi => by
      have := hel i hi
      rw [Try.cellsX] at this
      exact this
    clear hel
    have HM : Hid (m ≤ maxLen) := hm
    clear hm
    by_cases h0 : len = 0
    · subst h0; exact ⟨[], .inl ⟨_, _, rfl, rfl⟩, by simp⟩
    · obtain ⟨b, off, spot⟩ := a
      have hspot : spot = none := by
        obtain ⟨cs', hc, _⟩ := hel11 0 (by omega)
        obtain ⟨_, hlen, hget⟩ := World.cells?_some hc
        have h1 := hget 0 (by omega)
        have h2 : (w.cell? ((Addr.add ⟨b, off, spot⟩ (0 * 11)).add 0)).isSome = true := by rw [h1]; simp; omega
        obtain ⟨u, hu⟩ := Option.isSome_iff_exists.1 h2
        simpa [Addr.add] using World.cell?_spot hu
      subst hspot
      obtain ⟨es, hes, hp⟩ := list_of_forall (P := fun i (e : Ix) => e.ok ∧ (w.cell? ⟨b, off + i * 11, none⟩ = some (.int .i64 e.op) ∧ w.cell? ⟨b, off + i * 11 + 1, none⟩ = some (.int .i64 e.a) ∧ w.cell? ⟨b, off + i * 11 + 2, none⟩ = some (.int .i64 e.b) ∧ w.cell? ⟨b, off + i * 11 + 3, none⟩ = some (.bool e.free) ∧ w.cell? ⟨b, off + i * 11 + 4, none⟩ = some (.int .i64 e.leaf.kind) ∧ w.cell? ⟨b, off + i * 11 + 5, none⟩ = some (.string e.leaf.s) ∧ w.cell? ⟨b, off + i * 11 + 6, none⟩ = some (.bool e.leaf.hi) ∧ w.cell? ⟨b, off + i * 11 + 7, none⟩ = some (.string e.leaf.t) ∧ w.cell? ⟨b, off + i * 11 + 8, none⟩ = some (.int .u64 e.leaf.lo) ∧ w.cell? ⟨b, off + i * 11 + 9, none⟩ = some (.int .u64 e.leaf.up) ∧ w.cell? ⟨b, off + i * 11 + 10, none⟩ = some (.int .i64 e.leaf.n))) len (fun i hi => by
        obtain ⟨cs', hc, ht⟩ := hel11 i (by omega)
        obtain ⟨e, ok, rfl⟩ := ix_of_trod ht
        obtain ⟨_, hlen, hget⟩ := World.cells?_some hc
        refine ⟨e, ok, ?_, ?_, ?_, ?_, ?_, ?_, ?_, ?_, ?_, ?_, ?_⟩
        · simpa [Addr.add_mid] using hget 0 (by omega)
        · simpa [Addr.add_mid] using hget 1 (by omega)
        · simpa [Addr.add_mid] using hget 2 (by omega)
        · simpa [Addr.add_mid] using hget 3 (by omega)
        · simpa [Addr.add_mid] using hget 4 (by omega)
        · simpa [Addr.add_mid] using hget 5 (by omega)
        · simpa [Addr.add_mid] using hget 6 (by omega)
        · simpa [Addr.add_mid] using hget 7 (by omega)
        · simpa [Addr.add_mid] using hget 8 (by omega)
        · simpa [Addr.add_mid] using hget 9 (by omega)
        · simpa [Addr.add_mid] using hget 10 (by omega))
      have hlt : b < w.heap.size := by
        obtain ⟨cs', hc, _⟩ := hel11 0 (by omega)
        simpa [Addr.add] using World.cells?_block hc (by omega)
      subst hes
      refine ⟨es, .inr ⟨b, off, m, rfl, fun i e he => (hp i e he).2, hlt, hl, HM.out⟩, fun e he => ?_⟩
      obtain ⟨i, hi⟩ := List.getElem?_of_mem he
      exact (hp i e hi).1

set_option maxHeartbeats 400000 in
theorem szInsS_core (b off cap : Nat) (es : List Ix) (left : Int) (w : World) (hE : IxsAt w b off es) (hok : ∀ e ∈ es, e.ok) (hB : b < w.heap.size) (hlen : es.length ≤ cap) (hcap : cap ≤ maxLen) (h0 : 0 ≤ left) (h1 : left ≤ 2 ^ 40) :
    Calls Try.prog 105 #[.slice (some ⟨b, off, none⟩) es.length cap, .int .i64 left] w fun e w' =>
      ∃ x, e = .returned (.int .i64 x) ∧ (x = -1 ∨ (0 ≤ x ∧ x + es.length ≤ left)) ∧ Below w.heap.size w w' := by
  have HE : Hid (IxsAt w b off es) := hE
  have HO : Hid (∀ e ∈ es, e.ok) := hok
  clear hE hok
  unfold maxLen at hcap
  by_cases hle : left < es.length
  · have hle' : left - es.length < 0 := by omega
    go_enter Try.func105, Try.ntmps105
    go_wp2
    go_ret
    exact ⟨_, rfl, .inl rfl, Below.refl _ _⟩
  have hle' : 0 ≤ left - es.length := by omega
  go_enter Try.func105, Try.ntmps105
  go_wp2
  go_loopw [1, 5] (fun l i wr => ∃ (k : Nat) (x : Int), k ≤ es.length ∧ i = .int .i64 k ∧ l = .int .i64 x ∧ 0 ≤ x ∧ x + es.length ≤ left ∧ Below w.heap.size w wr) (fun _ i _ => es.length - (intOf i).toNat)
  case atStart => exact ⟨0, _, Nat.zero_le _, rfl, rfl, hle', by omega, Below.refl _ _⟩
  case round =>
    obtain ⟨k, x, hk, rfl, rfl, hx0, hx1, hb⟩ := hrel
    by_cases hlt : k < es.length
    · obtain ⟨e, he⟩ : ∃ e, es[k]? = some e := ⟨_, List.getElem?_eq_getElem hlt⟩
      obtain ⟨c0, c1, c2, c3, c4, c5, c6, c7, c8, c9, c10⟩ := (HE.out.below hb hB) k e he
      have ok := HO.out e (List.mem_of_getElem? he)
      have HK : Hid e.ok := ok
      clear ok he
      go_wp2_with fail
      refine (szIns_core e _ _ HK.out (by omega) (by omega)).mono ?_
      rintro e w1 ⟨y, rfl, hy, hb1⟩
      have hsz := hb.size
      have hb2 := hb.trans (hb1.mono hsz)
      clear c0 c1 c2 c3 c4 c5 c6 c7 c8 c9 c10 hb1
      by_cases hy0 : y < 0
      · go_wp2_with fail
        go_ret
        exact ⟨_, rfl, .inl rfl, hb2⟩
      · have hy1 : 0 ≤ y := by omega
        have hy2 : y + es.length ≤ left := by omega
        go_wp2_with fail
        go_roundw
        case rel => exact ⟨k + 1, y, by omega, by go_num, rfl, hy1, hy2, hb2⟩
        case measure => simp [intOf]; omega
    · go_wp2
      go_ret
      exact ⟨_, rfl, .inr ⟨hx0, hx1⟩, hb⟩
set_option maxHeartbeats 400000 in
theorem szInsS_zero (a : Option Addr) (cap : Nat) (left : Int) (w : World) (h0 : 0 ≤ left) (h1 : left ≤ 2 ^ 40) :
    Calls Try.prog 105 #[.slice a 0 cap, .int .i64 left] w fun e w' => e = .returned (.int .i64 left) ∧ Below w.heap.size w w' := by
  go_enter Try.func105, Try.ntmps105
  go_wp2
  go_loopw [1, 5] (fun l i wr => l = .int .i64 left ∧ i = .int .i64 0 ∧ Below w.heap.size w wr) (fun _ i _ => 0)
  case atStart => exact ⟨rfl, rfl, Below.refl _ _⟩
  case round =>
    obtain ⟨rfl, rfl, hb⟩ := hrel
    go_wp2_with fail
    go_ret
    exact ⟨rfl, hb⟩
theorem szInsS_any (v : Value) (es : List Ix) (left : Int) (w : World) (h : InIxs w v es) (hok : ∀ e ∈ es, e.ok) (h0 : 0 ≤ left) (h1 : left ≤ 2 ^ 40) :
    Calls Try.prog 105 #[v, .int .i64 left] w fun e w' =>
      ∃ x, e = .returned (.int .i64 x) ∧ (x = -1 ∨ (0 ≤ x ∧ x + es.length ≤ left)) ∧ Below w.heap.size w w' := by
  rcases h with ⟨a, cap, rfl, rfl⟩ | ⟨b, off, cap, rfl, hE, hlt, g1, g2⟩
  · exact (szInsS_zero a cap left w h0 h1).mono fun e w' ⟨he, hb⟩ => ⟨left, he, .inr ⟨h0, by simp⟩, hb⟩
  · exact szInsS_core b off cap es left w hE hok hlt g1 g2 h0 h1

theorem made_zeroX (n : Nat) : (madeCells #[.int .i64 0, .int .i64 0, .int .i64 0, .bool false, .int .i64 0, .string ⟨#[]⟩, .bool false, .string ⟨#[]⟩, .int .u64 0, .int .u64 0, .int .i64 0] (n * 11)).toList = cellsX (List.replicate n zeroI) := by
  apply List.ext_getElem?
  intro j
  by_cases hj : j < n * 11
  · have h := cellsX_get (List.replicate n zeroI) (j / 11) zeroI (by rw [List.getElem?_replicate, if_pos (by omega)]) (j % 11) (Nat.mod_lt _ (by omega))
    rw [show j / 11 * 11 + j % 11 = j by omega] at h
    rw [h]
    have h6 : j % 11 < 11 := Nat.mod_lt _ (by omega)
    simp [madeCells, hj]
    generalize j % 11 = m at *
    match m, h6 with
    | 0, _ => rfl
    | 1, _ => rfl
    | 2, _ => rfl
    | 3, _ => rfl
    | 4, _ => rfl
    | 5, _ => rfl
    | 6, _ => rfl
    | 7, _ => rfl
    | 8, _ => rfl
    | 9, _ => rfl
    | 10, _ => rfl
  · have h1 : (cellsX (List.replicate n zeroI)).length ≤ j := by rw [length_cellsX, List.length_replicate]; omega
    rw [List.getElem?_eq_none h1]
    simp [madeCells, hj]
set_option maxHeartbeats 400000 in
theorem toInsS_core (b off cap : Nat) (es : List Ix) (w : World) (hE : IxsAt w b off es) (hB : b < w.heap.size) (hlen : es.length ≤ cap) (hcap : cap ≤ maxLen) (h1 : es.length ≤ 1048576) :
    Calls Try.prog 109 #[.slice (some ⟨b, off, none⟩) es.length cap] w fun e w' =>
      ∃ g, e = .returned (.slice (some ⟨g, 0, none⟩) es.length es.length) ∧ OwnX w' w.heap.size g es.length es ∧ Below w.heap.size w w' := by
  have HE : Hid (IxsAt w b off es) := hE
  clear hE
  unfold maxLen at hcap
  obtain ⟨i, hi, hz0, hz1, hz2⟩ := info_parts Try.infoX
  have HI : Hid (Try.prog.info? 175 = some i ∧ i.zero = some (.agg #[.int .i64 0, .int .i64 0, .int .i64 0, .bool false, .int .i64 0, .string ⟨#[]⟩, .bool false, .string ⟨#[]⟩, .int .u64 0, .int .u64 0, .int .i64 0]) ∧ i.size = 11 ∧ i.bytes = 104) := ⟨hi, hz0, hz1, hz2⟩
  clear hi hz0 hz1 hz2
  go_enter Try.func109, Try.ntmps109
  go_wp2_with (at_make; refine wpList_make_full _ rfl _ _ 52 rfl w.heap.size 175 i _ 11 Try.underlying52 HI.out.1 HI.out.2.1 HI.out.2.2.1 _ _ _ _ es.length rfl rfl ?_ ?_ ?hb ?hm ?hs ?_)
  case hb => rw [HI.out.2.2.2]; omega
  case hm => unfold maxLen; omega
  case hs => exact Nat.le_refl _
  · rfl
  · rfl
  intro w1 hown hgrow
  rw [made_zeroX] at hown
  have hown1 : OwnX w1 w.heap.size w.heap.size es.length (List.replicate es.length zeroI) := by
    unfold OwnX; rw [List.length_replicate]; exact hown
  have HW : Hid (OwnX w1 w.heap.size w.heap.size es.length (List.replicate es.length zeroI)) := hown1
  have hb1 : Below w.heap.size w w1 := (Below.refl _ _).grown hgrow (Nat.le_refl _) (fun k hk => by cases hk)
  clear hown hown1 hgrow
  go_wp2_with fail
  go_loopw [4] (fun i wr => ∃ (k : Nat) (fs : List Ix), k ≤ es.length ∧ i = .int .i64 k ∧ fs.length = es.length ∧ fs.take k = es.take k ∧ OwnX wr w.heap.size w.heap.size es.length fs ∧ Below w.heap.size w wr) (fun i _ => es.length - (intOf i).toNat)
  case atStart => exact ⟨0, _, Nat.zero_le _, rfl, List.length_replicate .., rfl, HW.out, hb1⟩
  case round =>
    obtain ⟨k, fs, hk, rfl, hfl, hft, hO, hb⟩ := hrel
    have HO : Hid (fs.length = es.length ∧ fs.take k = es.take k ∧ OwnX wr w.heap.size w.heap.size es.length fs) := ⟨hfl, hft, hO⟩
    clear hfl hft hO
    by_cases hlt : k < es.length
    · obtain ⟨e, he⟩ : ∃ e, es[k]? = some e := ⟨_, List.getElem?_eq_getElem hlt⟩
      obtain ⟨c0, c1, c2, c3, c4, c5, c6, c7, c8, c9, c10⟩ := (HE.out.below hb hB) k e he
      have HG : Hid (es[k]? = some e) := he
      clear he
      go_wp2_with fail
      refine (toIns_core e _).mono ?_
      rintro e' w2 ⟨rfl, hb2⟩
      have hO2 := (HO.out.2.2).below hb2 (HO.out.2.2).lt.2
      obtain ⟨f, hf⟩ : ∃ f, fs[k]? = some f := ⟨_, List.getElem?_eq_getElem (by rw [HO.out.1]; exact hlt)⟩
      obtain ⟨d0, d1, d2, d3, d4, d5, d6, d7, d8, d9, d10⟩ := hO2.at k f hf
      simp only [Nat.zero_add] at d0 d1 d2 d3 d4 d5 d6 d7 d8 d9 d10
      have hfz := fun j => World.ownsRow.frozenAt hO2 j
      have HO2 : Hid (OwnX w2 w.heap.size w.heap.size es.length fs ∧ fs[k]? = some f) := ⟨hO2, hf⟩
      clear hO2 hf c0 c1 c2 c3 c4 c5 c6 c7 c8 c9 c10
      go_wp2_with fail
      go_roundw
      case rel => exact ⟨k + 1, fs.set k e, by omega, by go_num, by rw [List.length_set]; exact HO.out.1, takeX_succ HO.out.2.1 HO.out.1 HG.out, HO2.out.1.put k f e HO2.out.2, below_put11 (hb.trans (hb2.mono hb.size)) (Nat.le_refl _) _ _ _ _ _ _ _ _ _ _ _ _ _ _ _ _ _ _ _ _ _ _⟩
      case measure => simp [intOf]; omega
    · have hfs : fs = es := by
        have h := HO.out.2.1
        rw [List.take_of_length_le (by have := HO.out.1; omega), List.take_of_length_le (by omega)] at h
        exact h
      go_wp2
      go_ret
      exact ⟨_, rfl, by rw [← hfs] at HO ⊢; exact HO.out.2.2, hb⟩
set_option maxHeartbeats 400000 in
theorem toInsS_zero (a : Option Addr) (cap : Nat) (w : World) :
    Calls Try.prog 109 #[.slice a 0 cap] w fun e w' =>
      ∃ g, e = .returned (.slice (some ⟨g, 0, none⟩) 0 0) ∧ OwnX w' w.heap.size g 0 [] ∧ Below w.heap.size w w' := by
  obtain ⟨i, hi, hz0, hz1, hz2⟩ := info_parts Try.infoX
  have HI : Hid (Try.prog.info? 175 = some i ∧ i.zero = some (.agg #[.int .i64 0, .int .i64 0, .int .i64 0, .bool false, .int .i64 0, .string ⟨#[]⟩, .bool false, .string ⟨#[]⟩, .int .u64 0, .int .u64 0, .int .i64 0]) ∧ i.size = 11 ∧ i.bytes = 104) := ⟨hi, hz0, hz1, hz2⟩
  clear hi hz0 hz1 hz2
  go_enter Try.func109, Try.ntmps109
  go_wp2_with (at_make; refine wpList_make_full _ rfl _ _ 52 rfl w.heap.size 175 i _ 11 Try.underlying52 HI.out.1 HI.out.2.1 HI.out.2.2.1 _ _ _ _ 0 rfl rfl ?_ ?_ ?hb ?hm ?hs ?_)
  case hb => rw [HI.out.2.2.2]; omega
  case hm => unfold maxLen; omega
  case hs => exact Nat.le_refl _
  · rfl
  · rfl
  intro w1 hown hgrow
  have HW : Hid (OwnX w1 w.heap.size w.heap.size 0 []) := by
    have h0 := made_zeroX 0
    rw [Nat.zero_mul] at h0
    rw [h0] at hown
    exact hown
  have hb1 : Below w.heap.size w w1 := (Below.refl _ _).grown hgrow (Nat.le_refl _) (fun k hk => by cases hk)
  clear hown hgrow
  go_wp2_with fail
  go_loopw [4] (fun i wr => i = .int .i64 0 ∧ wr = w1) (fun i _ => 0)
  case atStart => exact ⟨rfl, rfl⟩
  case round =>
    obtain ⟨rfl, rfl⟩ := hrel
    go_wp2_with fail
    go_ret
    exact ⟨_, rfl, HW.out, hb1⟩
theorem toInsS_any (v : Value) (es : List Ix) (w : World) (h : InIxs w v es) (h1 : es.length ≤ 1048576) :
    Calls Try.prog 109 #[v] w fun e w' =>
      ∃ g, e = .returned (.slice (some ⟨g, 0, none⟩) es.length es.length) ∧ OwnX w' w.heap.size g es.length es ∧ Below w.heap.size w w' := by
  rcases h with ⟨a, cap, rfl, rfl⟩ | ⟨b, off, cap, rfl, hE, hlt, g1, g2⟩
  · exact toInsS_zero a cap w
  · exact toInsS_core b off cap es w hE hlt g1 g2 h1
set_option maxHeartbeats 1000000 in
theorem eqInsS_same (b off cap b' off' cap' : Nat) (es : List Ix) (w : World) (hE : IxsAt w b off es) (hE' : IxsAt w b' off' es) (hB : b < w.heap.size) (hB' : b' < w.heap.size) (hlen : es.length ≤ maxLen) :
    Calls Try.prog 112 #[.slice (some ⟨b, off, none⟩) es.length cap, .slice (some ⟨b', off', none⟩) es.length cap'] w fun e w' =>
      e = .returned (.bool true) ∧ Below w.heap.size w w' := by
  have HE : Hid (IxsAt w b off es ∧ IxsAt w b' off' es) := ⟨hE, hE'⟩
  clear hE hE'
  unfold maxLen at hlen
  go_enter Try.func112, Try.ntmps112
  go_wp2
  go_loopw [5] (fun i wr => ∃ (k : Nat), k ≤ es.length ∧ i = .int .i64 k ∧ Below w.heap.size w wr) (fun i _ => es.length - (intOf i).toNat)
  case atStart => exact ⟨0, Nat.zero_le _, rfl, Below.refl _ _⟩
  case round =>
    obtain ⟨k, hk, rfl, hb⟩ := hrel
    have hs2 := hb.size
    by_cases hlt : k < es.length
    · obtain ⟨e, he⟩ : ∃ e, es[k]? = some e := ⟨_, List.getElem?_eq_getElem hlt⟩
      obtain ⟨c0, c1, c2, c3, c4, c5, c6, c7, c8, c9, c10⟩ := HE.out.1.below hb hB k e he
      obtain ⟨d0, d1, d2, d3, d4, d5, d6, d7, d8, d9, d10⟩ := HE.out.2.below hb hB' k e he
      clear he
      go_upto_region 6 with fail
      go_cut [26] (fun s wx => s = .bool false ∧ Below w.heap.size w wx)
      case first =>
        have z2 : (k : Int) < (es.length : Int) := by omega
        go_region_with (go_at_call 151; refine (eqIns_same e _).mono ?_; rintro e' w' ⟨rfl, hbb⟩)
        all_goals go_wp2_with fail
        all_goals go_meet
        all_goals exact ⟨rfl, hb.drew.trans (hbb.mono (by simp; omega))⟩
      case rest =>
      obtain ⟨rfl, h3⟩ := hcut
      clear c0 c1 c2 c3 c4 c5 c6 c7 c8 c9 c10 d0 d1 d2 d3 d4 d5 d6 d7 d8 d9 d10
      go_wp2_with fail
      go_roundw
      case rel => exact ⟨k + 1, by omega, by go_num, h3⟩
      case measure => simp [intOf]; omega
    · go_wp2_with fail
      go_ret
      exact ⟨rfl, hb⟩
theorem eqInsS_own {w : World} {base g cp base' g' cp' : Nat} {es : List Ix} (h : OwnX w base g cp es) (h' : OwnX w base' g' cp' es) :
    Calls Try.prog 112 #[.slice (some ⟨g, 0, none⟩) es.length cp, .slice (some ⟨g', 0, none⟩) es.length cp'] w fun e w' => e = .returned (.bool true) ∧ Below w.heap.size w w' :=
  eqInsS_same g 0 cp g' 0 cp' es w h.at h'.at h.lt.2 h'.lt.2 (Nat.le_trans h.caps.1 h.caps.2)
set_option maxHeartbeats 400000 in
theorem eqInsS_zero (a a' : Option Addr) (cap cap' : Nat) (w : World) :
    Calls Try.prog 112 #[.slice a 0 cap, .slice a' 0 cap'] w fun e w' => e = .returned (.bool true) ∧ Below w.heap.size w w' := by
  go_enter Try.func112, Try.ntmps112
  go_wp2
  go_loopw [5] (fun i wr => i = .int .i64 0 ∧ Below w.heap.size w wr) (fun i _ => 0)
  case atStart => exact ⟨rfl, Below.refl _ _⟩
  case round =>
    obtain ⟨rfl, hb⟩ := hrel
    go_wp2_with fail
    go_ret
    exact ⟨rfl, hb⟩
theorem InIxs.own {w : World} {base g n cap : Nat} {es : List Ix} (h : OwnX w base g cap es) (hn : n = es.length) : InIxs w (.slice (some ⟨g, 0, none⟩) n cap) es := by
  subst hn
  exact .inr ⟨g, 0, cap, rfl, h.at, h.lt.2, h.caps.1, h.caps.2⟩
theorem eqInsS_any (u u' : Value) (es : List Ix) (w : World) (h : InIxs w u es) (h' : InIxs w u' es) :
    Calls Try.prog 112 #[u, u'] w fun e w' => e = .returned (.bool true) ∧ Below w.heap.size w w' := by
  rcases h with ⟨a, cap, rfl, rfl⟩ | ⟨b, off, cap, rfl, hE, hlt, g1, g2⟩
  · rcases h' with ⟨a', cap', rfl, _⟩ | ⟨b', off', cap', rfl, hE', hlt', g1', g2'⟩
    · exact eqInsS_zero a a' cap cap' w
    · exact eqInsS_zero a _ cap cap' w
  · rcases h' with ⟨a', cap', rfl, rfl⟩ | ⟨b', off', cap', rfl, hE', hlt', g1', g2'⟩
    · exact eqInsS_zero _ a' cap cap' w
    · exact eqInsS_same b off cap b' off' cap' es w hE hE' hlt hlt' (Nat.le_trans g1 g2)
end Go.Proofs.Ytlgeffinhbodeae

