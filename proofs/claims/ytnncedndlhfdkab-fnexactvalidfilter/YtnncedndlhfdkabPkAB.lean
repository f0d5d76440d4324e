import Derived.Deep.DeepCutAuto
import Derived.Deep.RegionWith
import Derived.Deep.QuietTactic
import Derived.BigQuiet
import Derived.Lib.Bytealg
import Derived.Lib.Slices
import Derived.Lib.Walk
import Derived.Laws.Tables
import Derived.Laws.Rows
import Derived.Deep.WholeRow
import Derived.Test.YtnncedndlhfdkabPkAA
/-
  Nodes of filters in memory: szNode, toNode, eqNode and their lists; filters that come in.
-/
namespace Go.Proofs.Ytnncedndlhfdkab
open Go.ChangeShapes Go.WideShapes Go.ChangeAt Go.RowKit Go.Deep
set_option linter.unusedVariables false
set_option linter.unusedSimpArgs false
set_option maxRecDepth 100000

structure Nd.ok (e : Nd) : Prop where
  s : e.s.size ≤ maxLen
  t : e.t.size ≤ maxLen
  kind : (Lit.int .i64 e.kind).wf = true
  lo : (Lit.int .u64 e.lo).wf = true
  up : (Lit.int .u64 e.up).wf = true
  n : (Lit.int .i64 e.n).wf = true
abbrev Nd.seven (e : Nd) : List Value := [.int .i64 e.kind, .string e.s, .bool e.hi, .string e.t, .int .u64 e.lo, .int .u64 e.up, .int .i64 e.n]
abbrev Nd.v (e : Nd) : Value := .agg #[.int .i64 e.kind, .string e.s, .bool e.hi, .string e.t, .int .u64 e.lo, .int .u64 e.up, .int .i64 e.n]
def zeroN : Nd := ⟨0, ⟨#[]⟩, false, ⟨#[]⟩, 0, 0, 0⟩
def cellsN (es : List Nd) : List Value := es.flatMap Nd.seven
theorem cellsN_cons (e : Nd) (es : List Nd) : cellsN (e :: es) = e.seven ++ cellsN es := by simp [cellsN]
theorem length_cellsN (es : List Nd) : (cellsN es).length = es.length * 7 := by
  induction es with
  | nil => rfl
  | cons e es ih => rw [cellsN_cons, List.length_append, ih]; simp; omega
theorem cellsN_get (es : List Nd) : ∀ (k : Nat) (e : Nd), es[k]? = some e → ∀ j, j < 7 → (cellsN es)[k * 7 + j]? = e.seven[j]? := by
  induction es with
  | nil => intro k e h; simp at h
  | cons f es ih =>
    intro k e h j hj
    rw [cellsN_cons]
    cases k with
    | zero =>
      simp at h; subst h
      rw [List.getElem?_append_left (by show 0 * 7 + j < 7; omega)]
      simp
    | succ k =>
      simp at h
      rw [List.getElem?_append_right (by show 7 ≤ (k + 1) * 7 + j; omega)]
      have : (k + 1) * 7 + j - f.seven.length = k * 7 + j := by show (k + 1) * 7 + j - 7 = _; omega
      rw [this]; exact ih k e h j hj
theorem cellsN_set (es : List Nd) : ∀ (k : Nat) (e e' : Nd) (u : Value) (j : Nat), es[k]? = some e → j < 7 → e'.seven = e.seven.set j u → (cellsN es).set (k * 7 + j) u = cellsN (es.set k e') := by
  induction es with
  | nil => intro k e e' u j h; simp at h
  | cons f es ih =>
    intro k e e' u j h hj hc
    rw [cellsN_cons]
    cases k with
    | zero =>
      simp at h; subst h
      rw [List.set_append_left _ _ (by show 0 * 7 + j < 7; omega), List.set_cons_zero, cellsN_cons, hc]
      simp
    | succ k =>
      simp at h
      rw [List.set_append_right _ _ (by show 7 ≤ (k + 1) * 7 + j; omega), List.set_cons_succ, cellsN_cons]
      have : (k + 1) * 7 + j - f.seven.length = k * 7 + j := by show (k + 1) * 7 + j - 7 = _; omega
      rw [this, ih k e e' u j h hj hc]

/-- The nodes 'es' lie at ⟨b, off⟩, seven cells each. -/
def NdsAt (w : World) (b off : Nat) (es : List Nd) : Prop :=
  ∀ i e, es[i]? = some e → w.cell? ⟨b, off + i * 7, none⟩ = some (.int .i64 e.kind) ∧ w.cell? ⟨b, off + i * 7 + 1, none⟩ = some (.string e.s) ∧ w.cell? ⟨b, off + i * 7 + 2, none⟩ = some (.bool e.hi) ∧ w.cell? ⟨b, off + i * 7 + 3, none⟩ = some (.string e.t) ∧ w.cell? ⟨b, off + i * 7 + 4, none⟩ = some (.int .u64 e.lo) ∧ w.cell? ⟨b, off + i * 7 + 5, none⟩ = some (.int .u64 e.up) ∧ w.cell? ⟨b, off + i * 7 + 6, none⟩ = some (.int .i64 e.n)
theorem NdsAt.below {B : Nat} {w w' : World} {b off : Nat} {es : List Nd} (h : NdsAt w b off es) (hb : Below B w w') (hlt : b < B) : NdsAt w' b off es := by
  intro i e he
  have := h i e he
  refine ⟨?_, ?_, ?_, ?_, ?_, ?_, ?_⟩
  all_goals rw [hb.cell (by exact hlt)]
  · exact this.1
  · exact this.2.1
  · exact this.2.2.1
  · exact this.2.2.2.1
  · exact this.2.2.2.2.1
  · exact this.2.2.2.2.2.1
  · exact this.2.2.2.2.2.2
/-- A row of the call's own holds the nodes 'es'. -/
def OwnNd (w : World) (base g cap : Nat) (es : List Nd) : Prop := w.ownsRow base 98 7 (.slice (some ⟨g, 0, none⟩) es.length cap) es.length (cellsN es)
theorem OwnNd.at {w : World} {base g cap : Nat} {es : List Nd} (h : OwnNd w base g cap es) : NdsAt w g 0 es := by
  intro i e he
  have hi : i < es.length := (List.getElem?_eq_some_iff.1 he).1
  have c := fun j (hj : j < 7) => (World.ownsRow.cellAt h (i * 7 + j) (by omega)).trans (cellsN_get es i e he j hj)
  refine ⟨?_, ?_, ?_, ?_, ?_, ?_, ?_⟩
  · simpa using c 0 (by omega)
  · simpa using c 1 (by omega)
  · simpa using c 2 (by omega)
  · simpa using c 3 (by omega)
  · simpa using c 4 (by omega)
  · simpa using c 5 (by omega)
  · simpa using c 6 (by omega)
theorem OwnNd.lt {w : World} {base g cap : Nat} {es : List Nd} (h : OwnNd w base g cap es) : base ≤ g ∧ g < w.heap.size := World.ownsRow.lt h g rfl
theorem OwnNd.below {B : Nat} {w w' : World} {base g cap : Nat} {es : List Nd} (h : OwnNd w base g cap es) (hb : Below B w w') (hg : g < B) : OwnNd w' base g cap es := by
  refine ⟨h.1, ?_⟩
  rcases h.2 with hn | ⟨g', cap', cur, hv, h1, h2, rest⟩
  · exact .inl hn
  · simp only [Value.slice.injEq, Option.some.injEq, Addr.mk.injEq, and_true, true_and] at hv
    obtain ⟨rfl, rfl⟩ := hv
    exact .inr ⟨g, cap, cur, rfl, h1, by rw [hb.block g hg]; exact h2, rest⟩
theorem OwnNd.mono {w : World} {base base' g cap : Nat} {es : List Nd} (h : OwnNd w base g cap es) (hb : base' ≤ base) : OwnNd w base' g cap es := by
  refine ⟨h.1, ?_⟩
  rcases h.2 with hn | ⟨g', cap', cur, hv, h1, rest⟩
  · exact .inl hn
  · exact .inr ⟨g', cap', cur, hv, Nat.le_trans hb h1, rest⟩
theorem OwnNd.caps {w : World} {base g cp : Nat} {R : List Nd} (h : OwnNd w base g cp R) : R.length ≤ cp ∧ cp ≤ maxLen := by
  rcases h.2 with ⟨h0, _⟩ | ⟨g', cap', cur, hv, _, _, hn, hcap, _, _⟩
  · cases h0
  · simp only [Value.slice.injEq, Option.some.injEq, Addr.mk.injEq, and_true, true_and] at hv
    obtain ⟨rfl, rfl⟩ := hv
    exact ⟨hn, hcap⟩
theorem OwnNd.set {w : World} {base g cap : Nat} {es : List Nd} (h : OwnNd w base g cap es) (k j : Nat) (e e' : Nd) (u : Value) (hk : es[k]? = some e) (hj : j < 7) (hc : e'.seven = e.seven.set j u) :
    OwnNd (w.setCell ⟨g, k * 7 + j, none⟩ u) base g cap (es.set k e') := by
  have := (World.ownsRow.stored h (k * 7 + j) u).1
  rw [cellsN_set es k e e' u j hk hj hc] at this
  unfold OwnNd
  rw [List.length_set]
  exact this
theorem Try.infoNd : (Try.prog.info? 98).map (fun i => (i.zero, i.size, i.bytes)) = some (some (.agg #[.int .i64 0, .string ⟨#[]⟩, .bool false, .string ⟨#[]⟩, .int .u64 0, .int .u64 0, .int .i64 0]), 7, 72) := by kernel_rfl
theorem OwnNd.put {w : World} {base g cap : Nat} {es : List Nd} (h : OwnNd w base g cap es) (k : Nat) (f e : Nd) (hk : es[k]? = some f) :
    OwnNd (((((((w.setCell ⟨g, k * 7, none⟩ (.int .i64 e.kind)).setCell ⟨g, k * 7 + 1, none⟩ (.string e.s)).setCell ⟨g, k * 7 + 2, none⟩ (.bool e.hi)).setCell ⟨g, k * 7 + 3, none⟩ (.string e.t)).setCell ⟨g, k * 7 + 4, none⟩ (.int .u64 e.lo)).setCell ⟨g, k * 7 + 5, none⟩ (.int .u64 e.up)).setCell ⟨g, k * 7 + 6, none⟩ (.int .i64 e.n)) base g cap (es.set k e) := by
  have hlt : k < es.length := (List.getElem?_eq_some_iff.1 hk).1
  have g1 := h.set k 0 f ({ f with kind := e.kind }) (.int .i64 e.kind) hk (by omega) rfl
  have g2 := g1.set k 1 ({ f with kind := e.kind }) ({ f with kind := e.kind, s := e.s }) (.string e.s) (by simp [hlt]) (by omega) rfl
  have g3 := g2.set k 2 ({ f with kind := e.kind, s := e.s }) ({ f with kind := e.kind, s := e.s, hi := e.hi }) (.bool e.hi) (by simp [hlt]) (by omega) rfl
  have g4 := g3.set k 3 ({ f with kind := e.kind, s := e.s, hi := e.hi }) ({ f with kind := e.kind, s := e.s, hi := e.hi, t := e.t }) (.string e.t) (by simp [hlt]) (by omega) rfl
  have g5 := g4.set k 4 ({ f with kind := e.kind, s := e.s, hi := e.hi, t := e.t }) ({ f with kind := e.kind, s := e.s, hi := e.hi, t := e.t, lo := e.lo }) (.int .u64 e.lo) (by simp [hlt]) (by omega) rfl
  have g6 := g5.set k 5 ({ f with kind := e.kind, s := e.s, hi := e.hi, t := e.t, lo := e.lo }) ({ f with kind := e.kind, s := e.s, hi := e.hi, t := e.t, lo := e.lo, up := e.up }) (.int .u64 e.up) (by simp [hlt]) (by omega) rfl
  have g7 := g6.set k 6 ({ f with kind := e.kind, s := e.s, hi := e.hi, t := e.t, lo := e.lo, up := e.up }) e (.int .i64 e.n) (by simp [hlt]) (by omega) rfl
  simpa only [List.set_set, Nat.add_zero] using g7
theorem below_put7 {B : Nat} {a w : World} (h : Below B a w) {g : Nat} (hg : B ≤ g) (o0 o1 o2 o3 o4 o5 o6 : Nat) (v0 v1 v2 v3 v4 v5 v6 : Value) :
    Below B a (((((((w.setCell ⟨g, o0, none⟩ v0).setCell ⟨g, o1, none⟩ v1).setCell ⟨g, o2, none⟩ v2).setCell ⟨g, o3, none⟩ v3).setCell ⟨g, o4, none⟩ v4).setCell ⟨g, o5, none⟩ v5).setCell ⟨g, o6, none⟩ v6) :=
  ((((((h.setCell hg _).setCell hg _).setCell hg _).setCell hg _).setCell hg _).setCell hg _).setCell hg _
theorem takeN_succ {es fs : List Nd} {k : Nat} {e : Nd} (h : fs.take k = es.take k) (hl : fs.length = es.length) (he : es[k]? = some e) : (fs.set k e).take (k + 1) = es.take (k + 1) := by
  have hlt : k < es.length := (List.getElem?_eq_some_iff.1 he).1
  rw [List.take_set, List.take_add_one, List.take_add_one (l := es), he, List.getElem?_eq_getElem (by omega), h]
  simp only [Option.toList]
  rw [List.set_append_right _ _ (by simp; omega)]
  simp
  rw [show k - min k es.length = 0 by omega]
  rfl

set_option maxHeartbeats 400000 in
theorem szNode_core (e : Nd) (left : Int) (w : World) (ho : e.ok) (h0 : 0 ≤ left) (h1 : left ≤ 2 ^ 40) :
    Calls Try.prog 78 #[e.v, .int .i64 left] w fun r w' => ∃ x, r = .returned (.int .i64 x) ∧ (x = -1 ∨ (0 ≤ x ∧ x + e.s.size + e.t.size = left)) ∧ Below w.heap.size w w' := by
  have hr := ho.s
  have hf := ho.t
  unfold maxLen at hr hf
  go_enter Try.func78, Try.ntmps78
  go_wp2
  · go_ret
    exact ⟨_, rfl, .inl rfl, (Below.refl _ _).alloc (Nat.le_refl _) _⟩
  · go_ret
    exact ⟨_, rfl, .inl rfl, (Below.refl _ _).alloc (Nat.le_refl _) _⟩
  · go_ret
    exact ⟨_, rfl, .inr ⟨by assumption, by omega⟩, (Below.refl _ _).alloc (Nat.le_refl _) _⟩
set_option maxHeartbeats 400000 in
theorem toNode_core (e : Nd) (w : World) : Calls Try.prog 85 #[e.v] w fun r w' => r = .returned e.v ∧ Below w.heap.size w w' := by
  go_enter Try.func85, Try.ntmps85
  go_wp2
  refine bodyPost_ret (v := e.v) (by simp [results, Try.results85, go_sem]) rfl ⟨rfl, ?_⟩
  exact (((Below.refl _ _).alloc (Nat.le_refl _) _).alloc (by simp) _).alloc (by simp; omega) _
set_option maxHeartbeats 400000 in
theorem eqNode_same (e : Nd) (w : World) : Calls Try.prog 89 #[e.v, e.v] w fun r w' => r = .returned (.bool true) ∧ Below w.heap.size w w' := by
  go_enter Try.func89, Try.ntmps89
  go_wp2
  go_ret
  exact ⟨rfl, ((Below.refl _ _).alloc (Nat.le_refl _) _).alloc (by simp) _⟩
end Go.Proofs.Ytnncedndlhfdkab

/-
  A region that draws its order and in which an operation, a call, ends in a panic: one walk in the order of the text. That operation and those behind it are taken out by
  stand-ins that leave a mark; the values of its operands, as they are when all has come up, are those that it finds.
-/
namespace Go.Proofs.Ytnncedndlhfdkab
open Go.ChangeShapes Go.WideShapes Go.ChangeAt Go.RowKit Go.Deep
set_option linter.unusedVariables false
set_option linter.unusedSimpArgs false

variable {P : Program} {C : World → Prop}
/-- The stand-in. -/
def fk (m : Value) (o : Oper) : Oper := { o with op := .move (.const m) }
/-- Every operation that lays a slot that 'o' reads is waited for by it; its own slot is nobody else's; what stands behind it waits for it. -/
def waitsB (pre : List Oper) (o : Oper) (tl : List Oper) (d : Tmp) (sl : List Tmp) : Bool :=
  sl.all (fun s => s != d && ((List.range pre.length).all (fun i => match pre[i]? with
    | some oi => oi.dst != some s || o.after.any (fun e => Region.binds .any e && e.on == i)
    | none => true) && tl.all (fun oi => oi.dst != some s))) && pre.all (fun oi => oi.dst != some d) && tl.all (fun oi => oi.dst != some d && oi.after.any (fun e => Region.binds .any e && Nat.ble pre.length e.on))
theorem get_part (pre tl : List Oper) (i : Nat) : (pre ++ tl).toArray[i]? = if i < pre.length then pre[i]? else tl[i - pre.length]? := by
  rw [List.getElem?_toArray]
  by_cases h : i < pre.length
  · rw [if_pos h, List.getElem?_append_left h]
  · rw [if_neg h, List.getElem?_append_right (by omega)]
theorem ready_fk (m : Value) (pre tl : List Oper) (listed : Array Bool) : Region.ready .any (pre ++ tl.map (fk m)).toArray listed = Region.ready .any (pre ++ tl).toArray listed := by
  unfold Region.ready
  have hz : (pre ++ tl.map (fk m)).toArray.size = (pre ++ tl).toArray.size := by simp
  rw [hz]
  congr 1
  funext i
  rw [get_part, get_part]
  by_cases h : i < pre.length
  · rw [if_pos h, if_pos h]
  · rw [if_neg h, if_neg h, List.getElem?_map]
    cases tl[i - pre.length]? <;> rfl
theorem yielded_fk (m : Value) (pre tl : List Oper) (tmps : Array Value) : yielded (pre ++ tl.map (fk m)).toArray tmps = yielded (pre ++ tl).toArray tmps := by
  funext j
  unfold yielded
  rw [get_part, get_part]
  by_cases h : j < pre.length
  · rw [if_pos h, if_pos h]
  · rw [if_neg h, if_neg h, List.getElem?_map]
    cases tl[j - pre.length]? <;> rfl
theorem put_getD (a : Act) (dst : Option Tmp) (v : Value) (s : Tmp) (h : dst ≠ some s) : (a.put dst v).tmps.getD s undef = a.tmps.getD s undef := by
  cases dst with
  | none => rfl
  | some t =>
    have hts : t ≠ s := fun q => h (by rw [q])
    show (a.tmps.setIfInBounds t v).getD s undef = _
    rw [Array.getD_eq_getD_getElem?, Array.getD_eq_getD_getElem?, Array.getElem?_setIfInBounds_ne hts]
theorem put_defers (a : Act) (dst : Option Tmp) (v : Value) : (a.put dst v).defers = a.defers := by cases dst <;> rfl
theorem listed_set (listed : Array Bool) (i j : Nat) (d : Bool) (h : listed.getD j d = true) : (listed.setIfInBounds i true).getD j d = true := by
  rw [Array.getD_eq_getD_getElem?] at h ⊢
  by_cases q : i = j
  · subst q
    rw [Array.getElem?_setIfInBounds_self]
    split
    · rfl
    · next hl => rw [Array.getElem?_eq_none (by omega)] at h; exact h
  · rw [Array.getElem?_setIfInBounds_ne q]; exact h
/-- A slot that nobody lays any more holds what it holds at the end. -/
theorem slot_end {ops : Array Oper} {Q : Act → Prop} (s : Tmp) (x : Value) (hQ : ∀ a, Q a → a.tmps.getD s undef = x) : ∀ (fuel : Nat) (listed : Array Bool) (a : Act), wpAnyQ P .any ops C Q fuel listed a →
    (∀ i oi, ops[i]? = some oi → oi.dst = some s → listed.getD i true = true) → a.tmps.getD s undef = x
  | 0, listed, a, h, _ => hQ a h.2
  | fuel + 1, listed, a, h, hl => by
    cases hr : Region.ready .any ops listed with
    | nil => exact hQ a (h.1 hr)
    | cons i rest =>
      have hi : i ∈ Region.ready .any ops listed := by rw [hr]; simp
      have hq := h.2 i hi
      obtain ⟨hun, oi, hoi, _⟩ := mem_ready.1 hi
      have hd : oi.dst ≠ some s := fun e => by
        have := hl i oi hoi e
        rw [hun] at this; cases this
      have hl' : ∀ j oj, ops[j]? = some oj → oj.dst = some s → (listed.setIfInBounds i true).getD j true = true := fun j oj hj e => listed_set _ _ _ _ (hl j oj hj e)
      unfold qOp at hq
      simp only [hoi] at hq
      split at hq
      · obtain ⟨v, _, h2⟩ := hq
        have := slot_end s x hQ fuel _ _ h2 hl'
        rwa [put_getD _ _ _ _ hd] at this
      · have := slot_end s x hQ fuel _ _ hq hl'
        rwa [put_getD _ _ _ _ hd] at this
theorem any_of_fk {m : Value} {Q : Exit → Act → World → Prop} {pre tl : List Oper} {o : Oper} {D : List Deferred} (d : Tmp) (sl : List (Tmp × Value)) (hB2 : waitsB pre o tl d (sl.map (·.1)) = true) (hdst : o.dst = some d) (hg : o.guard = none)
    (hop : ∀ (a' : Act) (w' : World) (K : Act → World → Prop), C w' → a'.defers = D → (∀ p ∈ sl, a'.tmps.getD p.1 undef = p.2) → o.wp P a' w' K Q) :
    ∀ (fuel : Nat) (listed : Array Bool) (a : Act) (w : World), wpAnyQ P .any (pre ++ (o :: tl).map (fk m)).toArray C (fun a' => a'.tmps.getD d undef = m ∧ ∀ p ∈ sl, a'.tmps.getD p.1 undef = p.2) fuel listed a → C w →
      a.tmps.getD d undef ≠ m → a.defers = D → (∀ j, pre.length ≤ j → listed.getD j false = false) → wpAny P .any (pre ++ o :: tl).toArray Q fuel listed a w
  | 0, listed, a, w, h, _, hm, _, _ => absurd h.2.1 hm
  | fuel + 1, listed, a, w, h, hw, hm, hD, hJ => by
    have hB3 := hB2
    simp only [waitsB, Bool.and_eq_true, List.all_eq_true] at hB2
    obtain ⟨⟨hS, hP⟩, hT⟩ := hB2
    refine ⟨fun hr => absurd (h.1 (by rw [ready_fk]; exact hr)).1 hm, fun i hi => ?_⟩
    have hq := h.2 i (by rw [ready_fk]; exact hi)
    obtain ⟨hun, oi, hoi, hdep⟩ := mem_ready.1 hi
    rw [get_part] at hoi
    unfold wpOp
    unfold qOp at hq
    rw [get_part] at hq ⊢
    by_cases hlt : i < pre.length
    · rw [if_pos hlt] at hoi hq ⊢
      have hne : oi.dst ≠ some d := by
        have := hP oi (List.mem_of_getElem? hoi)
        simpa using this
      have hJ' : ∀ j, pre.length ≤ j → (listed.setIfInBounds i true).getD j false = false := by
        intro j hj
        have := hJ j hj
        rw [Array.getD_eq_getD_getElem?] at this ⊢
        rw [Array.getElem?_setIfInBounds_ne (by omega)]
        exact this
      simp only [hoi] at hq ⊢
      rw [yielded_fk] at hq
      split
      · next hwt =>
        rw [if_pos hwt] at hq
        obtain ⟨v, h1, h2⟩ := hq
        refine .inl (Oper.wp_of_quiet (K := fun a' => wpAnyQ P .any (pre ++ (o :: tl).map (fk m)).toArray C (fun a' => a'.tmps.getD d undef = m ∧ ∀ p ∈ sl, a'.tmps.getD p.1 undef = p.2) fuel (listed.setIfInBounds i true) a' ∧ a'.tmps.getD d undef ≠ m ∧ a'.defers = D) hw ?_ ⟨v, h1, h2, by rw [put_getD _ _ _ _ hne]; exact hm, by rw [put_defers]; exact hD⟩)
        intro a' w' hw' hk
        exact any_of_fk d sl hB3 hdst hg hop fuel _ a' w' hk.1 hw' hk.2.1 hk.2.2 hJ'
      · next hwt =>
        rw [if_neg hwt] at hq
        exact any_of_fk d sl hB3 hdst hg hop fuel _ _ w hq hw (by rw [put_getD _ _ _ _ hne]; exact hm) (by rw [put_defers]; exact hD) hJ'
    · rw [if_neg hlt] at hoi hq ⊢
      by_cases hn : i = pre.length
      · rw [hn, Nat.sub_self] at hoi hq ⊢
        simp only [List.getElem?_cons_zero, List.map_cons, Option.some.injEq] at hoi hq ⊢
        have hw1 : ∀ y, Region.wanted o y = true := fun y => by unfold Region.wanted; rw [hg]
        have hw2 : ∀ y, Region.wanted (fk m o) y = true := fun y => by unfold Region.wanted; show (match o.guard with | none => true | some (j, want) => y j == some want) = true; rw [hg]
        simp only [hw1, hw2, if_true] at hq ⊢
        obtain ⟨v, _, h2⟩ := hq
        refine .inl (hop a w _ hw hD fun p hp => ?_)
        have hps := hS p.1 (List.mem_map.2 ⟨p, hp, rfl⟩)
        have hpd : (some d : Option Tmp) ≠ some p.1 := by
          have := hps.1
          intro q
          cases q
          simp at this
        have h3 := slot_end (C := C) p.1 p.2 (fun a' h => h.2 p hp) fuel _ _ h2 (by
          intro j oj hj e
          rw [get_part] at hj
          by_cases hjl : j < pre.length
          · rw [if_pos hjl] at hj
            have h4 := hps.2.1 j (List.mem_range.2 hjl)
            simp only [hj, Bool.or_eq_true] at h4
            rcases h4 with h4 | h4
            · rw [e] at h4; simp at h4
            · rw [Array.any_eq_true'] at h4
              obtain ⟨ed, hed, h5⟩ := h4
              simp only [Bool.and_eq_true, beq_iff_eq] at h5
              have h6 := hdep ed (by rw [← hoi]; exact hed) h5.1
              rw [h5.2] at h6
              refine listed_set _ _ _ _ ?_
              rw [Array.getD_eq_getD_getElem?] at h6 ⊢
              cases hx : listed[j]? with
              | none => rfl
              | some y => rw [hx] at h6; exact h6
          · rw [if_neg hjl] at hj
            obtain ⟨k, hk⟩ : ∃ k, j - pre.length = k := ⟨_, rfl⟩
            rw [hk, ← List.map_cons, List.getElem?_map] at hj
            cases k with
            | zero =>
              simp only [List.getElem?_cons_zero, Option.map_some, Option.some.injEq] at hj
              rw [← hj] at e
              exact absurd (hdst.symm.trans e) hpd
            | succ k =>
              simp only [List.getElem?_cons_succ] at hj
              cases ht : tl[k]? with
              | none => rw [ht] at hj; cases hj
              | some ot =>
                rw [ht] at hj
                simp only [Option.map_some, Option.some.injEq] at hj
                have h7 := hps.2.2 ot (List.mem_of_getElem? ht)
                rw [← hj] at e
                have e2 : ot.dst = some p.1 := e
                rw [e2] at h7
                simp at h7)
        have hfd : (fk m o).dst = some d := hdst
        rwa [hfd, put_getD _ _ _ _ hpd] at h3
      · exfalso
        obtain ⟨k, hk⟩ : ∃ k, i - pre.length = k + 1 := ⟨i - pre.length - 1, by omega⟩
        rw [hk] at hoi
        simp only [List.getElem?_cons_succ] at hoi
        have h8 := hT oi (List.mem_of_getElem? hoi)
        rw [Array.any_eq_true'] at h8
        obtain ⟨ed, hed, h9⟩ := h8.2
        simp only [Bool.and_eq_true] at h9
        have h10 := hdep ed hed h9.1
        rw [hJ ed.on (Nat.le_of_ble_eq_true h9.2)] at h10
        cases h10
/-- The region. -/
theorem wp_region_dies {id : Nat} {Q : Exit → Act → World → Prop} {a : Act} {w : World} (pre : List Oper) (o : Oper) (tl : List Oper) (d : Tmp) (sl : List (Tmp × Value)) (l : List Oper) (hl : l = pre ++ o :: tl) (hm : P.follows .mixedOrders = true) (hB : ∀ m, Region.lexB .any (pre ++ (o :: tl).map (fk m)).toArray = true)
    (hB2 : waitsB pre o tl d (sl.map (·.1)) = true) (hdst : o.dst = some d) (hg : o.guard = none) (hC : C { w with drawn := w.drawn + 1 })
    (h : ∀ m, wpQuiet P (pre ++ (o :: tl).map (fk m)).toArray C (fun a' => a'.tmps.getD d undef = m ∧ ∀ p ∈ sl, a'.tmps.getD p.1 undef = p.2) (pre ++ (o :: tl).map (fk m)) a)
    (hop : ∀ (a' : Act) (w' : World) (K : Act → World → Prop), C w' → a'.defers = a.defers → (∀ p ∈ sl, a'.tmps.getD p.1 undef = p.2) → o.wp P a' w' K Q) : (Code.region id l.toArray true).wp P Q a w := by
  subst hl
  obtain ⟨m, h0⟩ : ∃ m, a.tmps.getD d undef ≠ m := by
    by_cases q : a.tmps.getD d undef = .bool true
    · exact ⟨.bool false, by rw [q]; intro e; cases e⟩
    · exact ⟨.bool true, q⟩
  have hBm := hB m
  simp only [Region.lexB, Bool.and_eq_true] at hBm
  refine wp_region_any hm ?_
  have h1 := wpAnyQ_lex (C := C) (md := .any) hBm.1 (pre ++ (o :: tl).map (fk m)) 0 (Array.replicate (pre ++ (o :: tl).map (fk m)).toArray.size false) a (by simp) (by simpa using hBm.2) (h m)
  have hz : (pre ++ o :: tl).toArray.size = (pre ++ (o :: tl).map (fk m)).length := by simp
  rw [hz]
  have hz2 : (pre ++ (o :: tl).map (fk m)).toArray.size = (pre ++ (o :: tl).map (fk m)).length := by simp
  rw [hz2] at h1
  refine any_of_fk d sl hB2 hdst hg hop _ _ _ _ h1 hC h0 rfl ?_
  intro j _
  rw [Array.getD_eq_getD_getElem?, Array.getElem?_replicate]
  split <;> rfl
end Go.Proofs.Ytnncedndlhfdkab

/-
  A region that draws its order, whose operations read and whose callees leave alone what lay there: one walk.
-/
namespace Go.Proofs.Ytnncedndlhfdkab
open Go.ChangeShapes Go.WideShapes Go.ChangeAt Go.RowKit Go.Deep
set_option linter.unusedVariables false

/-- A world that has grown out of 'w'. -/
structure Out (w : World) where
  u : World
  out : Below w.heap.size w u

theorem wp_region_out {id : Nat} {Q : Exit → Act → World → Prop} {a : Act} {w : World} {l : List Oper} (hm : Try.prog.follows .mixedOrders = true) (hB : Region.lexB .any l.toArray = true)
    (h : wpQuiet Try.prog l.toArray (fun w' => ∃ n : Out w, w' = n.u) (fun a' => ∀ w', (∃ n : Out w, w' = n.u) → Q .normal a' w') l a) : (Code.region id l.toArray true).wp Try.prog Q a w :=
  wp_region_quiet (C := fun w' => ∃ n : Out w, w' = n.u) hm hB ⟨⟨_, (Below.refl _ _).drew⟩, rfl⟩ (by simpa using h)
theorem Calls.out_of {f : FuncId} {args : Array Value} {w : World} {n : Out w} {v : Value}
    (h : Calls Try.prog f args n.u fun e w' => e = .returned v ∧ Below n.u.heap.size n.u w') : Calls Try.prog f args n.u fun e w'' => e = .returned v ∧ ∃ m : Out w, w'' = m.u :=
  h.mono fun _ w' ⟨he, hb⟩ => ⟨he, ⟨w', n.out.trans (hb.mono n.out.size)⟩, rfl⟩
theorem ents_out {w : World} {b off j : Nat} {L : List Ent} {x : Ent} (h : EntsAt w b off L) (hb : b < w.heap.size) (hx : L[j]? = some x) :
    (∀ n : Out w, n.u.cell? ⟨b, off + j * 6, none⟩ = some (.string x.row)) ∧ (∀ n : Out w, n.u.cell? ⟨b, off + j * 6 + 1, none⟩ = some (.string x.fam)) ∧ (∀ n : Out w, n.u.cell? ⟨b, off + j * 6 + 2, none⟩ = some (.string x.qual)) ∧
    (∀ n : Out w, n.u.cell? ⟨b, off + j * 6 + 3, none⟩ = some (.int .u64 x.ts)) ∧ (∀ n : Out w, n.u.cell? ⟨b, off + j * 6 + 4, none⟩ = some (.int .i64 x.kind)) ∧ (∀ n : Out w, n.u.cell? ⟨b, off + j * 6 + 5, none⟩ = some (.string x.val)) :=
  ⟨fun n => (h.below n.out hb j x hx).1, fun n => (h.below n.out hb j x hx).2.1, fun n => (h.below n.out hb j x hx).2.2.1, fun n => (h.below n.out hb j x hx).2.2.2.1, fun n => (h.below n.out hb j x hx).2.2.2.2.1, fun n => (h.below n.out hb j x hx).2.2.2.2.2⟩
end Go.Proofs.Ytnncedndlhfdkab

/-
  (*impl.patternReader): demand, nextIn, take, skip, classByte; strings.IndexByte.
-/
namespace Go.Proofs.Ytnncedndlhfdkab
open Go.ChangeShapes Go.WideShapes Go.ChangeAt Go.RowKit Go.Deep
set_option linter.unusedVariables false
set_option linter.unusedSimpArgs false
set_option maxRecDepth 100000

/-- A panic with a placed fault. -/
abbrev pfV (c a : Int) : Value := .iface 167 (.agg #[.int .i64 c, .int .i64 a])
abbrev Pf (c a : Int) : Ending := .panicked [{ v := pfV c a, recovered := false }]
/-- The bytes of a string. -/
abbrev sb (s : ByteArray) : List UInt8 := s.data.toList
theorem sb_len (s : ByteArray) : (sb s).length = s.size := by simp [sb]
theorem sb_get {s : ByteArray} {i : Nat} {x : UInt8} (h : (sb s)[i]? = some x) : ∃ hi : i < s.size, s[i] = x := by
  have hi := (List.getElem?_eq_some_iff.1 h).1
  rw [sb_len] at hi
  refine ⟨hi, ?_⟩
  rw [List.getElem?_eq_getElem (by rw [sb_len]; exact hi)] at h
  exact Option.some.inj h

set_option maxHeartbeats 1000000 in
theorem stringsIndexByte_any (s : ByteArray) (c : UInt8) (w : World) :
    Calls Try.prog 127 #[.string s, .int .u8 (c.toNat : Int)] w fun e w' => e = .returned (.int .i64 (Lib.indexByte (sb s) c)) ∧ w' = w := by
  have H : Calls Try.prog 130 #[.string s, .int .u8 (c.toNat : Int)] w fun e w' => e = .returned (.int .i64 (Lib.indexByte (sb s) c)) ∧ w' = w := by
    go_enter Try.func130, Try.ntmps130
    go_wp2
    rw [run_callFunc_extern Try.func134 (by kernel_rfl) (by kernel_rfl) (by kernel_rfl) (e := Extern.BytealgIndexByte.indexByte) (by kernel_rfl), Lib.run_indexByteString]
    simp only [Result.andThen]
    rw [Oper.upon_value]
    go_wp2
    go_ret
    exact ⟨by simp, rfl⟩
  go_enter Try.func127, Try.ntmps127
  go_wp2_with (go_at_call 130; refine H.mono ?_; rintro e w' ⟨rfl, rfl⟩)
  go_ret
  exact ⟨rfl, rfl⟩
theorem indexByte_neg : ∀ (l : List UInt8) (c : UInt8), -1 ≤ Lib.indexByte l c ∧ (0 ≤ Lib.indexByte l c ↔ c ∈ l)
  | [], c => by simp [Lib.indexByte]
  | b :: l, c => by
    have ih := indexByte_neg l c
    unfold Lib.indexByte
    by_cases h : b = c
    · subst h; simp
    · have h2 : ¬ c = b := fun q => h q.symm
      by_cases h3 : Lib.indexByte l c = -1
      · have h4 : ¬ c ∈ l := fun q => by have := ih.2.2 q; omega
        simp [h, h2, h3, h4]
      · have h4 : c ∈ l := ih.2.1 (by omega)
        simp [h, h2, h3, h4]
        omega

/-- A reader in memory. -/
abbrev PrAt (w : World) (base g : Nat) (p : ByteArray) (i o : Nat) : Prop := BoxAt w base 170 3 g [.string p, .int .i64 (i : Int), .int .i64 (o : Int)]

set_option maxHeartbeats 1000000 in
theorem pdem_yes (v : Value) (w : World) : Calls Try.prog 122 #[v, .bool true] w fun e w' => e = .returned (.tuple #[]) ∧ w' = w := by
  go_enter Try.func122, Try.ntmps122
  go_wp2_with fail
  go_end0
  exact ⟨rfl, rfl⟩
set_option maxHeartbeats 1000000 in
theorem pdem_no {base g i o : Nat} {p : ByteArray} {w : World} (h : PrAt w base g p i o) : Calls Try.prog 122 #[.pointer (some ⟨g, 0, none⟩), .bool false] w fun e w' => e = Pf 2 i ∧ w' = w := by
  have c1 := h.cell (j := 1) rfl
  clear h
  go_enter Try.func122, Try.ntmps122
  go_wp2_with fail
  exact ⟨rfl, rfl, rfl⟩
theorem pdem_core (c : Bool) {base g i o : Nat} {p : ByteArray} {w : World} (h : PrAt w base g p i o) : Calls Try.prog 122 #[.pointer (some ⟨g, 0, none⟩), .bool c] w fun e w' => w' = w ∧ ((c = true ∧ e = .returned (.tuple #[])) ∨ (c = false ∧ e = Pf 2 i)) := by
  cases c with
  | true => exact (pdem_yes _ w).mono fun e w' ⟨he, hw⟩ => ⟨hw, .inl ⟨rfl, he⟩⟩
  | false => exact (pdem_no h).mono fun e w' ⟨he, hw⟩ => ⟨hw, .inr ⟨rfl, he⟩⟩

/-- Whether the next byte is one of these. -/
def inB (p : List UInt8) (i : Nat) (l : List UInt8) : Bool := match p[i]? with | some c => decide (c ∈ l) | none => false

set_option maxHeartbeats 2000000 in
theorem pnextIn_core {base g i o : Nat} {p : ByteArray} (s : ByteArray) {w : World} (h : PrAt w base g p i o) (hp : p.size ≤ 200) :
    Calls Try.prog 125 #[.pointer (some ⟨g, 0, none⟩), .string s] w fun e w' => e = .returned (.bool (inB (sb p) i (sb s))) ∧ Below w.heap.size w w' := by
  have hlt := h.lt.2
  have c0 := h.cell (j := 0) rfl
  have c1 := h.cell (j := 1) rfl
  have e0 : ∀ n : Out w, n.u.cell? ⟨g, 0, none⟩ = some (.string p) := fun n => (n.out.cell (p := ⟨g, 0, none⟩) hlt).trans c0
  have e1 : ∀ n : Out w, n.u.cell? ⟨g, 1, none⟩ = some (.int .i64 (i : Int)) := fun n => (n.out.cell (p := ⟨g, 1, none⟩) hlt).trans c1
  clear h c0 c1
  by_cases hi : i < p.size
  · obtain ⟨x, hx⟩ : ∃ x, (sb p)[i]? = some x := ⟨_, List.getElem?_eq_getElem (by rw [sb_len]; exact hi)⟩
    obtain ⟨_, gx⟩ := sb_get hx
    have z1 : (i : Int) < (p.size : Int) := by omega
    obtain ⟨r, hr⟩ : ∃ r, r = Lib.indexByte (sb s) x := ⟨_, rfl⟩
    have HR : Hid (r = Lib.indexByte (sb s) x ∧ inB (sb p) i (sb s) = decide (0 ≤ r)) := by
      refine ⟨hr, ?_⟩
      unfold inB
      rw [hx, hr]
      exact decide_eq_decide.2 (indexByte_neg _ _).2.symm
    have HI : Hid (∀ n : Out w, Calls Try.prog 127 #[.string s, .int .u8 (x.toNat : Int)] n.u fun e w' => e = .returned (.int .i64 r) ∧ Below n.u.heap.size n.u w') := fun n => by
      rw [HR.out.1]
      exact (stringsIndexByte_any s x n.u).mono fun e w' ⟨he, hw⟩ => ⟨he, hw ▸ Below.refl _ _⟩
    rw [HR.out.2]
    clear hx hr
    go_enter Try.func125, Try.ntmps125
    go_upto_region 1 with fail
    refine wp_region_out (by kernel_rfl) (by kernel_rfl) ?_
    repeat (go_big_quiet_step ((first | rfl | (go_at_call 127; exact Calls.out_of (HI.out _)))))
    refine wpQuiet_nil ?_
    rintro w1 ⟨⟨wx, hb1⟩, rfl⟩
    go_wp2_with fail
    go_ret
    exact ⟨rfl, hb1⟩
  · have z1 : ¬ (i : Int) < (p.size : Int) := by omega
    have HR : inB (sb p) i (sb s) = false := by
      unfold inB
      rw [List.getElem?_eq_none (by rw [sb_len]; omega)]
    rw [HR]
    clear HR
    go_enter Try.func125, Try.ntmps125
    go_upto_region 1 with fail
    refine wp_region_out (by kernel_rfl) (by kernel_rfl) ?_
    repeat (go_big_quiet_step (rfl))
    refine wpQuiet_nil ?_
    rintro w1 ⟨⟨wx, hb1⟩, rfl⟩
    go_wp2_with fail
    go_ret
    exact ⟨rfl, hb1⟩

/-- The reader one byte further. -/
theorem PrAt.next {w : World} {base g i o : Nat} {p : ByteArray} (h : PrAt w base g p i o) : PrAt (w.setCell ⟨g, 1, none⟩ (.int .i64 ((i : Int) + 1))) base g p (i + 1) o := BoxAt.set h 1 (.int .i64 ((i : Int) + 1))

set_option maxHeartbeats 2000000 in
theorem ptake_yes {base g i o : Nat} {p : ByteArray} {x : UInt8} {w : World} (h : PrAt w base g p i o) (hp : p.size ≤ 200) (hx : (sb p)[i]? = some x) :
    Calls Try.prog 129 #[.pointer (some ⟨g, 0, none⟩)] w fun e w' => e = .returned (.int .u8 (x.toNat : Int)) ∧ PrAt w' base g p (i + 1) o ∧ Chg (fun k => k = g) w w' := by
  have HP : Hid (PrAt w base g p i o) := h
  obtain ⟨hi, gx⟩ := sb_get hx
  have c0 := h.cell (j := 0) rfl
  have c1 := h.cell (j := 1) rfl
  have f1 := h.frozen 1
  have z1 : (i : Int) < (p.size : Int) := by omega
  clear h hx
  go_enter Try.func129, Try.ntmps129
  go_upto_region 1 with fail
  go_quiet ((go_at_call 122; exact Calls.quiet_of_same (pdem_yes _ _)))
  go_upto_region 2 with fail
  obtain ⟨W1, hW1⟩ : ∃ W1 : World, W1 = w.drewN nq := ⟨_, rfl⟩
  have hb1 : Below w.heap.size w W1 := by rw [hW1]; exact below_drewN (Below.refl _ _) _
  have HP1 : Hid (PrAt W1 base g p i o) := HP.out.below hb1
  rw [← hW1]
  clear hW1 c0 c1 f1
  have c0 := HP1.out.cell (j := 0) rfl
  have c1 := HP1.out.cell (j := 1) rfl
  have f1 := HP1.out.frozen 1
  go_quiet (rfl)
  go_wp2_with fail
  go_ret
  have hb2 : Below w.heap.size w (W1.drewN nq) := hb1.trans ((below_drewN (Below.refl _ _) _).mono hb1.size)
  exact ⟨rfl, PrAt.next (BoxAt.below HP.out hb2), (Chg.of_below hb2).trans (Chg.of_set _ g 1 _ rfl)⟩

/-- A region whose last operation is a demand of the reader's that does not hold. -/
theorem wp_region_pdem {id : Nat} {Q : Exit → Act → World → Prop} {a : Act} {w : World} {l : List Oper} {base g i o : Nat} {p : ByteArray} (d s c : Tmp) {tys : Array TypeId} {ty : TypeId} {pos : String} {aft : Array Edge} (hP : PrAt w base g p i o)
    (ho : l.getLast? = some ⟨some d, .call { callee := .value (.func 122), args := #[.tmp s, .tmp c], argTypes := tys }, ty, pos, aft, none⟩)
    (hB : ∀ m, Region.lexB .any (l.dropLast ++ [fk m ⟨some d, .call { callee := .value (.func 122), args := #[.tmp s, .tmp c], argTypes := tys }, ty, pos, aft, none⟩]).toArray = true)
    (hB2 : waitsB l.dropLast ⟨some d, .call { callee := .value (.func 122), args := #[.tmp s, .tmp c], argTypes := tys }, ty, pos, aft, none⟩ [] d [s, c] = true)
    (hQ : ∀ (a' : Act) (w' : World), Below w.heap.size w w' → a'.defers = a.defers → Q (.panic [{ v := pfV 2 i, recovered := false }]) a' w')
    (h : ∀ m, wpQuiet Try.prog (l.dropLast ++ [fk m ⟨some d, .call { callee := .value (.func 122), args := #[.tmp s, .tmp c], argTypes := tys }, ty, pos, aft, none⟩]).toArray (fun w' => ∃ n : Out w, w' = n.u) (fun a' => a'.tmps.getD d undef = m ∧ ∀ q ∈ [(s, Value.pointer (some ⟨g, 0, none⟩)), (c, .bool false)], a'.tmps.getD q.1 undef = q.2) (l.dropLast ++ [fk m ⟨some d, .call { callee := .value (.func 122), args := #[.tmp s, .tmp c], argTypes := tys }, ty, pos, aft, none⟩]) a) :
    (Code.region id l.toArray true).wp Try.prog Q a w := by
  have hl : l = l.dropLast ++ [⟨some d, .call { callee := .value (.func 122), args := #[.tmp s, .tmp c], argTypes := tys }, ty, pos, aft, none⟩] := by
    obtain ⟨l', hl'⟩ := List.getLast?_eq_some_iff.1 ho
    rw [hl']; simp
  refine wp_region_dies (C := fun w' => ∃ n : Out w, w' = n.u) l.dropLast _ [] d [(s, Value.pointer (some ⟨g, 0, none⟩)), (c, .bool false)] l hl (by kernel_rfl) hB hB2 rfl rfl ⟨⟨_, (Below.refl _ _).drew⟩, rfl⟩ h ?_
  rintro a' w' K ⟨n, rfl⟩ hd hp
  have h1 : a'.tmps.getD s undef = .pointer (some ⟨g, 0, none⟩) := hp (s, _) (by simp)
  have h2 : a'.tmps.getD c undef = .bool false := hp (c, _) (by simp)
  have h3 : a'.tmps[s]?.getD undef = .pointer (some ⟨g, 0, none⟩) := by rw [← Array.getD_eq_getD_getElem?]; exact h1
  have h4 : a'.tmps[c]?.getD undef = .bool false := by rw [← Array.getD_eq_getD_getElem?]; exact h2
  unfold Oper.wp
  have hrun : (execOp a'.eval ⟨some d, .call { callee := .value (.func 122), args := #[.tmp s, .tmp c], argTypes := tys }, ty, pos, aft, none⟩).run Try.prog n.u = .ok (.enter 122 #[.pointer (some ⟨g, 0, none⟩), .bool false]) n.u := by
    simp [execOp, h3, h4, go_sem, Act.eval, Try.func122]
  rw [hrun, Oper.upon_enter]
  refine (pdem_no (BoxAt.below hP n.out)).mono ?_
  rintro e w'' ⟨rfl, rfl⟩
  exact hQ a' n.u n.out hd
theorem pslots2 {a' : Act} {s t : Tmp} {x y : Value} (h : a'.tmps.getD s undef = x) (h2 : a'.tmps.getD t undef = y) : ∀ p ∈ [(s, x), (t, y)], a'.tmps.getD p.1 undef = p.2 := by
  intro p hp
  rcases List.mem_cons.1 hp with rfl | hp
  · exact h
  · rcases List.mem_cons.1 hp with rfl | hp
    · exact h2
    · cases hp

set_option maxHeartbeats 2000000 in
theorem ptake_no {base g i o : Nat} {p : ByteArray} {w : World} (h : PrAt w base g p i o) (hp : p.size ≤ 200) (hx : ¬ i < p.size) :
    Calls Try.prog 129 #[.pointer (some ⟨g, 0, none⟩)] w fun e w' => e = Pf 2 i ∧ Below w.heap.size w w' := by
  have HP : Hid (PrAt w base g p i o) := h
  have hlt := h.lt.2
  have c0 := h.cell (j := 0) rfl
  have c1 := h.cell (j := 1) rfl
  have e0 : ∀ n : Out w, n.u.cell? ⟨g, 0, none⟩ = some (.string p) := fun n => (n.out.cell (p := ⟨g, 0, none⟩) hlt).trans c0
  have e1 : ∀ n : Out w, n.u.cell? ⟨g, 1, none⟩ = some (.int .i64 (i : Int)) := fun n => (n.out.cell (p := ⟨g, 1, none⟩) hlt).trans c1
  have z1 : ¬ (i : Int) < (p.size : Int) := by omega
  clear h c0 c1
  go_enter Try.func129, Try.ntmps129
  go_upto_region 1 with fail
  refine wp_region_pdem 15 4 14 HP.out rfl (fun m => by kernel_rfl) (by kernel_rfl) ?q ?_
  case q => exact fun a' w' hb hd => ⟨hd, rfl, hb⟩
  intro m
  dsimp only [List.dropLast, fk, List.cons_append, List.nil_append]
  repeat (go_big_quiet_step (rfl))
  refine wpQuiet_nil ?_
  exact ⟨rfl, pslots2 rfl rfl⟩
theorem ptake_core {base g i o : Nat} {p : ByteArray} {w : World} (h : PrAt w base g p i o) (hp : p.size ≤ 200) (hi : i ≤ p.size) :
    Calls Try.prog 129 #[.pointer (some ⟨g, 0, none⟩)] w fun e w' => Chg (fun k => k = g) w w' ∧
      ((∃ x : UInt8, (sb p)[i]? = some x ∧ e = .returned (.int .u8 (x.toNat : Int)) ∧ PrAt w' base g p (i + 1) o) ∨ ((sb p)[i]? = none ∧ e = Pf 2 i)) := by
  by_cases hx : i < p.size
  · obtain ⟨x, hx⟩ : ∃ x, (sb p)[i]? = some x := ⟨_, List.getElem?_eq_getElem (by rw [sb_len]; exact hx)⟩
    exact (ptake_yes h hp hx).mono fun e w' ⟨he, h1, h2⟩ => ⟨h2, .inl ⟨x, hx, he, h1⟩⟩
  · exact (ptake_no h hp hx).mono fun e w' ⟨he, h1⟩ => ⟨Chg.of_below h1, .inr ⟨List.getElem?_eq_none (by rw [sb_len]; omega), he⟩⟩

set_option maxHeartbeats 2000000 in
theorem pskip_core {base g i o : Nat} {p : ByteArray} (c : UInt8) {w : World} (h : PrAt w base g p i o) (hp : p.size ≤ 200) :
    Calls Try.prog 124 #[.pointer (some ⟨g, 0, none⟩), .int .u8 (c.toNat : Int)] w fun e w' => Chg (fun k => k = g) w w' ∧
      (((sb p)[i]? = some c ∧ e = .returned (.bool true) ∧ PrAt w' base g p (i + 1) o) ∨ (¬ (sb p)[i]? = some c ∧ e = .returned (.bool false) ∧ PrAt w' base g p i o)) := by
  have HP : Hid (PrAt w base g p i o) := h
  have hlt := h.lt.2
  have c0 := h.cell (j := 0) rfl
  have c1 := h.cell (j := 1) rfl
  have e0 : ∀ n : Out w, n.u.cell? ⟨g, 0, none⟩ = some (.string p) := fun n => (n.out.cell (p := ⟨g, 0, none⟩) hlt).trans c0
  have e1 : ∀ n : Out w, n.u.cell? ⟨g, 1, none⟩ = some (.int .i64 (i : Int)) := fun n => (n.out.cell (p := ⟨g, 1, none⟩) hlt).trans c1
  clear h c0 c1
  by_cases hi : i < p.size
  · obtain ⟨x, hx⟩ : ∃ x, (sb p)[i]? = some x := ⟨_, List.getElem?_eq_getElem (by rw [sb_len]; exact hi)⟩
    obtain ⟨_, gx⟩ := sb_get hx
    have z1 : (i : Int) < (p.size : Int) := by omega
    by_cases hxc : x = c
    · subst hxc
      have HF : Hid ((sb p)[i]? = some x) := hx
      clear hx
      go_enter Try.func124, Try.ntmps124
      go_upto_region 1 with fail
      refine wp_region_out (by kernel_rfl) (by kernel_rfl) ?_
      repeat (go_big_quiet_step (rfl))
      refine wpQuiet_nil ?_
      rintro w1 ⟨⟨wx, hb1⟩, rfl⟩
      have HP1 : Hid (PrAt w1 base g p i o) := BoxAt.below HP.out hb1
      have c1 := HP1.out.cell (j := 1) rfl
      have f1 := HP1.out.frozen 1
      clear e0 e1
      go_wp2_with fail
      go_ret
      exact ⟨(Chg.of_below hb1).trans (Chg.of_set _ g 1 _ rfl), .inl ⟨HF.out, rfl, PrAt.next HP1.out⟩⟩
    · have HF : Hid (¬ (sb p)[i]? = some c) := by
        show ¬ (sb p)[i]? = some c
        rw [hx]
        exact fun q => hxc (Option.some.inj q)
      have z2 : ¬ (x.toNat : Int) = (c.toNat : Int) := fun q => hxc (UInt8.toNat_inj.1 (by omega))
      clear hx hxc
      go_enter Try.func124, Try.ntmps124
      go_upto_region 1 with fail
      refine wp_region_out (by kernel_rfl) (by kernel_rfl) ?_
      repeat (go_big_quiet_step (rfl))
      refine wpQuiet_nil ?_
      rintro w1 ⟨⟨wx, hb1⟩, rfl⟩
      have HP1 : Hid (PrAt w1 base g p i o) := BoxAt.below HP.out hb1
      clear e0 e1
      go_wp2_with fail
      go_ret
      exact ⟨Chg.of_below hb1, .inr ⟨HF.out, congrArg (fun b => Ending.returned (.bool b)) (beq_eq_false_iff_ne.2 z2), HP1.out⟩⟩
  · have z1 : ¬ (i : Int) < (p.size : Int) := by omega
    have HF : Hid (¬ (sb p)[i]? = some c) := by
      show ¬ (sb p)[i]? = some c
      rw [List.getElem?_eq_none (by rw [sb_len]; omega)]
      exact fun q => by cases q
    go_enter Try.func124, Try.ntmps124
    go_upto_region 1 with fail
    refine wp_region_out (by kernel_rfl) (by kernel_rfl) ?_
    repeat (go_big_quiet_step (rfl))
    refine wpQuiet_nil ?_
    rintro w1 ⟨⟨wx, hb1⟩, rfl⟩
    have HP1 : Hid (PrAt w1 base g p i o) := BoxAt.below HP.out hb1
    clear e0 e1
    go_wp2_with fail
    go_ret
    first
      | exact ⟨Chg.of_below hb1, .inr ⟨HF.out, rfl, HP1.out⟩⟩
      | exact ⟨Chg.of_below hb1, rfl, HP1.out⟩
end Go.Proofs.Ytnncedndlhfdkab

/-
  Sets of bytes; (impl.byteSet).opposite.
-/
namespace Go.Proofs.Ytnncedndlhfdkab
open Go.ChangeShapes Go.WideShapes Go.ChangeAt Go.RowKit Go.Deep
set_option linter.unusedVariables false
set_option linter.unusedSimpArgs false
set_option maxRecDepth 100000

theorem setA_some : ∃ F : (UInt8 → Bool) → Array Value, ∀ f, F f = Array.ofFn (n := 256) fun i => .bool (f (UInt8.ofNat i.val)) := ⟨_, fun _ => rfl⟩
/-- A set of bytes as the program has it. (Behind 'choose': so that no unification opens its 256 cells.) -/
noncomputable def setA (f : UInt8 → Bool) : Array Value := Classical.choose setA_some f
theorem setA_eq (f : UInt8 → Bool) : setA f = Array.ofFn (n := 256) fun i => .bool (f (UInt8.ofNat i.val)) := Classical.choose_spec setA_some f
theorem setA_size (f : UInt8 → Bool) : (setA f).size = 256 := by rw [setA_eq]; simp
theorem info_set : (Try.prog.info? 187).map (fun i => (i.zero, i.size)) = some (some (.agg (Array.replicate 256 (.bool false))), 256) := by kernel_rfl
theorem setA_none : setA (fun _ => false) = Array.replicate 256 (.bool false) := by
  rw [setA_eq]
  apply Array.ext
  · simp
  · intro i h1 h2
    simp
theorem setA_at (f : UInt8 → Bool) (i : Nat) (h : i < 256) : (setA f)[i]? = some (.bool (f (UInt8.ofNat i))) := by
  rw [setA_eq, Array.getElem?_eq_getElem (by simp; exact h)]
  simp only [Array.getElem_ofFn]
theorem setA_one (f : UInt8 → Bool) : (setA f).all (·.oneCell') = true := by
  rw [setA_eq, Array.all_eq_true_iff_forall_mem]
  intro v hv
  obtain ⟨i, hi, rfl⟩ := Array.getElem_of_mem hv
  simp only [Array.getElem_ofFn]
  rfl
theorem BoxAt.heap {w : World} {base t sz g : Nat} {vs : List Value} (h : BoxAt w base t sz g vs) : w.heap[g]? = some (.cells vs.toArray t (0, 0)) := by
  rcases h.2 with ⟨h0, _⟩ | ⟨g', cap, cur, hv, _, hc, _, _, hsz, htk⟩
  · cases h0
  · simp only [Value.slice.injEq, Option.some.injEq, Addr.mk.injEq, and_true, true_and] at hv
    obtain ⟨rfl, rfl⟩ := hv
    rw [hc]
    rw [List.take_of_length_le (by simp [hsz])] at htk
    rw [← htk]
theorem BoxAt.ofHeap {w : World} {base t sz g : Nat} {vs : Array Value} (h : w.heap[g]? = some (.cells vs t (0, 0))) (hb : base ≤ g) (hs : vs.size = sz) : BoxAt w base t sz g vs.toList := by
  refine ⟨by simp [hs], .inr ⟨g, 1, vs, rfl, hb, h, Nat.le_refl _, by decide, by omega, ?_⟩⟩
  rw [List.take_of_length_le (by simp [hs])]
/-- A set of bytes in memory. -/
abbrev SetAt (w : World) (base g : Nat) (f : UInt8 → Bool) : Prop := BoxAt w base 187 256 g (setA f).toList
theorem SetAt.heap {w : World} {base g : Nat} {f : UInt8 → Bool} (h : SetAt w base g f) : w.heap[g]? = some (.cells (setA f) 187 (0, 0)) := by
  have h1 := BoxAt.heap h
  rw [Array.toArray_toList] at h1
  exact h1
theorem SetAt.ext {w : World} {base g : Nat} {f f' : UInt8 → Bool} (h : SetAt w base g f) (he : ∀ c, f c = f' c) : SetAt w base g f' := by
  rw [show f' = f from funext fun c => (he c).symm]; exact h
theorem setA_get (f : UInt8 → Bool) (k : Nat) (h : k < 256) : (setA f).toList[k]? = some (.bool (f (UInt8.ofNat k))) := by
  rw [Array.getElem?_toList]; exact setA_at f k h
theorem ofNat_eq {i k : Nat} (hi : i < 256) (hk : k < 256) (h : UInt8.ofNat i = UInt8.ofNat k) : i = k := by
  have := congrArg UInt8.toNat h
  rw [UInt8.toNat_ofNat', UInt8.toNat_ofNat'] at this
  omega
theorem setA_set (f : UInt8 → Bool) (k : Nat) (b : Bool) (hk : k < 256) : (setA f).toList.set k (.bool b) = (setA (fun c => if c = UInt8.ofNat k then b else f c)).toList := by
  apply List.ext_getElem?
  intro i
  rw [List.getElem?_set]
  by_cases h : k = i
  · subst h
    rw [if_pos rfl, if_pos (by simp [setA_size]; exact hk), setA_get _ _ hk, if_pos rfl]
  · rw [if_neg h]
    by_cases hi : i < 256
    · rw [setA_get _ _ hi, setA_get _ _ hi, if_neg (fun q => h (ofNat_eq hi hk q).symm)]
    · rw [List.getElem?_eq_none (by simp [setA_size]; omega), List.getElem?_eq_none (by simp [setA_size]; omega)]
theorem setA_ext {f g : UInt8 → Bool} (h : ∀ c, f c = g c) : setA f = setA g := by rw [show f = g from funext h]
theorem Below.setRow' {B : Nat} {a w : World} (h : Below B a w) {g : Nat} (hg : B ≤ g) (cs : Array Value) : Below B a (w.setRow g cs) :=
  h.trans ⟨rfl, rfl, rfl, by simp, fun k hk => setRow_other w g k cs (by omega)⟩

set_option maxHeartbeats 2000000 in
theorem opposite_core (f : UInt8 → Bool) (w : World) :
    Calls Try.prog 131 #[.agg (setA f)] w fun e w' => e = .returned (.agg (setA (fun c => !f c))) ∧ Below w.heap.size w w' := by
  have hzv := (zero_of_info info_set).1
  go_enter Try.func131, Try.ntmps131
  go_wp2_with fail
  clear hzv
  rw [← setA_none]
  obtain ⟨W, hW⟩ : ∃ W, W = (w.alloc (.cells (setA f) 187)).alloc (.cells (setA (fun _ => false)) 187) := ⟨_, rfl⟩
  have HW : Hid (SetAt W w.heap.size w.heap.size f ∧ SetAt W w.heap.size (w.heap.size + 1) (fun _ => false) ∧ Below w.heap.size w W) := by
    rw [hW]
    refine ⟨BoxAt.ofHeap (heap_alloc2_old w _ _) (Nat.le_refl _) (setA_size _), BoxAt.ofHeap (heap_alloc2_new w _ _) (by omega) (setA_size _), ((Below.refl _ _).alloc (Nat.le_refl _) _).alloc (by simp) _⟩
  rw [← hW]
  clear hW
  go_loopw [4] (fun i wr => ∃ (k : Nat), k ≤ 256 ∧ i = .int .i64 k ∧ SetAt wr w.heap.size w.heap.size (fun c => if c.toNat < k then !f c else f c) ∧ SetAt wr w.heap.size (w.heap.size + 1) (fun _ => false) ∧ Below w.heap.size w wr) (fun i _ => 256 - (intOf i).toNat)
  case atStart =>
    refine ⟨0, Nat.zero_le _, rfl, ?_, HW.out.2.1, HW.out.2.2⟩
    exact SetAt.ext HW.out.1 (fun c => by rw [if_neg (by omega)])
  case round =>
    obtain ⟨k, hk, rfl, h1, h2, h3⟩ := hrel
    have HR : Hid (SetAt wr w.heap.size w.heap.size (fun c => if c.toNat < k then !f c else f c) ∧ SetAt wr w.heap.size (w.heap.size + 1) (fun _ => false) ∧ Below w.heap.size w wr) := ⟨h1, h2, h3⟩
    clear h1 h2 h3 HW
    by_cases hlt : k < 256
    · have z : (k : Int) < 256 := by omega
      obtain ⟨b, hb⟩ : ∃ b, b = f (UInt8.ofNat k) := ⟨_, rfl⟩
      have hn : (UInt8.ofNat k).toNat = k := by rw [UInt8.toNat_ofNat']; omega
      have d0 : wr.cell? ⟨w.heap.size, k, none⟩ = some (.bool b) := by
        have := HR.out.1.cell (setA_get _ k hlt)
        rw [hn, if_neg (Nat.lt_irrefl _), ← hb] at this
        exact this
      have f0 := HR.out.1.frozen k
      have HN : Hid (SetAt (wr.setCell ⟨w.heap.size, k, none⟩ (.bool (!b))) w.heap.size w.heap.size (fun c => if c.toNat < k + 1 then !f c else f c) ∧ SetAt (wr.setCell ⟨w.heap.size, k, none⟩ (.bool (!b))) w.heap.size (w.heap.size + 1) (fun _ => false) ∧ Below w.heap.size w (wr.setCell ⟨w.heap.size, k, none⟩ (.bool (!b)))) := by
        refine ⟨?_, HR.out.2.1.beside (by omega) k _, below_set HR.out.2.2 (Nat.le_refl _) k _⟩
        have h4 := HR.out.1.set k (.bool (!b))
        rw [setA_set _ k (!b) hlt] at h4
        refine SetAt.ext h4 ?_
        · intro c
          by_cases hc : c = UInt8.ofNat k
          · rw [if_pos hc, hc, hn, if_pos (by omega), hb]
          · rw [if_neg hc]
            have : ¬ c.toNat = k := fun q => hc (UInt8.toNat_inj.1 (by rw [hn]; exact q))
            by_cases h5 : c.toNat < k
            · rw [if_pos h5, if_pos (by omega)]
            · rw [if_neg h5, if_neg (by omega)]
      clear hb hn HR
      go_wp2_with fail
      go_roundw
      case rel => exact ⟨k + 1, by omega, by go_num, HN.out.1, HN.out.2.1, HN.out.2.2⟩
      case measure => simp [intOf]; omega
    · obtain rfl : k = 256 := by omega
      have h0 := SetAt.heap (SetAt.ext HR.out.1 (f' := fun c => !f c) (fun c => if_pos (UInt8.toNat_lt c)))
      have h1 := SetAt.heap HR.out.2.1
      have hB : Below w.heap.size w (wr.setRow (w.heap.size + 1) (setA (fun c => !f c))) := Below.setRow' HR.out.2.2 (by omega) _
      have hi : (Try.prog.info? 187).map (·.size) = some 256 := (zero_of_info info_set).2
      clear HR
      go_upto_region 6 with fail
      apply wp_region_list
      refine wpList_load_row rfl 187 _ rfl w.heap.size rfl 187 (setA (fun c => !f c)) (0, 0) _ h0 Try.underlying187 rfl (by rw [setA_size]; exact hi) ?_
      refine wpList_store_row rfl 187 _ _ rfl (w.heap.size + 1) (setA (fun c => !f c)) rfl rfl 187 (setA (fun _ => false)) h1 (by rw [setA_size]; exact hi) (by rw [setA_size, setA_size]) (setA_one _) ?_
      have hr := setRow_heap _ _ _ (setA (fun c => !f c)) _ _ h1
      obtain ⟨W2, hW2⟩ : ∃ W2, W2 = wr.setRow (w.heap.size + 1) (setA (fun c => !f c)) := ⟨_, rfl⟩
      rw [← hW2] at hB hr ⊢
      clear hW2 h0 h1
      apply wpList_nil
      go_wp2_with fail
      refine bodyPost_ret (v := .agg (setA (fun c => !f c))) (results_cell_row rfl _ _ (w.heap.size + 1) _ _ _ _ rfl hr Try.underlying187 rfl (by rw [setA_size]; exact hi)) rfl ⟨rfl, hB⟩

end Go.Proofs.Ytnncedndlhfdkab

/-
  (*impl.patternReader): classByte, item, class.
-/
namespace Go.Proofs.Ytnncedndlhfdkab
open Go.ChangeShapes Go.WideShapes Go.ChangeAt Go.RowKit Go.Deep
set_option linter.unusedVariables false
set_option linter.unusedSimpArgs false
set_option maxRecDepth 100000

theorem chM_in {p : List UInt8} {i : Nat} (h : inB p i [93, 45] = true) : chM p i = (0, i, false) := by
  unfold inB at h
  unfold chM
  split at h
  · next c hc =>
    rw [hc]
    have : c = 93 ∨ c = 45 := by simpa using h
    simp only []
    rw [if_pos this]
  · cases h
theorem chM_end {p : List UInt8} {i : Nat} (h : p[i]? = none) : chM p i = (0, i, false) := by
  unfold chM; rw [h]
theorem chM_esc {p : List UInt8} {i : Nat} (h : p[i]? = some 92) : chM p i = match p[i + 1]? with | none => (0, i + 1, false) | some d => (d, i + 2, true) := by
  unfold chM; rw [h]; rfl
theorem chM_plain {p : List UInt8} {i : Nat} {c : UInt8} (h : p[i]? = some c) (h1 : inB p i [93, 45] = false) (h2 : ¬ c = 92) : chM p i = (c, i + 1, true) := by
  unfold inB at h1
  unfold chM
  rw [h] at h1 ⊢
  have : ¬ (c = 93 ∨ c = 45) := by simpa using h1
  simp only []
  rw [if_neg this, if_neg h2]

set_option maxHeartbeats 2000000 in
theorem classByte_core {base g i o : Nat} {p : ByteArray} {w : World} (h : PrAt w base g p i o) (hp : p.size ≤ 200) (hi : i ≤ p.size) :
    Calls Try.prog 136 #[.pointer (some ⟨g, 0, none⟩)] w fun e w' => Chg (fun k => k = g) w w' ∧
      ((∃ (x : UInt8) (k : Nat), chM (sb p) i = (x, k, true) ∧ e = .returned (.int .u8 (x.toNat : Int)) ∧ PrAt w' base g p k o) ∨ (∃ (x : UInt8) (k : Nat), chM (sb p) i = (x, k, false) ∧ e = Pf 2 k)) := by
  have HP : Hid (PrAt w base g p i o) := h
  clear h
  go_enter Try.func136, Try.ntmps136
  go_wp2_with fail
  refine (pnextIn_core ⟨#[93, 45]⟩ HP.out hp).mono ?_
  rintro e w1 ⟨rfl, hb1⟩
  have HP1 : Hid (PrAt w1 base g p i o ∧ Chg (fun k => k = g) w w1) := ⟨BoxAt.below HP.out hb1, Chg.of_below hb1⟩
  obtain ⟨q, hq⟩ : ∃ q, q = inB (sb p) i (sb ⟨#[93, 45]⟩) := ⟨_, rfl⟩
  have HQ : Hid (inB (sb p) i [93, 45] = q) := hq.symm
  rw [← hq]
  clear hb1 hq HP
  go_wp2_with fail
  refine (pdem_core (!q) HP1.out.1).mono ?_
  rintro e w2 ⟨rfl, (⟨hc, rfl⟩ | ⟨hc, rfl⟩)⟩
  case inr =>
    have hq : q = true := by simpa using hc
    refine ⟨rfl, HP1.out.2, .inr ⟨0, i, chM_in (by rw [HQ.out, hq]), rfl⟩⟩
  have hq : q = false := by simpa using hc
  subst hq
  clear hc
  go_wp2_with fail
  refine (ptake_core HP1.out.1 hp hi).mono ?_
  rintro e w3 ⟨hC3, (⟨x, hx, rfl, hP3⟩ | ⟨hx, rfl⟩)⟩
  case inr => exact ⟨rfl, HP1.out.2.trans hC3, .inr ⟨0, i, chM_end hx, rfl⟩⟩
  have HP3 : Hid (PrAt w3 base g p (i + 1) o ∧ Chg (fun k => k = g) w w3 ∧ (sb p)[i]? = some x) := ⟨hP3, HP1.out.2.trans hC3, hx⟩
  have hi1 : i + 1 ≤ p.size := by
    have := (List.getElem?_eq_some_iff.1 hx).1
    rw [sb_len] at this; omega
  clear hC3 hx hP3 HP1
  by_cases h92 : x = 92
  · subst h92
    go_wp2_with fail
    refine (ptake_core HP3.out.1 hp hi1).mono ?_
    rintro e w4 ⟨hC4, (⟨y, hy, rfl, hP4⟩ | ⟨hy, rfl⟩)⟩
    case inr => exact ⟨rfl, HP3.out.2.1.trans hC4, .inr ⟨0, i + 1, by rw [chM_esc HP3.out.2.2, hy], rfl⟩⟩
    have HF : Hid (Chg (fun k => k = g) w w4 ∧ chM (sb p) i = (y, i + 2, true) ∧ PrAt w4 base g p (i + 2) o) := ⟨HP3.out.2.1.trans hC4, by rw [chM_esc HP3.out.2.2, hy], hP4⟩
    clear hC4 hy hP4
    go_wp2_with fail
    go_ret
    exact ⟨HF.out.1, .inl ⟨y, i + 2, HF.out.2.1, rfl, HF.out.2.2⟩⟩
  · have z : ¬ (x.toNat : Int) = 92 := fun q => h92 (UInt8.toNat_inj.1 (by show x.toNat = 92; omega))
    go_wp2_with fail
    go_ret
    exact ⟨HP3.out.2.1, .inl ⟨x, i + 1, chM_plain HP3.out.2.2 HQ.out h92, rfl, HP3.out.1⟩⟩
end Go.Proofs.Ytnncedndlhfdkab

/-
  (*impl.patternReader): item, class.
-/
namespace Go.Proofs.Ytnncedndlhfdkab
open Go.ChangeShapes Go.WideShapes Go.ChangeAt Go.RowKit Go.Deep
set_option linter.unusedVariables false
set_option linter.unusedSimpArgs false
set_option maxRecDepth 100000

/-- The set with the bytes from a to b besides. -/
def wider (f : UInt8 → Bool) (a b : UInt8) : UInt8 → Bool := fun c => f c || (decide (a ≤ c) && decide (c ≤ b))
/-- What turns in new blocks turns in none of the old ones. -/
theorem Chg.absorb {S T : Nat → Prop} {w w1 w2 : World} (h : Chg S w w1) (k : Chg T w1 w2) (hT : ∀ j, T j → S j ∨ w.heap.size ≤ j) : Chg S w w2 :=
  ⟨k.os.trans h.os, k.tape.trans h.tape, k.output.trans h.output, Nat.le_trans h.size k.size, fun i hi hn => (k.block i (Nat.lt_of_lt_of_le hi h.size) (fun q => by rcases hT i q with q | q; exact hn q; omega)).trans (h.block i hi hn)⟩
theorem wrap64_u8 (a : UInt8) : wrap64 (a.toNat : Int) = (a.toNat : Int) := by
  have := UInt8.toNat_lt a
  unfold wrap64
  omega
theorem chg_setRow (w : World) (g : Nat) (cs : Array Value) : Chg (fun k => k = g) w (w.setRow g cs) := ⟨rfl, rfl, rfl, by simp, fun k hk hn => setRow_other w g k cs hn⟩

set_option maxHeartbeats 8000000 in
theorem item_core {base g i o : Nat} {p : ByteArray} (f : UInt8 → Bool) {w : World} (h : PrAt w base g p i o) (hp : p.size ≤ 200) (hi : i ≤ p.size) :
    Calls Try.prog 135 #[.pointer (some ⟨g, 0, none⟩), .agg (setA f)] w fun e w' => Chg (fun k => k = g) w w' ∧
      ((∃ (a b : UInt8) (k : Nat), itemM (sb p) i = .inl (a, b, k) ∧ e = .returned (.agg (setA (wider f a b))) ∧ PrAt w' base g p k o) ∨ (∃ (c : Int) (k : Nat), itemM (sb p) i = .inr (c, k) ∧ e = Pf c k)) := by
  have hgl := h.lt.2
  obtain ⟨W0, hW0⟩ : ∃ W0, W0 = (w.alloc (.cells (setA f) 187)).alloc (.cells (setA (fun _ => false)) 187) := ⟨_, rfl⟩
  have HW : Hid (SetAt W0 w.heap.size w.heap.size f ∧ SetAt W0 w.heap.size (w.heap.size + 1) (fun _ => false) ∧ PrAt W0 base g p i o ∧ Chg (fun k => k = g) w W0) := by
    rw [hW0]
    have hb : Below w.heap.size w ((w.alloc (.cells (setA f) 187)).alloc (.cells (setA (fun _ => false)) 187)) := ((Below.refl _ _).alloc (Nat.le_refl _) _).alloc (by simp) _
    refine ⟨BoxAt.ofHeap (heap_alloc2_old w _ _) (Nat.le_refl _) (setA_size _), BoxAt.ofHeap (heap_alloc2_new w _ _) (by omega) (setA_size _), BoxAt.below h hb, Chg.of_below hb⟩
  have hzv := (zero_of_info info_set).1
  rw [setA_none] at hW0
  have c1 := HW.out.2.2.1.cell (j := 1) rfl
  clear h
  go_enter Try.func135, Try.ntmps135
  go_upto_region 1 with fail
  rw [← hW0]
  clear hW0 hzv
  go_wp2_with fail
  clear c1
  refine (classByte_core HW.out.2.2.1 hp hi).mono ?_
  rintro e w1 ⟨hC1, (⟨a, k1, hk1, rfl, hP1⟩ | ⟨x, k, hk, rfl⟩)⟩
  case inr =>
    refine ⟨rfl, HW.out.2.2.2.trans hC1, .inr ⟨2, k, ?_, rfl⟩⟩
    unfold itemM; rw [hk]
  have HW1 : Hid (SetAt w1 w.heap.size w.heap.size f ∧ SetAt w1 w.heap.size (w.heap.size + 1) (fun _ => false) ∧ PrAt w1 base g p k1 o ∧ Chg (fun k => k = g) w w1) := ⟨BoxAt.chg HW.out.1 hC1 (by omega), BoxAt.chg HW.out.2.1 hC1 (by omega), hP1, HW.out.2.2.2.trans hC1⟩
  have HK1 : Hid (chM (sb p) i = (a, k1, true)) := hk1
  have hk1p : k1 ≤ p.size := by have := (chM_gt hk1).2; rw [sb_len] at this; exact this
  clear hC1 hk1 hP1 HW
  go_wp2_with fail
  refine (pskip_core 45 HW1.out.2.2.1 hp).mono ?_
  rintro e w2 ⟨hC2, h2⟩
  have HW2 : Hid (SetAt w2 w.heap.size w.heap.size f ∧ SetAt w2 w.heap.size (w.heap.size + 1) (fun _ => false) ∧ Chg (fun k => k = g) w w2) := ⟨BoxAt.chg HW1.out.1 hC2 (by omega), BoxAt.chg HW1.out.2.1 hC2 (by omega), HW1.out.2.2.2.trans hC2⟩
  clear hC2 HW1
  rcases h2 with ⟨hx, rfl, hP2⟩ | ⟨hx, rfl, hP2⟩
  case' inl =>
    have HP2 : Hid (PrAt w2 base g p (k1 + 1) o ∧ (sb p)[k1]? = some 45) := ⟨hP2, hx⟩
    have hk2 : k1 + 1 ≤ p.size := by have := (List.getElem?_eq_some_iff.1 hx).1; rw [sb_len] at this; omega
    clear hP2 hx
    go_wp2_with fail
    refine (classByte_core HP2.out.1 hp hk2).mono ?_
    rintro e w5 ⟨hC5, h5⟩
    have HW5 : Hid (SetAt w5 w.heap.size w.heap.size f ∧ SetAt w5 w.heap.size (w.heap.size + 1) (fun _ => false) ∧ Chg (fun k => k = g) w w5) := ⟨BoxAt.chg HW2.out.1 hC5 (by omega), BoxAt.chg HW2.out.2.1 hC5 (by omega), HW2.out.2.2.trans hC5⟩
    clear hC5 HW2
    rcases h5 with ⟨b, k5, hk5, rfl, hP5⟩ | ⟨x, k, hk, rfl⟩
    case inr =>
      refine ⟨rfl, HW5.out.2.2, .inr ⟨2, k, ?_, rfl⟩⟩
      unfold itemM; rw [HK1.out]; simp only []; rw [if_pos HP2.out.2, hk]
    have HI : Hid (PrAt w5 base g p k5 o ∧ itemM (sb p) i = if b < a then .inr (4, i) else .inl (a, b, k5)) := by
      refine ⟨hP5, ?_⟩
      unfold itemM; rw [HK1.out]; simp only []; rw [if_pos HP2.out.2, hk5]
    clear hk5 hP5 HP2 hk2
  case' inr =>
    obtain ⟨w5, hw5⟩ : ∃ w5, w5 = w2 := ⟨_, rfl⟩
    obtain ⟨k5, hk5⟩ : ∃ k5 : Nat, k5 = k1 := ⟨_, rfl⟩
    have HW5 : Hid (SetAt w5 w.heap.size w.heap.size f ∧ SetAt w5 w.heap.size (w.heap.size + 1) (fun _ => false) ∧ Chg (fun k => k = g) w w5) := by rw [hw5]; exact HW2.out
    have HI2 : Hid (PrAt w5 base g p k5 o ∧ itemM (sb p) i = .inl (a, a, k5)) := by
      rw [hw5, hk5]
      refine ⟨hP2, ?_⟩
      unfold itemM; rw [HK1.out]; simp only []; rw [if_neg hx]
    rw [← hw5]
    clear hw5 hP2 hx HW2 hk5
  case inl =>
    clear HK1 hk1p
    by_cases hba : b < a
    · have z : (b.toNat : Int) < (a.toNat : Int) := by have := UInt8.lt_iff_toNat_lt.1 hba; omega
      go_wp2_with fail
      exact ⟨rfl, HW5.out.2.2, .inr ⟨4, i, by rw [HI.out.2, if_pos hba], rfl⟩⟩
    · have z : (a.toNat : Int) ≤ (b.toNat : Int) := by have := UInt8.le_iff_toNat_le.1 (UInt8.not_lt.1 hba); omega
      have HI2 : Hid (PrAt w5 base g p k5 o ∧ itemM (sb p) i = .inl (a, b, k5)) := ⟨HI.out.1, by rw [HI.out.2, if_neg hba]⟩
      clear HI hba
      go_wp2_with fail
      go_loopw [8] (fun bv wr => ∃ (k : Nat), a.toNat ≤ k ∧ k ≤ b.toNat + 1 ∧ bv = .int .i64 k ∧ SetAt wr w.heap.size w.heap.size (fun c => f c || (decide (a ≤ c) && decide (c.toNat < k))) ∧ SetAt wr w.heap.size (w.heap.size + 1) (fun _ => false) ∧ PrAt wr base g p k5 o ∧ Chg (fun k => k = g) w wr) (fun bv _ => 256 - (intOf bv).toNat)
      case atStart =>
        refine ⟨a.toNat, Nat.le_refl _, by omega, congrArg (Value.int .i64) (wrap64_u8 a), SetAt.ext HW5.out.1 (fun c => ?_), HW5.out.2.1, HI2.out.1, HW5.out.2.2⟩
        by_cases q : a ≤ c
        · have := UInt8.le_iff_toNat_le.1 q
          rw [decide_eq_false (show ¬ c.toNat < a.toNat by omega)]; simp
        · rw [decide_eq_false q]; simp
      case round =>
        obtain ⟨k, hk0, hk1, rfl, h1, h2, h3, h4⟩ := hrel
        have HR : Hid (SetAt wr w.heap.size w.heap.size (fun c => f c || (decide (a ≤ c) && decide (c.toNat < k))) ∧ SetAt wr w.heap.size (w.heap.size + 1) (fun _ => false) ∧ PrAt wr base g p k5 o ∧ Chg (fun k => k = g) w wr) := ⟨h1, h2, h3, h4⟩
        clear h1 h2 h3 h4 HW5
        have hb256 := UInt8.toNat_lt b
        by_cases hlt : k ≤ b.toNat
        · have z2 : (k : Int) ≤ (b.toNat : Int) := by omega
          have z3 : (k : Int) < 256 := by omega
          obtain ⟨v, hv⟩ : ∃ v, (setA (fun c => f c || (decide (a ≤ c) && decide (c.toNat < k)))).toList[k]? = some v := ⟨_, setA_get _ k (by omega)⟩
          have d0 := HR.out.1.cell hv
          have f0 := HR.out.1.frozen k
          have HN : Hid (SetAt (wr.setCell ⟨w.heap.size, k, none⟩ (.bool true)) w.heap.size w.heap.size (fun c => f c || (decide (a ≤ c) && decide (c.toNat < k + 1))) ∧ SetAt (wr.setCell ⟨w.heap.size, k, none⟩ (.bool true)) w.heap.size (w.heap.size + 1) (fun _ => false) ∧ PrAt (wr.setCell ⟨w.heap.size, k, none⟩ (.bool true)) base g p k5 o ∧ Chg (fun k => k = g) w (wr.setCell ⟨w.heap.size, k, none⟩ (.bool true))) := by
            refine ⟨?_, BoxAt.beside HR.out.2.1 (by omega) k _, BoxAt.beside HR.out.2.2.1 (by omega) k _, HR.out.2.2.2.absorb (Chg.of_set wr w.heap.size k _ (S := fun q => q = w.heap.size) rfl) (fun j q => .inr (by omega))⟩
            have h5 := HR.out.1.set k (.bool true)
            rw [setA_set _ k true (by omega)] at h5
            have hn : (UInt8.ofNat k).toNat = k := by rw [UInt8.toNat_ofNat']; omega
            refine SetAt.ext h5 (fun c => ?_)
            by_cases hc : c = UInt8.ofNat k
            · have h6 : a ≤ c := UInt8.le_iff_toNat_le.2 (by rw [hc, hn]; exact hk0)
              rw [if_pos hc, decide_eq_true h6, decide_eq_true (show c.toNat < k + 1 by rw [hc, hn]; omega)]; simp
            · rw [if_neg hc]
              have h6 : ¬ c.toNat = k := fun q => hc (UInt8.toNat_inj.1 (by rw [hn]; exact q))
              rw [show decide (c.toNat < k + 1) = decide (c.toNat < k) from decide_eq_decide.2 ⟨fun q => by omega, fun q => by omega⟩]
          clear hv HR
          go_wp2_with fail
          go_roundw
          case rel => exact ⟨k + 1, by omega, by omega, by go_num, HN.out.1, HN.out.2.1, HN.out.2.2.1, HN.out.2.2.2⟩
          case measure => simp [intOf]; omega
        · obtain rfl : k = b.toNat + 1 := by omega
          have z2 : ¬ ((b.toNat : Int) + 1) ≤ (b.toNat : Int) := by omega
          have h0 := SetAt.heap (SetAt.ext HR.out.1 (f' := wider f a b) (fun c => by
            unfold wider
            rw [show decide (c.toNat < b.toNat + 1) = decide (c ≤ b) from decide_eq_decide.2 ⟨fun q => UInt8.le_iff_toNat_le.2 (by omega), fun q => by have := UInt8.le_iff_toNat_le.1 q; omega⟩]))
          have h1 := SetAt.heap HR.out.2.1
          have HC : Hid (Chg (fun k => k = g) w (wr.setRow (w.heap.size + 1) (setA (wider f a b))) ∧ PrAt (wr.setRow (w.heap.size + 1) (setA (wider f a b))) base g p k5 o) := by
            have hc := chg_setRow wr (w.heap.size + 1) (setA (wider f a b))
            exact ⟨HR.out.2.2.2.absorb hc (fun j q => .inr (by omega)), BoxAt.chg HR.out.2.2.1 hc (by omega)⟩
          have hi : (Try.prog.info? 187).map (·.size) = some 256 := (zero_of_info info_set).2
          clear HR
          go_upto_region 12 with fail
          apply wp_region_list
          refine wpList_load_row rfl 187 _ rfl w.heap.size rfl 187 (setA (wider f a b)) (0, 0) _ h0 Try.underlying187 rfl (by rw [setA_size]; exact hi) ?_
          refine wpList_store_row rfl 187 _ _ rfl (w.heap.size + 1) (setA (wider f a b)) rfl rfl 187 (setA (fun _ => false)) h1 (by rw [setA_size]; exact hi) (by rw [setA_size, setA_size]) (setA_one _) ?_
          have hr := setRow_heap _ _ _ (setA (wider f a b)) _ _ h1
          obtain ⟨W2, hW2⟩ : ∃ W2, W2 = wr.setRow (w.heap.size + 1) (setA (wider f a b)) := ⟨_, rfl⟩
          rw [← hW2] at HC hr ⊢
          clear hW2 h0 h1
          apply wpList_nil
          go_wp2_with fail
          refine bodyPost_ret (v := .agg (setA (wider f a b))) (results_cell_row rfl _ _ (w.heap.size + 1) _ _ _ _ rfl hr Try.underlying187 rfl (by rw [setA_size]; exact hi)) rfl ⟨HC.out.1, .inl ⟨a, b, k5, HI2.out.2, rfl, HC.out.2⟩⟩
  case inr =>
    clear HK1 hk1p
    go_wp2_with fail
    go_loopw [8] (fun bv wr => ∃ (k : Nat), a.toNat ≤ k ∧ k ≤ a.toNat + 1 ∧ bv = .int .i64 k ∧ SetAt wr w.heap.size w.heap.size (fun c => f c || (decide (a ≤ c) && decide (c.toNat < k))) ∧ SetAt wr w.heap.size (w.heap.size + 1) (fun _ => false) ∧ PrAt wr base g p k5 o ∧ Chg (fun k => k = g) w wr) (fun bv _ => 256 - (intOf bv).toNat)
    case atStart =>
      refine ⟨a.toNat, Nat.le_refl _, by omega, congrArg (Value.int .i64) (wrap64_u8 a), SetAt.ext HW5.out.1 (fun c => ?_), HW5.out.2.1, HI2.out.1, HW5.out.2.2⟩
      by_cases q : a ≤ c
      · have := UInt8.le_iff_toNat_le.1 q
        rw [decide_eq_false (show ¬ c.toNat < a.toNat by omega)]; simp
      · rw [decide_eq_false q]; simp
    case round =>
      obtain ⟨k, hk0, hk1, rfl, h1, h2, h3, h4⟩ := hrel
      have HR : Hid (SetAt wr w.heap.size w.heap.size (fun c => f c || (decide (a ≤ c) && decide (c.toNat < k))) ∧ SetAt wr w.heap.size (w.heap.size + 1) (fun _ => false) ∧ PrAt wr base g p k5 o ∧ Chg (fun k => k = g) w wr) := ⟨h1, h2, h3, h4⟩
      clear h1 h2 h3 h4 HW5
      have hb256 := UInt8.toNat_lt a
      by_cases hlt : k ≤ a.toNat
      · have z2 : (k : Int) ≤ (a.toNat : Int) := by omega
        have z3 : (k : Int) < 256 := by omega
        obtain ⟨v, hv⟩ : ∃ v, (setA (fun c => f c || (decide (a ≤ c) && decide (c.toNat < k)))).toList[k]? = some v := ⟨_, setA_get _ k (by omega)⟩
        have d0 := HR.out.1.cell hv
        have f0 := HR.out.1.frozen k
        have HN : Hid (SetAt (wr.setCell ⟨w.heap.size, k, none⟩ (.bool true)) w.heap.size w.heap.size (fun c => f c || (decide (a ≤ c) && decide (c.toNat < k + 1))) ∧ SetAt (wr.setCell ⟨w.heap.size, k, none⟩ (.bool true)) w.heap.size (w.heap.size + 1) (fun _ => false) ∧ PrAt (wr.setCell ⟨w.heap.size, k, none⟩ (.bool true)) base g p k5 o ∧ Chg (fun k => k = g) w (wr.setCell ⟨w.heap.size, k, none⟩ (.bool true))) := by
          refine ⟨?_, BoxAt.beside HR.out.2.1 (by omega) k _, BoxAt.beside HR.out.2.2.1 (by omega) k _, HR.out.2.2.2.absorb (Chg.of_set wr w.heap.size k _ (S := fun q => q = w.heap.size) rfl) (fun j q => .inr (by omega))⟩
          have h5 := HR.out.1.set k (.bool true)
          rw [setA_set _ k true (by omega)] at h5
          have hn : (UInt8.ofNat k).toNat = k := by rw [UInt8.toNat_ofNat']; omega
          refine SetAt.ext h5 (fun c => ?_)
          by_cases hc : c = UInt8.ofNat k
          · have h6 : a ≤ c := UInt8.le_iff_toNat_le.2 (by rw [hc, hn]; exact hk0)
            rw [if_pos hc, decide_eq_true h6, decide_eq_true (show c.toNat < k + 1 by rw [hc, hn]; omega)]; simp
          · rw [if_neg hc]
            have h6 : ¬ c.toNat = k := fun q => hc (UInt8.toNat_inj.1 (by rw [hn]; exact q))
            rw [show decide (c.toNat < k + 1) = decide (c.toNat < k) from decide_eq_decide.2 ⟨fun q => by omega, fun q => by omega⟩]
        clear hv HR
        go_wp2_with fail
        go_roundw
        case rel => exact ⟨k + 1, by omega, by omega, by go_num, HN.out.1, HN.out.2.1, HN.out.2.2.1, HN.out.2.2.2⟩
        case measure => simp [intOf]; omega
      · obtain rfl : k = a.toNat + 1 := by omega
        have z2 : ¬ ((a.toNat : Int) + 1) ≤ (a.toNat : Int) := by omega
        have h0 := SetAt.heap (SetAt.ext HR.out.1 (f' := wider f a a) (fun c => by
          unfold wider
          rw [show decide (c.toNat < a.toNat + 1) = decide (c ≤ a) from decide_eq_decide.2 ⟨fun q => UInt8.le_iff_toNat_le.2 (by omega), fun q => by have := UInt8.le_iff_toNat_le.1 q; omega⟩]))
        have h1 := SetAt.heap HR.out.2.1
        have HC : Hid (Chg (fun k => k = g) w (wr.setRow (w.heap.size + 1) (setA (wider f a a))) ∧ PrAt (wr.setRow (w.heap.size + 1) (setA (wider f a a))) base g p k5 o) := by
          have hc := chg_setRow wr (w.heap.size + 1) (setA (wider f a a))
          exact ⟨HR.out.2.2.2.absorb hc (fun j q => .inr (by omega)), BoxAt.chg HR.out.2.2.1 hc (by omega)⟩
        have hi : (Try.prog.info? 187).map (·.size) = some 256 := (zero_of_info info_set).2
        clear HR
        go_upto_region 12 with fail
        apply wp_region_list
        refine wpList_load_row rfl 187 _ rfl w.heap.size rfl 187 (setA (wider f a a)) (0, 0) _ h0 Try.underlying187 rfl (by rw [setA_size]; exact hi) ?_
        refine wpList_store_row rfl 187 _ _ rfl (w.heap.size + 1) (setA (wider f a a)) rfl rfl 187 (setA (fun _ => false)) h1 (by rw [setA_size]; exact hi) (by rw [setA_size, setA_size]) (setA_one _) ?_
        have hr := setRow_heap _ _ _ (setA (wider f a a)) _ _ h1
        obtain ⟨W2, hW2⟩ : ∃ W2, W2 = wr.setRow (w.heap.size + 1) (setA (wider f a a)) := ⟨_, rfl⟩
        rw [← hW2] at HC hr ⊢
        clear hW2 h0 h1
        apply wpList_nil
        go_wp2_with fail
        refine bodyPost_ret (v := .agg (setA (wider f a a))) (results_cell_row rfl _ _ (w.heap.size + 1) _ _ _ _ rfl hr Try.underlying187 rfl (by rw [setA_size]; exact hi)) rfl ⟨HC.out.1, .inl ⟨a, a, k5, HI2.out.2, rfl, HC.out.2⟩⟩
end Go.Proofs.Ytnncedndlhfdkab

/-
  (*impl.patternReader).class.
-/
namespace Go.Proofs.Ytnncedndlhfdkab
open Go.ChangeShapes Go.WideShapes Go.ChangeAt Go.RowKit Go.Deep
set_option linter.unusedVariables false
set_option linter.unusedSimpArgs false
set_option maxRecDepth 100000

theorem cls_first {p : List UInt8} {j : Nat} {f : UInt8 → Bool} (hj : j ≤ p.length) : clsM p j false f = match itemM p j with | .inr e => .inr e | .inl (a, b, k) => clsM p k true (wider f a b) := by
  by_cases h : j < p.length
  · rw [clsM, dif_pos h, if_neg (by simp)]
    split <;> (next hc => (rw [hc]; first | done | rfl))
  · rw [clsM, dif_neg h]
    have h0 : j = p.length := by omega
    have : itemM p j = .inr (2, p.length) := by
      unfold itemM
      rw [chM_end (List.getElem?_eq_none (by omega)), h0]
    rw [this]
theorem cls_shut {p : List UInt8} {j : Nat} {f : UInt8 → Bool} (h : p[j]? = some 93) : clsM p j true f = .inl (f, j + 1) := by
  rw [clsM, dif_pos (lt_of_at h), if_pos ⟨h, rfl⟩]
theorem cls_more {p : List UInt8} {j : Nat} {f : UInt8 → Bool} (hj : j ≤ p.length) (h : ¬ p[j]? = some 93) : clsM p j true f = match itemM p j with | .inr e => .inr e | .inl (a, b, k) => clsM p k true (wider f a b) := by
  by_cases h1 : j < p.length
  · rw [clsM, dif_pos h1, if_neg (fun q => h q.1)]
    split <;> (next hc => (rw [hc]; first | done | rfl))
  · rw [clsM, dif_neg h1]
    have h0 : j = p.length := by omega
    have : itemM p j = .inr (2, p.length) := by
      unfold itemM
      rw [chM_end (List.getElem?_eq_none (by omega)), h0]
    rw [this]
noncomputable abbrev clsV (f : UInt8 → Bool) : Value := .iface 190 (.agg (setA f))
theorem info_cls : (Try.prog.info? 190).map (fun i => (i.zero, i.size)) = some (some (.agg (Array.replicate 256 (.bool false))), 256) := by kernel_rfl
theorem places_cls : (match Try.prog.underlying 190 with | some (.struct fs) => fs.toList.mapM (fun f => (Try.prog.info? f.type).map fun i => (f.offset, i.size)) | _ => none) = some [(0, 256)] := by kernel_rfl
theorem built_set : Try.prog.built 187 [] = some (setA (fun _ => false)) := by rw [setA_none]; kernel_rfl
theorem fold_fillP : ∀ (l : List Value) (k : Nat) (z : List Value), k + l.length ≤ z.length → (l.zipIdx k).foldl (fun (cs : Array Value) (p : Value × Nat) => cs.setIfInBounds (0 + p.2) p.1) z.toArray = (z.take k ++ l ++ z.drop (k + l.length)).toArray
  | [], k, z, h => by simp
  | x :: l, k, z, h => by
    simp only [List.zipIdx_cons, List.foldl_cons, Nat.zero_add, List.setIfInBounds_toArray]
    have h2 := fold_fillP l (k + 1) (z.set k x) (by simp at h ⊢; omega)
    simp only [Nat.zero_add] at h2
    rw [h2]
    congr 1
    have hk : k < z.length := by simp at h; omega
    rw [List.take_add_one, List.take_set_of_le (Nat.le_refl _), List.getElem?_set_self hk]
    have h3 : (z.set k x).drop (k + 1 + l.length) = z.drop (k + (x :: l).length) := by
      rw [List.drop_set_of_lt (by omega)]
      congr 1
      simp; omega
    rw [h3]
    simp
theorem built_cls (c : Array Value) (hc : c.size = 256) : Try.prog.built 190 [(0, .agg c)] = some c := by
  have hp := places_cls
  cases hi : Try.prog.info? 190 with
  | none => have := info_cls; rw [hi] at this; cases this
  | some it =>
    have h1 := info_cls
    rw [hi] at h1
    simp only [Option.map_some, Option.some.injEq, Prod.mk.injEq] at h1
    cases hu : Try.prog.underlying 190 with
    | none => rw [hu] at hp; cases hp
    | some d =>
      rw [hu] at hp
      cases d <;> try (cases hp; done)
      case struct fs =>
        simp only [] at hp
        unfold Program.built
        rw [hi, hu]
        simp only []
        rw [h1.1, hp]
        simp only []
        show Instr.fill _ (Array.replicate 256 (.bool false)) [(0, .agg c)] = _
        unfold Instr.fill
        have hv : (Value.agg c).cells = c := rfl
        simp only [List.getElem?_toArray, List.getElem?_cons_zero, hv, hc]
        have hz : (Array.replicate 256 (Value.bool false)).size = 256 := by simp
        rw [if_neg (by simp [hz])]
        unfold Instr.fill
        congr 1
        have h3 := fold_fillP c.toList 0 (Array.replicate 256 (Value.bool false)).toList (by simp [hc])
        rw [← Array.foldl_toList, Array.toList_zipIdx]
        have h4 : (Array.replicate 256 (Value.bool false)).toList.toArray = Array.replicate 256 (Value.bool false) := Array.toArray_toList
        rw [h4] at h3
        refine Eq.trans h3 ?_
        have h5 : (Array.replicate 256 (Value.bool false)).toList.drop (0 + c.toList.length) = [] := by
          simp [hc]
        rw [h5]
        apply Array.ext'
        simp

theorem wpList_build_cells {ops : Array Oper} {rest : List Oper} {o : Oper} {a : Act} {w : World} {Q : Exit → Act → World → Prop} (hg : o.guard = none) (t : TypeId) (parts : Array (Nat × Operand)) (ho : o.op = .build t parts) (cells : Array Value)
    (hb : Try.prog.built t (parts.map fun (i, x) => (i, a.eval x)).toList = some cells) (h : wpList Try.prog ops Q rest (a.put o.dst (.agg cells)) w) : wpList Try.prog ops Q (o :: rest) a w := by
  refine wpList_build hg t parts ho (by rw [hb]; rfl) ?_
  rw [hb]
  exact h
theorem wpList_call_of {ops : Array Oper} {rest : List Oper} {o : Oper} {a : Act} {w : World} {Q : Exit → Act → World → Prop} (hgd : o.guard = none) (F : FuncId) (vals : Array Value) (hrun : (execOp a.eval o).run Try.prog w = .ok (.enter F vals) w)
    (h : Calls Try.prog F vals w fun e w' => match e with | .returned v => wpList Try.prog ops Q rest (a.put o.dst v) w' | .panicked chain => Q (.panic chain) a w' | .outgrown => False) : wpList Try.prog ops Q (o :: rest) a w := by
  refine wpList_plain hgd fun K hK => ?_
  unfold Oper.wp
  rw [hrun, Oper.upon_enter]
  refine h.mono ?_
  intro e w' he
  cases e with
  | returned v => exact hK _ _ he
  | panicked chain => exact he
  | outgrown => exact he.elim
theorem wpList_moveS {ops : Array Oper} {rest : List Oper} {o : Oper} {a : Act} {w : World} {Q : Exit → Act → World → Prop} (hg : o.guard = none) (x : Operand) (ho : o.op = .move x) (h : wpList Try.prog ops Q rest (a.put o.dst (a.eval x)) w) : wpList Try.prog ops Q (o :: rest) a w := by
  refine wpList_plain hg fun K hK => ?_
  unfold Oper.wp execOp
  simp only [ho, Sem.run_pure]
  exact hK _ _ h
/-- What a class comes to, seen from within. -/
def ClsEq (p : List UInt8) (i : Nat) (ng : Bool) (k : Nat) (b : Bool) (f : UInt8 → Bool) : Prop := classM p i = (match clsM p k b f with | .inl (f, k) => .inl ((if ng = true then fun c => !f c else f), k) | .inr e => .inr e)
theorem ClsEq.eq {p : List UInt8} {i : Nat} {ng : Bool} {k : Nat} {b : Bool} {f : UInt8 → Bool} (h : ClsEq p i ng k b f) : classM p i = (match clsM p k b f with | .inl (f, k) => .inl ((if ng = true then fun c => !f c else f), k) | .inr e => .inr e) := h
/-- The place at which a reader stands. -/
def atOf (w : World) (g : Nat) : Nat := match w.cell? ⟨g, 1, none⟩ with | some v => (intOf v).toNat | none => 0
theorem atOf_pr {w : World} {base g i o : Nat} {p : ByteArray} (h : PrAt w base g p i o) : atOf w g = i := by
  unfold atOf; rw [h.cell (j := 1) rfl]; simp [intOf]

set_option maxHeartbeats 8000000 in
theorem class_core {base g i o : Nat} {p : ByteArray} {w : World} (h : PrAt w base g p i o) (hp : p.size ≤ 200) (hi : i ≤ p.size) :
    Calls Try.prog 133 #[.pointer (some ⟨g, 0, none⟩)] w fun e w' => Chg (fun k => k = g) w w' ∧
      ((∃ (f : UInt8 → Bool) (k : Nat), classM (sb p) i = .inl (f, k) ∧ e = .returned (clsV f) ∧ PrAt w' base g p k o) ∨ (∃ (c : Int) (k : Nat), classM (sb p) i = .inr (c, k) ∧ e = Pf c k)) := by
  have hgl := h.lt.2
  have HP : Hid (PrAt w base g p i o) := h
  clear h
  go_enter Try.func133, Try.ntmps133
  go_wp2_with fail
  refine (pskip_core 94 HP.out hp).mono ?_
  rintro e w1 ⟨hC1, h1⟩
  obtain ⟨ng, j, rfl, hj, hP1, hM⟩ : ∃ (ng : Bool) (j : Nat), e = .returned (.bool ng) ∧ j ≤ p.size ∧ PrAt w1 base g p j o ∧ ClsEq (sb p) i ng j false (fun _ => false) := by
    rcases h1 with ⟨hx, rfl, hP⟩ | ⟨hx, rfl, hP⟩
    · refine ⟨true, i + 1, rfl, by have := (List.getElem?_eq_some_iff.1 hx).1; rw [sb_len] at this; omega, hP, ?_⟩
      unfold ClsEq classM; rw [if_pos hx]; rfl
    · refine ⟨false, i, rfl, hi, hP, ?_⟩
      unfold ClsEq classM; rw [if_neg hx]
      generalize clsM (sb p) i false (fun _ => false) = r
      cases r <;> rfl
  have HW1 : Hid (PrAt w1 base g p j o ∧ Chg (fun k => k = g) w w1 ∧ ClsEq (sb p) i ng j false (fun _ => false)) := ⟨hP1, hC1, hM⟩
  clear h1 hC1 hP1 hM HP
  go_upto_region 2 with fail
  apply wp_region_list
  refine wpList_moveS rfl _ rfl ?_
  refine wpList_build_cells rfl _ _ rfl (setA (fun _ => false)) (by simp; exact built_set) ?_
  simp only [Act.put, Act.eval, List.setIfInBounds_toArray, List.set_cons_succ, List.set_cons_zero]
  refine wpList_call_of rfl 135 #[.pointer (some ⟨g, 0, none⟩), .agg (setA (fun _ => false))] (by simp [execOp, go_sem, Act.eval, Try.func135]) ?_
  refine (item_core (fun _ => false) HW1.out.1 hp hj).mono ?_
  rintro e w2 ⟨hC2, (⟨a, b, k, hk, rfl, hP2⟩ | ⟨c, k, hk, rfl⟩)⟩
  case inr =>
    refine ⟨rfl, HW1.out.2.1.trans hC2, .inr ⟨c, k, ?_, rfl⟩⟩
    rw [HW1.out.2.2.eq, cls_first (by rw [sb_len]; exact hj), hk]
  obtain ⟨fs, hfs⟩ : ∃ fs, fs = wider (fun _ => false) a b := ⟨_, rfl⟩
  have hkp : k ≤ p.size := by have := (itemM_gt hk).2.1; rw [sb_len] at this; exact this
  have HW2 : Hid (PrAt w2 base g p k o ∧ Chg (fun k => k = g) w w2 ∧ ClsEq (sb p) i ng k true fs) := by
    refine ⟨hP2, HW1.out.2.1.trans hC2, ?_⟩
    unfold ClsEq
    rw [HW1.out.2.2.eq, cls_first (by rw [sb_len]; exact hj), hk, hfs]
  rw [← hfs]
  clear hC2 hk hP2 HW1 hfs
  simp only [Act.put, List.setIfInBounds_toArray, List.set_cons_succ, List.set_cons_zero]
  have hs2 := HW2.out.2.1.size
  have hzv := (zero_of_info info_set).1
  have hsz := setA_size fs
  have hsc := run_storeCells_new (P := Try.prog) w2 187 (Array.replicate 256 (.bool false)) (setA fs) (by rw [setA_size]; exact (zero_of_info info_set).2) (by rw [setA_size]; simp) (setA_one fs)
  obtain ⟨W3, hW3⟩ : ∃ W3, W3 = w2.alloc (.cells (setA fs) 187) := ⟨_, rfl⟩
  have HW3 : Hid (PrAt W3 base g p k o ∧ Chg (fun k => k = g) w W3 ∧ SetAt W3 w.heap.size w2.heap.size fs ∧ w.heap.size ≤ w2.heap.size) := by
    rw [hW3]
    have hb : Below w2.heap.size w2 (w2.alloc (.cells (setA fs) 187)) := (Below.refl _ _).alloc (Nat.le_refl _) _
    exact ⟨BoxAt.below HW2.out.1 hb, HW2.out.2.1.trans (Chg.of_below hb), BoxAt.ofHeap (heap_alloc_last w2 _) hs2 (setA_size fs), hs2⟩
  have HM : Hid (ClsEq (sb p) i ng k true fs) := HW2.out.2.2
  go_wp2_with fail
  rw [← hW3]
  obtain ⟨SB, hSB⟩ : ∃ SB, SB = w2.heap.size := ⟨_, rfl⟩
  rw [← hSB] at HW3
  rw [← hSB]
  have hsbl : w.heap.size ≤ SB := by omega
  clear hW3 hsc hzv hsz HW2 hSB hs2
  have hgsb : ¬ g = SB := by omega
  go_loopw [] (fun wr => ∃ (k : Nat) (f : UInt8 → Bool), k ≤ p.size ∧ PrAt wr base g p k o ∧ Chg (fun k => k = g) w wr ∧ SetAt wr w.heap.size SB f ∧ ClsEq (sb p) i ng k true f) (fun wr => p.size - atOf wr g)
  case atStart => exact ⟨k, fs, hkp, HW3.out.1, HW3.out.2.1, HW3.out.2.2.1, HM.out⟩
  case round =>
    clear HW3 HM
    obtain ⟨k, f, hk, h1, h2, h3, h4⟩ := hrel
    have HR : Hid (PrAt wr base g p k o ∧ Chg (fun k => k = g) w wr ∧ SetAt wr w.heap.size SB f ∧ ClsEq (sb p) i ng k true f) := ⟨h1, h2, h3, h4⟩
    have HA : Hid (atOf wr g = k) := atOf_pr h1
    clear h1 h2 h3 h4 hkp
    go_wp2_with fail
    refine (pskip_core 93 HR.out.1 hp).mono ?_
    rintro e w5 ⟨hC5, (⟨hx, rfl, hP5⟩ | ⟨hx, rfl, hP5⟩)⟩
    · -- the class ends
      have HF : Hid (PrAt w5 base g p (k + 1) o ∧ Chg (fun k => k = g) w w5 ∧ SetAt w5 w.heap.size SB f ∧ classM (sb p) i = .inl ((if ng = true then fun c => !f c else f), k + 1)) := by
        refine ⟨hP5, HR.out.2.1.trans hC5, BoxAt.chg HR.out.2.2.1 hC5 (by omega), ?_⟩
        rw [HR.out.2.2.2.eq, cls_shut hx]
      clear hC5 hx hP5 HR HA
      have hi2 : (Try.prog.info? 187).map (·.size) = some 256 := (zero_of_info info_set).2
      cases ng
      · have h0 := SetAt.heap HF.out.2.2.1
        go_upto_region 7 with fail
        apply wp_region_list
        refine wpList_load_row rfl 187 _ rfl SB rfl 187 (setA f) (0, 0) _ h0 Try.underlying187 rfl (by rw [setA_size]; exact hi2) ?_
        simp only [Act.put, Act.eval, List.setIfInBounds_toArray, List.set_cons_succ, List.set_cons_zero]
        refine wpList_build_cells rfl _ _ rfl (setA f) (by simp [Act.eval]; exact built_cls _ (setA_size f)) ?_
        simp only [Act.put, Act.eval, List.setIfInBounds_toArray, List.set_cons_succ, List.set_cons_zero]
        clear h0
        go_wp2_with fail
        go_ret
        exact ⟨HF.out.2.1, .inl ⟨f, k + 1, HF.out.2.2.2, rfl, HF.out.1⟩⟩
      · have h0 := SetAt.heap HF.out.2.2.1
        go_upto_region 6 with fail
        apply wp_region_list
        refine wpList_load_row rfl 187 _ rfl SB rfl 187 (setA f) (0, 0) _ h0 Try.underlying187 rfl (by rw [setA_size]; exact hi2) ?_
        simp only [Act.put, Act.eval, List.setIfInBounds_toArray, List.set_cons_succ, List.set_cons_zero]
        refine wpList_call_of rfl 131 #[.agg (setA f)] (by simp [execOp, go_sem, Act.eval, Try.func131]) ?_
        refine (opposite_core f w5).mono ?_
        rintro e w6 ⟨rfl, hb6⟩
        simp only [Act.put, Act.eval, List.setIfInBounds_toArray, List.set_cons_succ, List.set_cons_zero]
        have HF6 : Hid (PrAt w6 base g p (k + 1) o ∧ Chg (fun k => k = g) w w6 ∧ SetAt w6 w.heap.size SB f) := ⟨BoxAt.below HF.out.1 hb6, HF.out.2.1.trans (Chg.of_below hb6), BoxAt.below HF.out.2.2.1 hb6⟩
        have h6 := SetAt.heap HF6.out.2.2
        refine wpList_store_row rfl 187 _ _ rfl SB (setA (fun c => !f c)) rfl rfl 187 (setA f) h6 (by rw [setA_size]; exact hi2) (by rw [setA_size, setA_size]) (setA_one _) ?_
        have h7 := setRow_heap _ _ _ (setA (fun c => !f c)) _ _ h6
        obtain ⟨W7, hW7⟩ : ∃ W7, W7 = w6.setRow SB (setA (fun c => !f c)) := ⟨_, rfl⟩
        have HF7 : Hid (PrAt W7 base g p (k + 1) o ∧ Chg (fun k => k = g) w W7) := by
          have hc := chg_setRow w6 SB (setA (fun c => !f c))
          rw [hW7]
          exact ⟨BoxAt.chg HF6.out.1 hc (by omega), HF6.out.2.1.absorb hc (fun j q => .inr (by omega))⟩
        rw [← hW7] at h7 ⊢
        clear hW7 h6 h0 hb6
        apply wpList_nil
        go_upto_region 7 with fail
        apply wp_region_list
        refine wpList_load_row rfl 187 _ rfl SB rfl 187 (setA (fun c => !f c)) (0, 0) _ h7 Try.underlying187 rfl (by rw [setA_size]; exact hi2) ?_
        simp only [Act.put, Act.eval, List.setIfInBounds_toArray, List.set_cons_succ, List.set_cons_zero]
        refine wpList_build_cells rfl _ _ rfl (setA (fun c => !f c)) (by simp [Act.eval]; exact built_cls _ (setA_size _)) ?_
        simp only [Act.put, Act.eval, List.setIfInBounds_toArray, List.set_cons_succ, List.set_cons_zero]
        clear h7
        go_wp2_with fail
        go_ret
        exact ⟨HF7.out.2, .inl ⟨fun c => !f c, k + 1, HF.out.2.2.2, rfl, HF7.out.1⟩⟩
    · have HF : Hid (PrAt w5 base g p k o ∧ Chg (fun k => k = g) w w5 ∧ SetAt w5 w.heap.size SB f ∧ ¬ (sb p)[k]? = some 93) := ⟨hP5, HR.out.2.1.trans hC5, BoxAt.chg HR.out.2.2.1 hC5 (by omega), hx⟩
      have HM : Hid (ClsEq (sb p) i ng k true f) := HR.out.2.2.2
      clear hC5 hx hP5 HR
      have hi2 : (Try.prog.info? 187).map (·.size) = some 256 := (zero_of_info info_set).2
      have h0 := SetAt.heap HF.out.2.2.1
      go_upto_region 4 with fail
      apply wp_region_list
      refine wpList_moveS rfl _ rfl ?_
      refine wpList_load_row rfl 187 _ rfl SB rfl 187 (setA f) (0, 0) _ h0 Try.underlying187 rfl (by rw [setA_size]; exact hi2) ?_
      simp only [Act.put, Act.eval, List.setIfInBounds_toArray, List.set_cons_succ, List.set_cons_zero]
      refine wpList_call_of rfl 135 #[.pointer (some ⟨g, 0, none⟩), .agg (setA f)] (by simp [execOp, go_sem, Act.eval, Try.func135]) ?_
      refine (item_core f HF.out.1 hp hk).mono ?_
      rintro e w6 ⟨hC6, (⟨a, b, k6, hk6, rfl, hP6⟩ | ⟨c, k6, hk6, rfl⟩)⟩
      case inr =>
        refine ⟨rfl, HF.out.2.1.trans hC6, .inr ⟨c, k6, ?_, rfl⟩⟩
        rw [HM.out.eq, cls_more (by rw [sb_len]; exact hk) HF.out.2.2.2, hk6]
      have HF6 : Hid (PrAt w6 base g p k6 o ∧ Chg (fun k => k = g) w w6 ∧ SetAt w6 w.heap.size SB f) := ⟨hP6, HF.out.2.1.trans hC6, BoxAt.chg HF.out.2.2.1 hC6 (by omega)⟩
      have hgt := itemM_gt hk6
      rw [sb_len] at hgt
      have HM6 : Hid (ClsEq (sb p) i ng k6 true (wider f a b)) := by
        show ClsEq _ _ _ _ _ _
        unfold ClsEq
        rw [HM.out.eq, cls_more (by rw [sb_len]; exact hk) HF.out.2.2.2, hk6]
      clear hC6 hk6 hP6 h0 HM HF
      simp only [Act.put, Act.eval, List.setIfInBounds_toArray, List.set_cons_succ, List.set_cons_zero]
      have h6 := SetAt.heap HF6.out.2.2
      refine wpList_store_row rfl 187 _ _ rfl SB (setA (wider f a b)) rfl rfl 187 (setA f) h6 (by rw [setA_size]; exact hi2) (by rw [setA_size, setA_size]) (setA_one _) ?_
      have h7 := setRow_heap _ _ _ (setA (wider f a b)) _ _ h6
      obtain ⟨W7, hW7⟩ : ∃ W7, W7 = w6.setRow SB (setA (wider f a b)) := ⟨_, rfl⟩
      have HF7 : Hid (PrAt W7 base g p k6 o ∧ Chg (fun k => k = g) w W7 ∧ SetAt W7 w.heap.size SB (wider f a b)) := by
        have hc := chg_setRow w6 SB (setA (wider f a b))
        rw [← hW7] at h7
        refine ⟨?_, ?_, BoxAt.ofHeap h7 hsbl (setA_size _)⟩
        · rw [hW7]; exact BoxAt.chg HF6.out.1 hc (by omega)
        · rw [hW7]; exact HF6.out.2.1.absorb hc (fun j q => .inr (by omega))
      rw [← hW7]
      clear hW7 h6 h7
      apply wpList_nil
      go_wp2_with fail
      go_roundw
      case rel =>
        exact ⟨_, _, _, _, _, _, ⟨k6, wider f a b, hgt.2.1, HF7.out.1, HF7.out.2.1, HF7.out.2.2, HM6.out⟩, rfl⟩
      case measure => rw [HA.out, atOf_pr HF7.out.1]; omega
end Go.Proofs.Ytnncedndlhfdkab

