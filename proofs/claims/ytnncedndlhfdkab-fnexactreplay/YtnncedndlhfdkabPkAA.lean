import Derived.Test.YtnncedndlhfdkabRows
import Derived.WalkKit
import Derived.ProofKit
import Derived.OpenShut
import Derived.ShutString
import Derived.ChangeOld
import Derived.Below
import Derived.WalkSpells
import Derived.WalkLawsBesides
import Derived.Outline
import Derived.Deep.Light
import Derived.Lib.SmallJoins
import Derived.OwnWalk
import Derived.Deep.MidRow
import Derived.Deep.DeepCutAuto
import Derived.Deep.RegionWith
import Derived.Lib.Bytealg
import Derived.Lib.Slices
import Derived.Lib.Walk
import Derived.Deep.QuietTactic
import Derived.BigQuiet

/-
  Entries by value: the contracts of szEntry, toEntry, spec.ValidEntry, impl.ValidEntry.
-/
namespace Go.Proofs.Ytnncedndlhfdkab
open Go.ChangeShapes Go.WideShapes Go.ChangeAt Go.RowKit
open Go.ChangeMaps (open_string shut_string)

/-- An entry as Lean has it. -/
structure Ent where
  row : ByteArray
  fam : ByteArray
  qual : ByteArray
  ts : Int
  kind : Int
  val : ByteArray

abbrev Ent.v (e : Ent) : Value := .agg #[.string e.row, .string e.fam, .string e.qual, .int .u64 e.ts, .int .i64 e.kind, .string e.val]
/-- It fits its types. -/
structure Ent.ok (e : Ent) : Prop where
  row : e.row.size ≤ maxLen
  fam : e.fam.size ≤ maxLen
  qual : e.qual.size ≤ maxLen
  val : e.val.size ≤ maxLen
  ts : (Lit.int .u64 e.ts).wf = true
  kind : (Lit.int .i64 e.kind).wf = true

def Ent.bulk (e : Ent) : Int := e.row.size + e.fam.size + e.qual.size + e.val.size

set_option maxHeartbeats 400000 in
theorem szEntry_core (r f q v : ByteArray) (t k left : Int) (w : World) (hr : r.size ≤ maxLen) (hf : f.size ≤ maxLen) (hq : q.size ≤ maxLen) (hv : v.size ≤ maxLen) (h0 : 0 ≤ left) (h1 : left ≤ 2 ^ 40) :
    Calls Try.prog 47 #[.agg #[.string r, .string f, .string q, .int .u64 t, .int .i64 k, .string v], .int .i64 left] w fun e w' =>
      ∃ x, e = .returned (.int .i64 x) ∧ (x = -1 ∨ (0 ≤ x ∧ x + r.size + f.size + q.size + v.size = left)) ∧ Below w.heap.size w w' := by
  unfold maxLen at hr hf hq hv
  go_enter Try.func47, Try.ntmps47
  go_wp2
  · go_ret
    exact ⟨_, rfl, .inl rfl, (Below.refl _ _).alloc (Nat.le_refl _) _⟩
  · go_ret
    exact ⟨_, rfl, .inl rfl, (Below.refl _ _).alloc (Nat.le_refl _) _⟩
  · go_ret
    exact ⟨_, rfl, .inl rfl, (Below.refl _ _).alloc (Nat.le_refl _) _⟩
  · go_ret
    exact ⟨_, rfl, .inl rfl, (Below.refl _ _).alloc (Nat.le_refl _) _⟩
  · go_ret
    exact ⟨_, rfl, .inr ⟨by assumption, by omega⟩, (Below.refl _ _).alloc (Nat.le_refl _) _⟩

set_option maxHeartbeats 400000 in
theorem toEntry_core (r f q v : ByteArray) (t k : Int) (w : World) :
    Calls Try.prog 51 #[.agg #[.string r, .string f, .string q, .int .u64 t, .int .i64 k, .string v]] w fun e w' =>
      e = .returned (.agg #[.string r, .string f, .string q, .int .u64 t, .int .i64 k, .string v]) ∧ Below w.heap.size w w' := by
  go_enter Try.func51, Try.ntmps51
  go_wp2
  refine bodyPost_ret (v := .agg #[.string r, .string f, .string q, .int .u64 t, .int .i64 k, .string v]) (by simp [results, Try.results51, go_sem]) rfl ⟨rfl, ?_⟩
  exact (((Below.refl _ _).alloc (Nat.le_refl _) _).alloc (by simp) _).alloc (by simp; omega) _

theorem ret_bool {a b : Bool} (h : a = b) : Ending.returned (.bool a) = .returned (.bool b) := by rw [h]

theorem isE (v : ByteArray) : v.toList.isEmpty = decide (v.size = 0) := by
  rw [ByteArray.toList_eq, Bool.eq_iff_iff]
  simp [← ByteArray.size_data]

theorem orE (k : Int) (v : ByteArray) (h : ¬ k = 0) : (k == 0 || v.toList.isEmpty) = decide (v.size = 0) := by
  rw [isE]; simp [h]

def vE (r f q : ByteArray) (k : Int) (v : ByteArray) : Bool :=
  decide (1 ≤ r.size ∧ r.size ≤ 64 ∧ 1 ≤ f.size ∧ f.size ≤ 16 ∧ q.size ≤ 64 ∧ v.size ≤ 200 ∧ 0 ≤ k ∧ k ≤ 2 ∧ (k = 0 ∨ v.size = 0))

set_option maxHeartbeats 400000 in
theorem specValid_core (r f q v : ByteArray) (t k : Int) (w : World) (hr : r.size ≤ maxLen) (hf : f.size ≤ maxLen) (hq : q.size ≤ maxLen) (hv : v.size ≤ maxLen) :
    Calls Try.prog 35 #[.agg #[.string r, .string f, .string q, .int .u64 t, .int .i64 k, .string v]] w fun e w' =>
      e = .returned (.bool (vE r f q k v)) ∧ Below w.heap.size w w' := by
  unfold maxLen at hr hf hq hv
  go_enter Try.func35, Try.ntmps35
  go_wp2
  all_goals go_ret
  all_goals refine ⟨ret_bool ?_, (Below.refl _ _).alloc (Nat.le_refl _) _⟩
  all_goals unfold vE
  all_goals go_light
  all_goals first
    | (refine (decide_eq_true ?_).symm; omega)
    | (refine (decide_eq_false ?_).symm; omega)
    | (rw [orE _ _ ‹¬ k = 0›]; refine decide_eq_decide.2 ⟨fun h => ?_, fun h => ?_⟩ <;> omega)

set_option maxHeartbeats 400000 in
theorem implValid_core (r f q v : ByteArray) (t k : Int) (w : World) (hr : r.size ≤ maxLen) (hf : f.size ≤ maxLen) (hq : q.size ≤ maxLen) (hv : v.size ≤ maxLen) :
    Calls Try.prog 43 #[.agg #[.string r, .string f, .string q, .int .u64 t, .int .i64 k, .string v]] w fun e w' =>
      e = .returned (.bool (vE r f q k v)) ∧ Below w.heap.size w w' := by
  unfold maxLen at hr hf hq hv
  go_enter Try.func43, Try.ntmps43
  go_wp2
  all_goals go_ret
  all_goals refine ⟨ret_bool ?_, (Below.refl _ _).alloc (Nat.le_refl _) _⟩
  all_goals unfold vE
  all_goals go_light
  all_goals (try simp only [beq_iff_eq, beq_eq_false_iff_ne, ne_eq] at *)
  all_goals first
    | (refine (decide_eq_true ?_).symm; omega)
    | (refine (decide_eq_false ?_).symm; omega)
    | (rw [isE]; refine decide_eq_decide.2 ⟨fun h => ?_, fun h => ?_⟩ <;> omega)
end Go.Proofs.Ytnncedndlhfdkab

/-
  Arguments opened: an entry that can be read is six plain values.
-/
namespace Go.Proofs.Ytnncedndlhfdkab
open Go.ChangeShapes Go.WideShapes Go.ChangeAt Go.RowKit Go.Deep

theorem Try.cellsEnt : Try.prog.cellsOf 77 = 6 := by kernel_rfl
theorem Try.cellsStr : Try.prog.cellsOf 9 = 1 := by kernel_rfl
theorem Try.cellsU64 : Try.prog.cellsOf 60 = 1 := by kernel_rfl
theorem Try.cellsI64 : Try.prog.cellsOf 2 = 1 := by kernel_rfl
theorem Try.cellsBool : Try.prog.cellsOf 4 = 1 := by kernel_rfl

theorem bcell {W w1 : World} (hb : Below W.heap.size W w1) : (∀ b o, b < W.heap.size → w1.cell? ⟨b, o, none⟩ = W.cell? ⟨b, o, none⟩) ∧ (∀ b o, b < W.heap.size → w1.frozen? ⟨b, o, none⟩ = W.frozen? ⟨b, o, none⟩) :=
  ⟨fun b o h => hb.cell (p := ⟨b, o, none⟩) h, fun b o h => hb.frozen (p := ⟨b, o, none⟩) h⟩

theorem list6 {α : Type} {cs : List α} (h : cs.length = 6) : ∃ c0 c1 c2 c3 c4 c5, cs = [c0, c1, c2, c3, c4, c5] := by
  match cs, h with
  | [c0, c1, c2, c3, c4, c5], _ => exact ⟨c0, c1, c2, c3, c4, c5, rfl⟩
theorem array6 {α : Type} {cs : Array α} (h : cs.size = 6) : ∃ c0 c1 c2 c3 c4 c5, cs = #[c0, c1, c2, c3, c4, c5] := by
  obtain ⟨l⟩ := cs
  obtain ⟨c0, c1, c2, c3, c4, c5, rfl⟩ := list6 h
  exact ⟨c0, c1, c2, c3, c4, c5, rfl⟩

set_option maxRecDepth 100000 in
theorem ent_of_trod {H : Type} {enc : TypeId × Value → H} {w : World} {base : Nat} {spare : Nat → Bool} {held : Bool} {fuel : Nat} {cs : List Value} {x : DataW H × List MemPlace}
    (h : DataW.trod enc Try.prog w base spare held fuel 77 cs = some x) :
    ∃ e : Ent, e.ok ∧ cs = [.string e.row, .string e.fam, .string e.qual, .int .u64 e.ts, .int .i64 e.kind, .string e.val] := by
  obtain ⟨xs, n, _, _, hl, hlen, hf⟩ := DataW.trod_struct Try.underlying77 h
  rw [Try.cellsEnt] at hl
  obtain ⟨c0, c1, c2, c3, c4, c5, rfl⟩ := list6 hl
  obtain ⟨x0, x1, x2, x3, x4, x5, rfl⟩ := list6 (cs := xs) hlen
  have h0 := hf 0 _ rfl
  have h1 := hf 1 _ rfl
  have h2 := hf 2 _ rfl
  have h3 := hf 3 _ rfl
  have h4 := hf 4 _ rfl
  have h5 := hf 5 _ rfl
  simp [Try.cellsStr, Try.cellsU64, Try.cellsI64] at h0 h1 h2 h3 h4 h5
  obtain ⟨a0, e0, _, b0⟩ := DataW.trod_string Try.underlying9 h0
  obtain ⟨a1, e1, _, b1⟩ := DataW.trod_string Try.underlying9 h1
  obtain ⟨a2, e2, _, b2⟩ := DataW.trod_string Try.underlying9 h2
  obtain ⟨a3, e3, _, b3⟩ := DataW.trod_int Try.underlying60 h3
  obtain ⟨a4, e4, _, b4⟩ := DataW.trod_int Try.underlying2 h4
  obtain ⟨a5, e5, _, b5⟩ := DataW.trod_string Try.underlying9 h5
  simp only [List.cons.injEq, and_true] at e0 e1 e2 e3 e4 e5
  exact ⟨⟨a0, a1, a2, a3, a4, a5⟩, ⟨b0, b1, b2, b5, b3, b4⟩, by rw [e0, e1, e2, e3, e4, e5]⟩

set_option maxRecDepth 100000 in
theorem open_ent {H : Type} {enc : TypeId × Value → H} {w : World} {base b0 : Nat} {spare : Nat → Bool} {held : Bool} {r : Reach} {v : Value} {d : DataW H} {p : List MemPlace}
    (hv : Value.okWide Try.prog w r b0 77 v) (h : DataW.Trod enc Try.prog w base spare held 77 v d p) : ∃ e : Ent, e.ok ∧ v = e.v := by
  obtain ⟨cs, rfl, hsz⟩ := okWide_struct Try.underlying77 hv
  obtain ⟨fuel, hf⟩ := h
  obtain ⟨e, he, hc⟩ := ent_of_trod hf
  refine ⟨e, he, ?_⟩
  simp only [Value.cells] at hc
  rw [show cs = ⟨cs.toList⟩ from rfl, hc]
end Go.Proofs.Ytnncedndlhfdkab

/-
  Entries in memory, one behind another.
-/
namespace Go.Proofs.Ytnncedndlhfdkab
open Go.ChangeShapes Go.WideShapes Go.ChangeAt Go.RowKit Go.Deep
set_option linter.unusedVariables false

abbrev Ent.cells (e : Ent) : List Value := [.string e.row, .string e.fam, .string e.qual, .int .u64 e.ts, .int .i64 e.kind, .string e.val]
def cellsE (es : List Ent) : List Value := es.flatMap Ent.cells
theorem cellsE_nil : cellsE [] = [] := rfl
theorem cellsE_cons (e : Ent) (es : List Ent) : cellsE (e :: es) = e.cells ++ cellsE es := by simp [cellsE]
theorem cellsE_append (es fs : List Ent) : cellsE (es ++ fs) = cellsE es ++ cellsE fs := by simp [cellsE]
theorem length_cellsE (es : List Ent) : (cellsE es).length = es.length * 6 := by
  induction es with
  | nil => rfl
  | cons e es ih => rw [cellsE_cons, List.length_append, ih]; simp; omega
theorem cellsE_get (es : List Ent) : ∀ (k : Nat) (e : Ent), es[k]? = some e → ∀ j, j < 6 → (cellsE es)[k * 6 + j]? = e.cells[j]? := by
  induction es with
  | nil => intro k e h; simp at h
  | cons f es ih =>
    intro k e h j hj
    rw [cellsE_cons]
    cases k with
    | zero =>
      simp at h; subst h
      rw [List.getElem?_append_left (by show 0 * 6 + j < 6; omega)]
      simp
    | succ k =>
      simp at h
      rw [List.getElem?_append_right (by show 6 ≤ (k + 1) * 6 + j; omega)]
      have : (k + 1) * 6 + j - f.cells.length = k * 6 + j := by show (k + 1) * 6 + j - 6 = _; omega
      rw [this]; exact ih k e h j hj
theorem cellsE_set (es : List Ent) : ∀ (k : Nat) (e e' : Ent) (u : Value) (j : Nat), es[k]? = some e → j < 6 → e'.cells = e.cells.set j u → (cellsE es).set (k * 6 + j) u = cellsE (es.set k e') := by
  induction es with
  | nil => intro k e e' u j h; simp at h
  | cons f es ih =>
    intro k e e' u j h hj hc
    rw [cellsE_cons]
    cases k with
    | zero =>
      simp at h; subst h
      rw [List.set_append_left _ _ (by show 0 * 6 + j < 6; omega), List.set_cons_zero, cellsE_cons, hc]
      simp
    | succ k =>
      simp at h
      rw [List.set_append_right _ _ (by show 6 ≤ (k + 1) * 6 + j; omega), List.set_cons_succ, cellsE_cons]
      have : (k + 1) * 6 + j - f.cells.length = k * 6 + j := by show (k + 1) * 6 + j - 6 = _; omega
      rw [this, ih k e e' u j h hj hc]

/-- The entries 'es' lie at ⟨b, off⟩, six cells each. -/
def EntsAt (w : World) (b off : Nat) (es : List Ent) : Prop :=
  ∀ i e, es[i]? = some e → w.cell? ⟨b, off + i * 6, none⟩ = some (.string e.row) ∧ w.cell? ⟨b, off + i * 6 + 1, none⟩ = some (.string e.fam) ∧ w.cell? ⟨b, off + i * 6 + 2, none⟩ = some (.string e.qual) ∧
    w.cell? ⟨b, off + i * 6 + 3, none⟩ = some (.int .u64 e.ts) ∧ w.cell? ⟨b, off + i * 6 + 4, none⟩ = some (.int .i64 e.kind) ∧ w.cell? ⟨b, off + i * 6 + 5, none⟩ = some (.string e.val)

theorem EntsAt.below {B : Nat} {w w' : World} {b off : Nat} {es : List Ent} (h : EntsAt w b off es) (hb : Below B w w') (hlt : b < B) : EntsAt w' b off es := by
  intro i e he
  have := h i e he
  refine ⟨?_, ?_, ?_, ?_, ?_, ?_⟩
  all_goals rw [hb.cell (by exact hlt)]
  · exact this.1
  · exact this.2.1
  · exact this.2.2.1
  · exact this.2.2.2.1
  · exact this.2.2.2.2.1
  · exact this.2.2.2.2.2

/-- A row of the call's own holds the entries 'es'. -/
def OwnE (w : World) (base g cap : Nat) (es : List Ent) : Prop := w.ownsRow base 62 6 (.slice (some ⟨g, 0, none⟩) es.length cap) es.length (cellsE es)

theorem OwnE.at {w : World} {base g cap : Nat} {es : List Ent} (h : OwnE w base g cap es) : EntsAt w g 0 es := by
  intro i e he
  have hi : i < es.length := (List.getElem?_eq_some_iff.1 he).1
  have c := fun j (hj : j < 6) => (World.ownsRow.cellAt h (i * 6 + j) (by omega)).trans (cellsE_get es i e he j hj)
  refine ⟨?_, ?_, ?_, ?_, ?_, ?_⟩
  · simpa using c 0 (by omega)
  · simpa using c 1 (by omega)
  · simpa using c 2 (by omega)
  · simpa using c 3 (by omega)
  · simpa using c 4 (by omega)
  · simpa using c 5 (by omega)
theorem OwnE.lt {w : World} {base g cap : Nat} {es : List Ent} (h : OwnE w base g cap es) : base ≤ g ∧ g < w.heap.size := World.ownsRow.lt h g rfl
theorem OwnE.below {B : Nat} {w w' : World} {base g cap : Nat} {es : List Ent} (h : OwnE w base g cap es) (hb : Below B w w') (hg : g < B) : OwnE w' base g cap es := by
  refine ⟨h.1, ?_⟩
  rcases h.2 with hn | ⟨g', cap', cur, hv, h1, h2, rest⟩
  · exact .inl hn
  · simp only [Value.slice.injEq, Option.some.injEq, Addr.mk.injEq, and_true, true_and] at hv
    obtain ⟨rfl, rfl⟩ := hv
    exact .inr ⟨g, cap, cur, rfl, h1, by rw [hb.block g hg]; exact h2, rest⟩
theorem OwnE.set {w : World} {base g cap : Nat} {es : List Ent} (h : OwnE w base g cap es) (k j : Nat) (e e' : Ent) (u : Value) (hk : es[k]? = some e) (hj : j < 6) (hc : e'.cells = e.cells.set j u) :
    OwnE (w.setCell ⟨g, k * 6 + j, none⟩ u) base g cap (es.set k e') := by
  have := (World.ownsRow.stored h (k * 6 + j) u).1
  rw [cellsE_set es k e e' u j hk hj hc] at this
  unfold OwnE
  rw [List.length_set]
  exact this

theorem OwnE.put {w : World} {base g cap : Nat} {es : List Ent} (h : OwnE w base g cap es) (k : Nat) (f e : Ent) (hk : es[k]? = some f) :
    OwnE ((((((w.setCell ⟨g, k * 6, none⟩ (.string e.row)).setCell ⟨g, k * 6 + 1, none⟩ (.string e.fam)).setCell ⟨g, k * 6 + 2, none⟩ (.string e.qual)).setCell ⟨g, k * 6 + 3, none⟩ (.int .u64 e.ts)).setCell ⟨g, k * 6 + 4, none⟩ (.int .i64 e.kind)).setCell ⟨g, k * 6 + 5, none⟩ (.string e.val)) base g cap (es.set k e) := by
  have hlt : k < es.length := (List.getElem?_eq_some_iff.1 hk).1
  have g1 := h.set k 0 f { f with row := e.row } (.string e.row) hk (by omega) rfl
  have g2 := g1.set k 1 { f with row := e.row } { f with row := e.row, fam := e.fam } (.string e.fam) (by simp [hlt]) (by omega) rfl
  have g3 := g2.set k 2 { f with row := e.row, fam := e.fam } { f with row := e.row, fam := e.fam, qual := e.qual } (.string e.qual) (by simp [hlt]) (by omega) rfl
  have g4 := g3.set k 3 { f with row := e.row, fam := e.fam, qual := e.qual } { f with row := e.row, fam := e.fam, qual := e.qual, ts := e.ts } (.int .u64 e.ts) (by simp [hlt]) (by omega) rfl
  have g5 := g4.set k 4 { f with row := e.row, fam := e.fam, qual := e.qual, ts := e.ts } { f with row := e.row, fam := e.fam, qual := e.qual, ts := e.ts, kind := e.kind } (.int .i64 e.kind) (by simp [hlt]) (by omega) rfl
  have g6 := g5.set k 5 { f with row := e.row, fam := e.fam, qual := e.qual, ts := e.ts, kind := e.kind } e (.string e.val) (by simp [hlt]) (by omega) rfl
  simpa only [List.set_set, Nat.add_zero] using g6
theorem below_put {B : Nat} {a w : World} (h : Below B a w) {g : Nat} (hg : B ≤ g) (o0 o1 o2 o3 o4 o5 : Nat) (v0 v1 v2 v3 v4 v5 : Value) :
    Below B a ((((((w.setCell ⟨g, o0, none⟩ v0).setCell ⟨g, o1, none⟩ v1).setCell ⟨g, o2, none⟩ v2).setCell ⟨g, o3, none⟩ v3).setCell ⟨g, o4, none⟩ v4).setCell ⟨g, o5, none⟩ v5) :=
  (((((h.setCell hg _).setCell hg _).setCell hg _).setCell hg _).setCell hg _).setCell hg _
theorem take_set_succ {es fs : List Ent} {k : Nat} {e : Ent} (h : fs.take k = es.take k) (hl : fs.length = es.length) (he : es[k]? = some e) : (fs.set k e).take (k + 1) = es.take (k + 1) := by
  have hlt : k < es.length := (List.getElem?_eq_some_iff.1 he).1
  apply List.ext_getElem?
  intro j
  have hj := congrArg (fun l => l[j]?) h
  simp only [List.getElem?_take] at hj ⊢
  rw [List.getElem?_set]
  by_cases h1 : j < k
  · have h2 : j < k + 1 := by omega
    have h3 : ¬ k = j := by omega
    simp only [h1, h2, h3, if_true, if_false] at hj ⊢
    exact hj
  · by_cases h2 : k = j
    · subst h2
      have h3 : k < k + 1 := by omega
      have h4 : k < fs.length := by omega
      simp only [h3, h4, if_true, he]
    · have h3 : ¬ j < k + 1 := by omega
      simp only [h3, if_false]

set_option maxHeartbeats 400000 in
theorem szEntryS_core (b off cap : Nat) (es : List Ent) (left : Int) (w : World) (hE : EntsAt w b off es) (hok : ∀ e ∈ es, e.ok) (hB : b < w.heap.size) (hlen : es.length ≤ cap) (hcap : cap ≤ maxLen) (h0 : 0 ≤ left) (h1 : left ≤ 2 ^ 40) :
    Calls Try.prog 18 #[.slice (some ⟨b, off, none⟩) es.length cap, .int .i64 left] w fun e w' =>
      ∃ x, e = .returned (.int .i64 x) ∧ (x = -1 ∨ (0 ≤ x ∧ x + es.length ≤ left)) ∧ Below w.heap.size w w' := by
  have HE : Hid (EntsAt w b off es) := hE
  have HO : Hid (∀ e ∈ es, e.ok) := hok
  clear hE hok
  unfold maxLen at hcap
  by_cases hle : left < es.length
  · have hle' : left - es.length < 0 := by omega
    go_enter Try.func18, Try.ntmps18
    go_wp2
    go_ret
    exact ⟨_, rfl, .inl rfl, Below.refl _ _⟩
  have hle' : 0 ≤ left - es.length := by omega
  go_enter Try.func18, Try.ntmps18
  go_wp2
  go_loopw [1, 5] (fun l i wr => ∃ (k : Nat) (x : Int), k ≤ es.length ∧ i = .int .i64 k ∧ l = .int .i64 x ∧ 0 ≤ x ∧ x + es.length ≤ left ∧ Below w.heap.size w wr) (fun _ i _ => es.length - (intOf i).toNat)
  case atStart => exact ⟨0, _, Nat.zero_le _, rfl, rfl, hle', by omega, Below.refl _ _⟩
  case round =>
    obtain ⟨k, x, hk, rfl, rfl, hx0, hx1, hb⟩ := hrel
    by_cases hlt : k < es.length
    · obtain ⟨e, he⟩ : ∃ e, es[k]? = some e := ⟨_, List.getElem?_eq_getElem hlt⟩
      obtain ⟨c0, c1, c2, c3, c4, c5⟩ := (HE.out.below hb hB) k e he
      have ok := HO.out e (List.mem_of_getElem? he)
      have HK : Hid e.ok := ok
      clear ok he
      go_wp2_with fail
      refine (szEntry_core e.row e.fam e.qual e.val e.ts e.kind _ _ HK.out.row HK.out.fam HK.out.qual HK.out.val (by omega) (by omega)).mono ?_
      rintro e w1 ⟨y, rfl, hy, hb1⟩
      have hsz := hb.size
      have hb2 := hb.trans (hb1.mono hsz)
      clear c0 c1 c2 c3 c4 c5 hb1
      by_cases hy0 : y < 0
      · go_wp2_with fail
        go_ret
        exact ⟨_, rfl, .inl rfl, hb2⟩
      · have hy1 : 0 ≤ y := by omega
        have hy2 : y + es.length ≤ left := by omega
        go_wp2_with fail
        go_roundw
        case rel => exact ⟨k + 1, y, by omega, by go_num, rfl, hy1, hy2, hb2⟩
        case measure => simp [intOf]; omega
    · go_wp2
      go_ret
      exact ⟨_, rfl, .inr ⟨hx0, hx1⟩, hb⟩

theorem Try.infoEnt : (Try.prog.info? 62).map (fun i => (i.zero, i.size, i.bytes)) = some (some (.agg #[.string ⟨#[]⟩, .string ⟨#[]⟩, .string ⟨#[]⟩, .int .u64 0, .int .i64 0, .string ⟨#[]⟩]), 6, 80) := by kernel_rfl

def zeroE : Ent := ⟨⟨#[]⟩, ⟨#[]⟩, ⟨#[]⟩, 0, 0, ⟨#[]⟩⟩
theorem made_zero (n : Nat) : (madeCells #[.string ⟨#[]⟩, .string ⟨#[]⟩, .string ⟨#[]⟩, .int .u64 0, .int .i64 0, .string ⟨#[]⟩] (n * 6)).toList = cellsE (List.replicate n zeroE) := by
  apply List.ext_getElem?
  intro j
  by_cases hj : j < n * 6
  · have h := cellsE_get (List.replicate n zeroE) (j / 6) zeroE (by rw [List.getElem?_replicate, if_pos (by omega)]) (j % 6) (Nat.mod_lt _ (by omega))
    rw [show j / 6 * 6 + j % 6 = j by omega] at h
    rw [h]
    have h6 : j % 6 < 6 := Nat.mod_lt _ (by omega)
    simp [madeCells, hj]
    generalize j % 6 = m at *
    match m, h6 with
    | 0, _ => rfl
    | 1, _ => rfl
    | 2, _ => rfl
    | 3, _ => rfl
    | 4, _ => rfl
    | 5, _ => rfl
  · have h1 : (cellsE (List.replicate n zeroE)).length ≤ j := by rw [length_cellsE, List.length_replicate]; omega
    rw [List.getElem?_eq_none h1]
    simp [madeCells, hj]

set_option maxHeartbeats 400000 in
set_option maxRecDepth 100000 in
theorem toEntryS_core (b off cap : Nat) (es : List Ent) (w : World) (hE : EntsAt w b off es) (hB : b < w.heap.size) (hlen : es.length ≤ cap) (hcap : cap ≤ maxLen) (h1 : es.length ≤ 1048576) :
    Calls Try.prog 20 #[.slice (some ⟨b, off, none⟩) es.length cap] w fun e w' =>
      ∃ g, e = .returned (.slice (some ⟨g, 0, none⟩) es.length es.length) ∧ OwnE w' w.heap.size g es.length es ∧ Below w.heap.size w w' := by
  have HE : Hid (EntsAt w b off es) := hE
  clear hE
  unfold maxLen at hcap
  obtain ⟨i, hi, hz0, hz1, hz2⟩ := info_parts Try.infoEnt
  have HI : Hid (Try.prog.info? 62 = some i ∧ i.zero = some (.agg #[.string ⟨#[]⟩, .string ⟨#[]⟩, .string ⟨#[]⟩, .int .u64 0, .int .i64 0, .string ⟨#[]⟩]) ∧ i.size = 6 ∧ i.bytes = 80) := ⟨hi, hz0, hz1, hz2⟩
  clear hi hz0 hz1 hz2
  go_enter Try.func20, Try.ntmps20
  go_wp2_with (at_make; refine wpList_make_full _ rfl _ _ 27 rfl w.heap.size 62 i _ 6 Try.underlying27 HI.out.1 HI.out.2.1 HI.out.2.2.1 _ _ _ _ es.length rfl rfl ?_ ?_ ?hb ?hm ?hs ?_)
  case hb => rw [HI.out.2.2.2]; omega
  case hm => unfold maxLen; omega
  case hs => exact Nat.le_refl _
  · rfl
  · rfl
  intro w1 hown hgrow
  rw [made_zero] at hown
  have hown1 : OwnE w1 w.heap.size w.heap.size es.length (List.replicate es.length zeroE) := by
    unfold OwnE; rw [List.length_replicate]; exact hown
  have HW : Hid (OwnE w1 w.heap.size w.heap.size es.length (List.replicate es.length zeroE)) := hown1
  have hb1 : Below w.heap.size w w1 := (Below.refl _ _).grown hgrow (Nat.le_refl _) (fun k hk => by cases hk)
  clear hown hown1 hgrow
  go_wp2_with fail
  go_loopw [4] (fun i wr => ∃ (k : Nat) (fs : List Ent), k ≤ es.length ∧ i = .int .i64 k ∧ fs.length = es.length ∧ fs.take k = es.take k ∧ OwnE wr w.heap.size w.heap.size es.length fs ∧ Below w.heap.size w wr) (fun i _ => es.length - (intOf i).toNat)
  case atStart => exact ⟨0, _, Nat.zero_le _, rfl, List.length_replicate .., rfl, HW.out, hb1⟩
  case round =>
    obtain ⟨k, fs, hk, rfl, hfl, hft, hO, hb⟩ := hrel
    have HO : Hid (fs.length = es.length ∧ fs.take k = es.take k ∧ OwnE wr w.heap.size w.heap.size es.length fs) := ⟨hfl, hft, hO⟩
    clear hfl hft hO
    by_cases hlt : k < es.length
    · obtain ⟨e, he⟩ : ∃ e, es[k]? = some e := ⟨_, List.getElem?_eq_getElem hlt⟩
      obtain ⟨c0, c1, c2, c3, c4, c5⟩ := (HE.out.below hb hB) k e he
      have HG : Hid (es[k]? = some e) := he
      clear he
      go_wp2_with fail
      refine (toEntry_core e.row e.fam e.qual e.val e.ts e.kind _).mono ?_
      rintro e' w2 ⟨rfl, hb2⟩
      have hO2 := (HO.out.2.2).below hb2 (HO.out.2.2).lt.2
      obtain ⟨f, hf⟩ : ∃ f, fs[k]? = some f := ⟨_, List.getElem?_eq_getElem (by rw [HO.out.1]; exact hlt)⟩
      obtain ⟨d0, d1, d2, d3, d4, d5⟩ := hO2.at k f hf
      simp only [Nat.zero_add] at d0 d1 d2 d3 d4 d5
      have hfz := fun j => World.ownsRow.frozenAt hO2 j
      have HO2 : Hid (OwnE w2 w.heap.size w.heap.size es.length fs ∧ fs[k]? = some f) := ⟨hO2, hf⟩
      clear hO2 hf c0 c1 c2 c3 c4 c5
      go_wp2_with fail
      go_roundw
      case rel => exact ⟨k + 1, fs.set k e, by omega, by go_num, by rw [List.length_set]; exact HO.out.1, take_set_succ HO.out.2.1 HO.out.1 HG.out, HO2.out.1.put k f e HO2.out.2, below_put (hb.trans (hb2.mono hb.size)) (Nat.le_refl _) _ _ _ _ _ _ _ _ _ _ _ _⟩
      case measure => simp [intOf]; omega
    · have hfs : fs = es := by
        have h := HO.out.2.1
        rw [List.take_of_length_le (by have := HO.out.1; omega), List.take_of_length_le (by omega)] at h
        exact h
      go_wp2
      go_ret
      exact ⟨_, rfl, by rw [← hfs] at HO ⊢; exact HO.out.2.2, hb⟩
end Go.Proofs.Ytnncedndlhfdkab

/-
  Rows held against each other; rows of no entries; runs by value.
-/
namespace Go.Proofs.Ytnncedndlhfdkab
open Go.ChangeShapes Go.WideShapes Go.ChangeAt Go.RowKit Go.Deep
set_option linter.unusedVariables false

set_option maxHeartbeats 400000 in
theorem eqEntry_same (a : Ent) (w : World) :
    Calls Try.prog 56 #[a.v, a.v] w fun e w' => e = .returned (.bool true) ∧ Below w.heap.size w w' := by
  unfold Ent.v
  go_enter Try.func56, Try.ntmps56
  go_wp2
  go_ret
  exact ⟨rfl, ((Below.refl _ _).alloc (Nat.le_refl _) _).alloc (by simp) _⟩

set_option maxHeartbeats 1000000 in
theorem eqEntryS_same (b off cap b' off' cap' : Nat) (es : List Ent) (w : World) (hE : EntsAt w b off es) (hE' : EntsAt w b' off' es) (hB : b < w.heap.size) (hB' : b' < w.heap.size) (hlen : es.length ≤ maxLen) :
    Calls Try.prog 22 #[.slice (some ⟨b, off, none⟩) es.length cap, .slice (some ⟨b', off', none⟩) es.length cap'] w fun e w' =>
      e = .returned (.bool true) ∧ Below w.heap.size w w' := by
  have HE : Hid (EntsAt w b off es ∧ EntsAt w b' off' es) := ⟨hE, hE'⟩
  clear hE hE'
  unfold maxLen at hlen
  go_enter Try.func22, Try.ntmps22
  go_wp2
  go_loopw [5] (fun i wr => ∃ (k : Nat), k ≤ es.length ∧ i = .int .i64 k ∧ Below w.heap.size w wr) (fun i _ => es.length - (intOf i).toNat)
  case atStart => exact ⟨0, Nat.zero_le _, rfl, Below.refl _ _⟩
  case round =>
    obtain ⟨k, hk, rfl, hb⟩ := hrel
    have hs2 := hb.size
    by_cases hlt : k < es.length
    · obtain ⟨e, he⟩ : ∃ e, es[k]? = some e := ⟨_, List.getElem?_eq_getElem hlt⟩
      obtain ⟨c0, c1, c2, c3, c4, c5⟩ := HE.out.1.below hb hB k e he
      obtain ⟨d0, d1, d2, d3, d4, d5⟩ := HE.out.2.below hb hB' k e he
      clear he
      go_upto_region 6 with fail
      go_cut [26] (fun s wx => s = .bool false ∧ Below w.heap.size w wx)
      case first =>
        have z2 : (k : Int) < (es.length : Int) := by omega
        go_region_with (go_at_call 56; refine (eqEntry_same e _).mono ?_; rintro e' w' ⟨rfl, hbb⟩)
        all_goals go_wp2_with fail
        all_goals go_meet
        all_goals exact ⟨rfl, hb.drew.trans (hbb.mono (by simp; omega))⟩
      case rest =>
      obtain ⟨rfl, h3⟩ := hcut
      clear c0 c1 c2 c3 c4 c5 d0 d1 d2 d3 d4 d5
      go_wp2_with fail
      go_roundw
      case rel => exact ⟨k + 1, by omega, by go_num, h3⟩
      case measure => simp [intOf]; omega
    · go_wp2_with fail
      go_ret
      exact ⟨rfl, hb⟩

/-! ### Rows of no entries -/

set_option maxHeartbeats 400000 in
theorem eqEntryS_zero (a a' : Option Addr) (cap cap' : Nat) (w : World) :
    Calls Try.prog 22 #[.slice a 0 cap, .slice a' 0 cap'] w fun e w' => e = .returned (.bool true) ∧ Below w.heap.size w w' := by
  go_enter Try.func22, Try.ntmps22
  go_wp2
  go_loopw [5] (fun i wr => i = .int .i64 0 ∧ Below w.heap.size w wr) (fun i _ => 0)
  case atStart => exact ⟨rfl, Below.refl _ _⟩
  case round =>
    obtain ⟨rfl, hb⟩ := hrel
    go_wp2_with fail
    go_ret
    exact ⟨rfl, hb⟩

set_option maxHeartbeats 400000 in
theorem szEntryS_zero (a : Option Addr) (cap : Nat) (left : Int) (w : World) (h0 : 0 ≤ left) (h1 : left ≤ 2 ^ 40) :
    Calls Try.prog 18 #[.slice a 0 cap, .int .i64 left] w fun e w' => e = .returned (.int .i64 left) ∧ Below w.heap.size w w' := by
  go_enter Try.func18, Try.ntmps18
  go_wp2
  go_loopw [1, 5] (fun l i wr => l = .int .i64 left ∧ i = .int .i64 0 ∧ Below w.heap.size w wr) (fun _ i _ => 0)
  case atStart => exact ⟨rfl, rfl, Below.refl _ _⟩
  case round =>
    obtain ⟨rfl, rfl, hb⟩ := hrel
    go_wp2_with fail
    go_ret
    exact ⟨rfl, hb⟩

set_option maxHeartbeats 400000 in
set_option maxRecDepth 100000 in
theorem toEntryS_zero (a : Option Addr) (cap : Nat) (w : World) :
    Calls Try.prog 20 #[.slice a 0 cap] w fun e w' =>
      ∃ g, e = .returned (.slice (some ⟨g, 0, none⟩) 0 0) ∧ OwnE w' w.heap.size g 0 [] ∧ Below w.heap.size w w' := by
  obtain ⟨i, hi, hz0, hz1, hz2⟩ := info_parts Try.infoEnt
  have HI : Hid (Try.prog.info? 62 = some i ∧ i.zero = some (.agg #[.string ⟨#[]⟩, .string ⟨#[]⟩, .string ⟨#[]⟩, .int .u64 0, .int .i64 0, .string ⟨#[]⟩]) ∧ i.size = 6 ∧ i.bytes = 80) := ⟨hi, hz0, hz1, hz2⟩
  clear hi hz0 hz1 hz2
  go_enter Try.func20, Try.ntmps20
  go_wp2_with (at_make; refine wpList_make_full _ rfl _ _ 27 rfl w.heap.size 62 i _ 6 Try.underlying27 HI.out.1 HI.out.2.1 HI.out.2.2.1 _ _ _ _ 0 rfl rfl ?_ ?_ ?hb ?hm ?hs ?_)
  case hb => rw [HI.out.2.2.2]; omega
  case hm => unfold maxLen; omega
  case hs => exact Nat.le_refl _
  · rfl
  · rfl
  intro w1 hown hgrow
  have HW : Hid (OwnE w1 w.heap.size w.heap.size 0 []) := by
    have h0 := made_zero 0
    rw [Nat.zero_mul] at h0
    rw [h0] at hown
    exact hown
  have hb1 : Below w.heap.size w w1 := (Below.refl _ _).grown hgrow (Nat.le_refl _) (fun k hk => by cases hk)
  clear hown hgrow
  go_wp2_with fail
  go_loopw [4] (fun i wr => i = .int .i64 0 ∧ wr = w1) (fun i _ => 0)
  case atStart => exact ⟨rfl, rfl⟩
  case round =>
    obtain ⟨rfl, rfl⟩ := hrel
    go_wp2_with fail
    go_ret
    exact ⟨_, rfl, HW.out, hb1⟩

/-! ### A slice of entries, whatever its make -/

/-- What is read of a slice of entries that came in. -/
def InEnts (w : World) (v : Value) (es : List Ent) : Prop :=
  (∃ a cap, v = .slice a 0 cap ∧ es = []) ∨
  ∃ b off cap, v = .slice (some ⟨b, off, none⟩) es.length cap ∧ EntsAt w b off es ∧ b < w.heap.size ∧ es.length ≤ cap ∧ cap ≤ maxLen
theorem InEnts.below {B : Nat} {w w' : World} {v : Value} {es : List Ent} (h : InEnts w v es) (hb : Below B w w') (hB : w.heap.size ≤ B) : InEnts w' v es := by
  rcases h with h | ⟨b, off, cap, hv, hE, hlt, h1, h2⟩
  · exact .inl h
  · exact .inr ⟨b, off, cap, hv, hE.below hb (by omega), by have := hb.size; omega, h1, h2⟩
theorem InEnts.own {w : World} {base g cap : Nat} {es : List Ent} (h : OwnE w base g cap es) (h1 : es.length ≤ cap) (h2 : cap ≤ maxLen) : InEnts w (.slice (some ⟨g, 0, none⟩) es.length cap) es :=
  .inr ⟨g, 0, cap, rfl, h.at, h.lt.2, h1, h2⟩

theorem szEntryS_any (v : Value) (es : List Ent) (left : Int) (w : World) (h : InEnts w v es) (hok : ∀ e ∈ es, e.ok) (h0 : 0 ≤ left) (h1 : left ≤ 2 ^ 40) :
    Calls Try.prog 18 #[v, .int .i64 left] w fun e w' =>
      ∃ x, e = .returned (.int .i64 x) ∧ (x = -1 ∨ (0 ≤ x ∧ x + es.length ≤ left)) ∧ Below w.heap.size w w' := by
  rcases h with ⟨a, cap, rfl, rfl⟩ | ⟨b, off, cap, rfl, hE, hlt, g1, g2⟩
  · exact (szEntryS_zero a cap left w h0 h1).mono fun e w' ⟨he, hb⟩ => ⟨left, he, .inr ⟨h0, by simp⟩, hb⟩
  · exact szEntryS_core b off cap es left w hE hok hlt g1 g2 h0 h1
theorem toEntryS_any (v : Value) (es : List Ent) (w : World) (h : InEnts w v es) (h1 : es.length ≤ 1048576) :
    Calls Try.prog 20 #[v] w fun e w' =>
      ∃ g, e = .returned (.slice (some ⟨g, 0, none⟩) es.length es.length) ∧ OwnE w' w.heap.size g es.length es ∧ Below w.heap.size w w' := by
  rcases h with ⟨a, cap, rfl, rfl⟩ | ⟨b, off, cap, rfl, hE, hlt, g1, g2⟩
  · exact toEntryS_zero a cap w
  · exact toEntryS_core b off cap es w hE hlt g1 g2 h1
theorem eqEntryS_any (v v' : Value) (es : List Ent) (w : World) (h : InEnts w v es) (h' : InEnts w v' es) :
    Calls Try.prog 22 #[v, v'] w fun e w' => e = .returned (.bool true) ∧ Below w.heap.size w w' := by
  rcases h with ⟨a, cap, rfl, rfl⟩ | ⟨b, off, cap, rfl, hE, hlt, g1, g2⟩
  · rcases h' with ⟨a', cap', rfl, _⟩ | ⟨b', off', cap', rfl, hE', hlt', g1', g2'⟩
    · exact eqEntryS_zero a a' cap cap' w
    · exact eqEntryS_zero a _ cap cap' w
  · rcases h' with ⟨a', cap', rfl, rfl⟩ | ⟨b', off', cap', rfl, hE', hlt', g1', g2'⟩
    · exact eqEntryS_zero _ a' cap cap' w
    · exact eqEntryS_same b off cap b' off' cap' es w hE hE' hlt hlt' (Nat.le_trans g1 g2)
end Go.Proofs.Ytnncedndlhfdkab

/-
  Slices of entries and runs that come in, opened.
-/
namespace Go.Proofs.Ytnncedndlhfdkab
open Go.ChangeShapes Go.WideShapes Go.ChangeAt Go.RowKit Go.Deep
set_option linter.unusedVariables false

theorem list_of_forall {α : Type} {P : Nat → α → Prop} : ∀ n, (∀ i, i < n → ∃ x, P i x) → ∃ l : List α, l.length = n ∧ ∀ i x, l[i]? = some x → P i x
  | 0, _ => ⟨[], rfl, fun i x h => by simp at h⟩
  | n + 1, h => by
    obtain ⟨l, hl, hp⟩ := list_of_forall n (fun i hi => h i (by omega))
    obtain ⟨x, hx⟩ := h n (by omega)
    refine ⟨l ++ [x], by simp [hl], fun i y hy => ?_⟩
    by_cases hi : i < l.length
    · rw [List.getElem?_append_left hi] at hy; exact hp i y hy
    · rw [List.getElem?_append_right (by omega)] at hy
      have : i - l.length = 0 := by
        have := (List.getElem?_eq_some_iff.1 hy).1
        simp at this; omega
      rw [this] at hy
      simp at hy
      subst hy
      rw [show i = n by omega]; exact hx

set_option maxRecDepth 100000 in
theorem ents_of_trod {H : Type} {enc : TypeId × Value → H} {w : World} {base : Nat} {held : Bool} {fuel : Nat} {v : Value} {x : DataW H × List MemPlace}
    (h : DataW.trod enc Try.prog w base (fun _ => true) held fuel 22 [v] = some x) : ∃ es : List Ent, InEnts w v es ∧ ∀ e ∈ es, e.ok := by
  rcases open_slice Try.underlying22 h with ⟨hcs, _⟩ | ⟨a, len, cap, m, n, D, Pl, hcs, hba, hl, hm, hmm, _, hel⟩
  · simp only [List.cons.injEq, and_true] at hcs
    exact ⟨[], .inl ⟨none, 0, hcs, rfl⟩, by simp⟩
  · simp only [List.cons.injEq, and_true] at hcs
    subst hcs
    rw [if_pos rfl] at hmm
    subst hmm
    have hel6 : ∀ i, i < m → ∃ cs', w.cells? base (a.add (i * 6)) 6 = some cs' ∧ DataW.trod enc Try.prog w base (fun _ => true) held n 77 cs' = some (D i, Pl i) := fun i hi => by
      have := hel i hi
      rw [Try.cellsEnt] at this
      exact this
    clear hel
    have HM : Hid (m ≤ maxLen) := hm
    clear hm
    by_cases h0 : len = 0
    · subst h0; exact ⟨[], .inl ⟨_, _, rfl, rfl⟩, by simp⟩
    · obtain ⟨b, off, spot⟩ := a
      have hspot : spot = none := by
        obtain ⟨cs', hc, _⟩ := hel6 0 (by omega)
        obtain ⟨_, hlen, hget⟩ := World.cells?_some hc
        have h1 := hget 0 (by omega)
        have h2 : (w.cell? ((Addr.add ⟨b, off, spot⟩ (0 * 6)).add 0)).isSome = true := by rw [h1]; simp; omega
        obtain ⟨u, hu⟩ := Option.isSome_iff_exists.1 h2
        simpa [Addr.add] using World.cell?_spot hu
      subst hspot
      obtain ⟨es, hes, hp⟩ := list_of_forall (P := fun i (e : Ent) => e.ok ∧ (w.cell? ⟨b, off + i * 6, none⟩ = some (.string e.row) ∧ w.cell? ⟨b, off + i * 6 + 1, none⟩ = some (.string e.fam) ∧ w.cell? ⟨b, off + i * 6 + 2, none⟩ = some (.string e.qual) ∧
          w.cell? ⟨b, off + i * 6 + 3, none⟩ = some (.int .u64 e.ts) ∧ w.cell? ⟨b, off + i * 6 + 4, none⟩ = some (.int .i64 e.kind) ∧ w.cell? ⟨b, off + i * 6 + 5, none⟩ = some (.string e.val))) len (fun i hi => by
        obtain ⟨cs', hc, ht⟩ := hel6 i (by omega)
        obtain ⟨e, ok, rfl⟩ := ent_of_trod ht
        obtain ⟨_, hlen, hget⟩ := World.cells?_some hc
        refine ⟨e, ok, ?_, ?_, ?_, ?_, ?_, ?_⟩
        · simpa [Addr.add_mid] using hget 0 (by omega)
        · simpa [Addr.add_mid] using hget 1 (by omega)
        · simpa [Addr.add_mid] using hget 2 (by omega)
        · simpa [Addr.add_mid] using hget 3 (by omega)
        · simpa [Addr.add_mid] using hget 4 (by omega)
        · simpa [Addr.add_mid] using hget 5 (by omega))
      have hlt : b < w.heap.size := by
        obtain ⟨cs', hc, _⟩ := hel6 0 (by omega)
        simpa [Addr.add] using World.cells?_block hc (by omega)
      subst hes
      refine ⟨es, .inr ⟨b, off, m, rfl, fun i e he => (hp i e he).2, hlt, hl, HM.out⟩, fun e he => ?_⟩
      obtain ⟨i, hi⟩ := List.getElem?_of_mem he
      exact (hp i e hi).1

/-! ### Runs by value -/

theorem OwnE.mono {w : World} {base base' g cap : Nat} {es : List Ent} (h : OwnE w base g cap es) (hb : base' ≤ base) : OwnE w base' g cap es := by
  refine ⟨h.1, ?_⟩
  rcases h.2 with hn | ⟨g', cap', cur, hv, h1, rest⟩
  · exact .inl hn
  · exact .inr ⟨g', cap', cur, hv, Nat.le_trans hb h1, rest⟩

set_option maxRecDepth 100000 in
theorem open_run {H : Type} {enc : TypeId × Value → H} {w : World} {base b0 : Nat} {held : Bool} {r : Reach} {v : Value} {d : DataW H} {p : List MemPlace}
    (hv : Value.okWide Try.prog w r b0 24 v) (h : DataW.Trod enc Try.prog w base (fun _ => true) held 24 v d p) :
    ∃ (u : Value) (es : List Ent), v = .agg #[u] ∧ InEnts w u es ∧ ∀ e ∈ es, e.ok := by
  obtain ⟨cs, rfl, hsz⟩ := okWide_struct Try.underlying24 hv
  obtain ⟨fuel, hf⟩ := h
  obtain ⟨y0, n, _, hl, h0⟩ := trod_struct1 Try.underlying24 hf
  have h1 : Try.prog.cellsOf 24 = 1 := by kernel_rfl
  have h2 : Try.prog.cellsOf 22 = 1 := by kernel_rfl
  rw [h1] at hsz
  obtain ⟨l⟩ := cs
  match l, hsz with
  | [u], _ =>
    simp [h2, Value.cells] at h0
    obtain ⟨es, he, ok⟩ := ents_of_trod h0
    exact ⟨u, es, rfl, he, ok⟩

set_option maxHeartbeats 400000 in
theorem szRun_any (u : Value) (es : List Ent) (left : Int) (w : World) (h : InEnts w u es) (hok : ∀ e ∈ es, e.ok) (h0 : 0 ≤ left) (h1 : left ≤ 2 ^ 40) :
    Calls Try.prog 8 #[.agg #[u], .int .i64 left] w fun e w' =>
      ∃ x, e = .returned (.int .i64 x) ∧ (x = -1 ∨ (0 ≤ x ∧ x + es.length ≤ left)) ∧ Below w.heap.size w w' := by
  have HE : Hid (InEnts w u es ∧ ∀ e ∈ es, e.ok) := ⟨h, hok⟩
  have hu : u.cells = #[u] := by
    rcases h with ⟨a, cap, rfl, _⟩ | ⟨b, off, cap, rfl, _⟩ <;> rfl
  clear h hok
  go_enter Try.func8, Try.ntmps8
  go_wp2_with fail
  refine (szEntryS_any u es left _ (HE.out.1.below ((Below.refl _ _).alloc (Nat.le_refl _) _) (Nat.le_refl _)) HE.out.2 h0 h1).mono ?_
  rintro e w1 ⟨x, rfl, hx, hb1⟩
  have k1 : Below w.heap.size w w1 := ((Below.refl _ _).alloc (Nat.le_refl _) (Obj.cells #[u] 24)).trans (hb1.mono (by simp))
  have HX : Hid (x = -1 ∨ (0 ≤ x ∧ x + es.length ≤ left)) := hx
  by_cases hx0 : x < 0
  · clear hx
    go_wp2_with fail
    go_ret
    exact ⟨_, rfl, .inl rfl, k1⟩
  · clear hx
    go_wp2_with fail
    go_ret
    exact ⟨_, rfl, HX.out, k1⟩

set_option maxHeartbeats 400000 in
theorem toRun_any (u : Value) (es : List Ent) (w : World) (h : InEnts w u es) (h1 : es.length ≤ 1048576) :
    Calls Try.prog 10 #[.agg #[u]] w fun e w' =>
      ∃ g, e = .returned (.agg #[.slice (some ⟨g, 0, none⟩) es.length es.length]) ∧ OwnE w' w.heap.size g es.length es ∧ Below w.heap.size w w' := by
  have HE : Hid (InEnts w u es) := h
  have hu : u.cells = #[u] := by
    rcases h with ⟨a, cap, rfl, _⟩ | ⟨b, off, cap, rfl, _⟩ <;> rfl
  clear h
  go_enter Try.func10, Try.ntmps10
  go_wp2_with fail
  refine (toEntryS_any u es _ (HE.out.below ((((Below.refl _ _).alloc (Nat.le_refl _) _).alloc (by simp) _).alloc (by simp; omega) _) (Nat.le_refl _)) h1).mono ?_
  rintro e w1 ⟨g, rfl, hO, hb1⟩
  obtain ⟨hc1, hf1⟩ := bcell hb1
  have k1 : Below w.heap.size w w1 := ((((Below.refl _ _).alloc (Nat.le_refl _) (Obj.cells #[u] 24)).alloc (by simp) (Obj.cells #[.slice none 0 0] 29)).alloc (by simp; omega) (Obj.cells #[.slice none 0 0] 29)).trans (hb1.mono (by simp; omega))
  have HO : Hid (OwnE w1 (w.heap.size + 1 + 1 + 1) g es.length es) := by
    show OwnE w1 (w.heap.size + 1 + 1 + 1) g es.length es
    simpa using hO
  clear hO
  go_wp2_with fail
  refine bodyPost_ret (v := .agg #[.slice (some ⟨g, 0, none⟩) es.length es.length]) (by simp [results, Try.results10, go_sem, hc1]) rfl ⟨g, rfl, ?_, ?_⟩
  · exact OwnE.mono (ownsRow_setCell_below (ownsRow_setCell_below HO.out (by show w.heap.size + 1 + 1 < _; omega) _) (by show w.heap.size + 1 < _; omega) _) (by omega)
  · exact (k1.setCell (by show w.heap.size ≤ w.heap.size + 1 + 1; omega) _).setCell (by show w.heap.size ≤ w.heap.size + 1; omega) _

set_option maxHeartbeats 400000 in
theorem eqRun_any (u u' : Value) (es : List Ent) (w : World) (h : InEnts w u es) (h' : InEnts w u' es) :
    Calls Try.prog 12 #[.agg #[u], .agg #[u']] w fun e w' => e = .returned (.bool true) ∧ Below w.heap.size w w' := by
  have HE : Hid (InEnts w u es ∧ InEnts w u' es) := ⟨h, h'⟩
  have hu : u.cells = #[u] := by
    rcases h with ⟨a, cap, rfl, _⟩ | ⟨b, off, cap, rfl, _⟩ <;> rfl
  have hu' : u'.cells = #[u'] := by
    rcases h' with ⟨a, cap, rfl, _⟩ | ⟨b, off, cap, rfl, _⟩ <;> rfl
  clear h h'
  go_enter Try.func12, Try.ntmps12
  go_wp2_with fail
  have k0 : Below w.heap.size w ((w.alloc (Obj.cells #[u] 29)).alloc (Obj.cells #[u'] 29)) := ((Below.refl _ _).alloc (Nat.le_refl _) _).alloc (by simp) _
  refine (eqEntryS_any u u' es _ (HE.out.1.below k0 (Nat.le_refl _)) (HE.out.2.below k0 (Nat.le_refl _))).mono ?_
  rintro e w1 ⟨rfl, hb1⟩
  go_wp2_with fail
  go_ret
  exact ⟨rfl, k0.trans (hb1.mono (by simp; omega))⟩
end Go.Proofs.Ytnncedndlhfdkab

/-
  The marks that a law lays into rows and looks for.
-/
namespace Go.Proofs.Ytnncedndlhfdkab
open Go.ChangeShapes Go.WideShapes Go.ChangeAt Go.RowKit Go.Deep
set_option linter.unusedVariables false

def digF : Nat → Nat → List UInt8
  | 0, _ => []
  | f + 1, k => if k = 0 then [] else digF f (k / 10) ++ [UInt8.ofNat (48 + k % 10)]
theorem digF_zero (f : Nat) : digF f 0 = [] := by cases f <;> simp [digF]
theorem digF_more : ∀ (f k : Nat), k ≤ f → digF f k = digF k k
  | 0, k, h => by rw [show k = 0 by omega]
  | f + 1, k, h => by
    by_cases h0 : k = 0
    · subst h0; rw [digF_zero, digF_zero]
    · obtain ⟨j, rfl⟩ : ∃ j, k = j + 1 := ⟨k - 1, by omega⟩
      have h1 : (j + 1) / 10 ≤ j := by omega
      unfold digF
      rw [if_neg h0, if_neg h0, digF_more f _ (by omega), digF_more j _ h1]
def dig (k : Nat) : List UInt8 := digF k k
theorem dig_step {k : Nat} (h : 0 < k) : dig k = dig (k / 10) ++ [UInt8.ofNat (48 + k % 10)] := by
  obtain ⟨j, rfl⟩ : ∃ j, k = j + 1 := ⟨k - 1, by omega⟩
  show digF (j + 1) (j + 1) = _
  rw [digF, if_neg (by omega), digF_more j _ (by omega)]; rfl
/-- The mark's text. -/
def mText (k : Nat) : ByteArray := ⟨(109 :: dig k).toArray⟩

theorem mText_eq {k : Nat} {out : ByteArray} (h : dig k = out.data.toList) : mText k = ⟨#[109]⟩ ++ out := by
  obtain ⟨a⟩ := out
  unfold mText
  rw [ByteArray.mk_append_mk, h]
  simp

set_option maxHeartbeats 400000 in
set_option maxRecDepth 100000 in
theorem markText_nat (k : Nat) (w : World) (h0 : 0 < k) (h1 : k ≤ 2 ^ 40) :
    Calls Try.prog 57 #[.int .i64 k] w fun e w' => e = .returned (.string (mText k)) ∧ Below w.heap.size w w' := by
  go_enter Try.func57, Try.ntmps57
  go_wp2
  go_loopw [0, 3] (fun c o wr => ∃ (j : Nat) (out : ByteArray), c = .int .i64 j ∧ j + out.size ≤ k ∧ o = .string out ∧ dig k = dig j ++ out.data.toList ∧ Below w.heap.size w wr) (fun c _ _ => (intOf c).toNat)
  case atStart => exact ⟨k, ⟨#[]⟩, rfl, Nat.le_refl _, rfl, by simp, Below.refl _ _⟩
  case round =>
    obtain ⟨j, out, rfl, hj, rfl, hd, hb⟩ := hrel
    have HD : Hid (dig k = dig j ++ out.data.toList) := hd
    clear hd
    by_cases hp : 0 < j
    · obtain ⟨d, hd⟩ : ∃ d : UInt8, d = UInt8.ofNat (48 + j % 10) := ⟨_, rfl⟩
      have hdn : (d.toNat : Int) = 48 + (j : Int) % 10 := by
        rw [hd, UInt8.toNat_ofNat']
        omega
      have hcv : ((convert 117 9 (.slice (some ⟨wr.heap.size, 0, none⟩) 1 1)).run Try.prog (wr.alloc (Obj.cells #[.int .u8 (48 + (j : Int) % 10)] 5))) = .ok (.string ⟨#[d]⟩) (wr.alloc (Obj.cells #[.int .u8 (48 + (j : Int) % 10)] 5)) := by
        refine run_convert_bytes_back (P := Try.prog) (wr.alloc (Obj.cells #[.int .u8 (48 + (j : Int) % 10)] 5)) 117 9 5 ⟨wr.heap.size, 0, none⟩ 1 [d] Try.underlying117 Try.underlying5 Try.underlying9 ?_
        intro i hi
        obtain rfl : i = 0 := by simpa using hi
        simp [Addr.add, hdn]
      have HN : Hid (d = UInt8.ofNat (48 + j % 10)) := hd
      clear hd hdn
      go_wp2_with fail
      refine ⟨⟨j / 10, ⟨#[d]⟩ ++ out, by go_num, ?_, rfl, ?_, hb.alloc hb.size _⟩, ?_⟩
      · go_light
        rw [ByteArray.size_append]
        show j / 10 + (1 + out.size) ≤ k
        omega
      · go_light
        rw [HD.out, dig_step hp, HN.out]
        simp
      · go_light
        simp [intOf]; omega
    · go_wp2_with fail
      go_ret
      refine ⟨?_, hb⟩
      have e : mText k = ⟨#[109]⟩ ++ out := mText_eq (by rw [HD.out, show j = 0 by omega]; rfl)
      rw [e]; rfl

theorem markText_any (a : Int) (w : World) (h0 : 0 < a) (h1 : a ≤ 2 ^ 40) :
    Calls Try.prog 57 #[.int .i64 a] w fun e w' => e = .returned (.string (mText a.toNat)) ∧ Below w.heap.size w w' := by
  obtain ⟨k, rfl⟩ := Int.eq_ofNat_of_zero_le (by omega : 0 ≤ a)
  rw [Int.toNat_natCast]
  exact markText_nat k w (by omega) (by omega)

/-- The entry that the marks from 'k' on make. -/
def mEnt (k : Int) : Ent := ⟨mText k.toNat, mText (k + 1).toNat, mText (k + 1 + 1).toNat, k + 1 + 1 + 1, k + 1 + 1 + 1 + 1, mText (k + 1 + 1 + 1 + 1 + 1).toNat⟩
/-- The first 'i' of the entries are marked, from 'k' on. -/
def marked (k : Int) (es : List Ent) (i : Nat) : Prop := ∀ j : Nat, j < i → es[j]? = some (mEnt (k + j * 6))

theorem grown_of_below {w w' : World} (h : Below w.heap.size w w') (r : Option Nat) : w.grownBy w' r := ⟨h.os, h.tape, h.output, h.size, fun k hk _ => h.block k hk⟩
theorem grown_set (w : World) (g o : Nat) (u : Value) : w.grownBy (w.setCell ⟨g, o, none⟩ u) (some g) := by
  have h : Below g w (w.setCell ⟨g, o, none⟩ u) := (Below.refl g w).setCell (Nat.le_refl _) u
  exact ⟨h.os, h.tape, h.output, h.size, fun k hk hne => Below.heap_setCell w ⟨g, o, none⟩ u k (fun e => hne (by rw [e]))⟩
theorem OwnE.upd {w : World} {base g cap m j : Nat} {fs : List Ent} {f f' : Ent} {u : Value} (h : OwnE w base g cap (fs.set m f)) (hm : m < fs.length) (hj : j < 6) (hc : f'.cells = f.cells.set j u) :
    OwnE (w.setCell ⟨g, m * 6 + j, none⟩ u) base g cap (fs.set m f') := by
  have := h.set m j f f' u (by simp [hm]) hj hc
  rwa [List.set_set] at this
theorem marked_set {k : Int} {fs : List Ent} {m : Nat} (h : marked k fs m) (hm : m < fs.length) : marked k (fs.set m (mEnt (k + m * 6))) (m + 1) := by
  intro j hj
  by_cases e : j = m
  · subst e; simp [hm]
  · rw [List.getElem?_set_ne (by omega)]; exact h j (by omega)

set_option maxHeartbeats 1000000 in
theorem markEntryS_core (base g cap : Nat) (es : List Ent) (k : Int) (w : World) (hO : OwnE w base g cap es) (h0 : 0 < k) (h1 : k ≤ 2 ^ 30) (hn : es.length ≤ 1048576) :
    Calls Try.prog 23 #[.slice (some ⟨g, 0, none⟩) es.length cap, .int .i64 k] w fun e w' =>
      ∃ fs, e = .returned (.int .i64 (k + es.length * 6)) ∧ OwnE w' base g cap fs ∧ fs.length = es.length ∧ marked k fs es.length ∧ w.grownBy w' (some g) := by
  have HO : Hid (OwnE w base g cap es) := hO
  clear hO
  go_enter Try.func23, Try.ntmps23
  go_wp2
  go_loopw [1, 5] (fun c i wr => ∃ (m : Nat) (a : Int) (fs : List Ent), m ≤ es.length ∧ i = .int .i64 m ∧ c = .int .i64 a ∧ a = k + m * 6 ∧ OwnE wr base g cap fs ∧ fs.length = es.length ∧ marked k fs m ∧ w.grownBy wr (some g)) (fun _ i _ => es.length - (intOf i).toNat)
  case atStart => exact ⟨0, k, es, Nat.zero_le _, rfl, rfl, by simp, HO.out, rfl, fun j hj => by omega, grown_of_below (Below.refl _ _) _⟩
  case round =>
    obtain ⟨m, a, fs, hm, rfl, rfl, ha, hO, hfl, hmk, hgr⟩ := hrel
    have HR : Hid (a = k + m * 6 ∧ OwnE wr base g cap fs ∧ fs.length = es.length ∧ marked k fs m) := ⟨ha, hO, hfl, hmk⟩
    have ha0 : 0 < a := by omega
    have ha1 : a ≤ 2 ^ 31 := by omega
    have HG : Hid (w.grownBy wr (some g)) := hgr
    clear hO hfl hmk ha hgr
    by_cases hlt : m < es.length
    · obtain ⟨f, hf⟩ : ∃ f, fs[m]? = some f := ⟨_, List.getElem?_eq_getElem (by rw [HR.out.2.2.1]; exact hlt)⟩
      have HF : Hid (fs[m]? = some f ∧ m < fs.length) := ⟨hf, by rw [HR.out.2.2.1]; exact hlt⟩
      clear hf
      go_wp2_with fail
      refine (markText_any a _ (by omega) (by omega)).mono ?_
      rintro e w1 ⟨rfl, hb1⟩
      have hO1 := HR.out.2.1.below hb1 HR.out.2.1.lt.2
      have c1 := (hO1.at m f HF.out.1).1
      simp only [Nat.zero_add] at c1
      have z1 := fun j => World.ownsRow.frozenAt hO1 j
      have hO1' := hO1.set m 0 f { f with row := mText a.toNat } (.string (mText a.toNat)) HF.out.1 (by omega) rfl
      have H1 : Hid (OwnE (w1.setCell ⟨g, m * 6, none⟩ (.string (mText a.toNat))) base g cap (fs.set m { f with row := mText a.toNat }) ∧ w.grownBy (w1.setCell ⟨g, m * 6, none⟩ (.string (mText a.toNat))) (some g)) := ⟨hO1', (HG.out.trans (grown_of_below hb1 _)).trans (grown_set _ _ _ _)⟩
      clear hO1 hO1' hb1
      go_wp2_with fail
      refine (markText_any (a + 1) _ (by omega) (by omega)).mono ?_
      rintro e w2 ⟨rfl, hb2⟩
      have hO2 := H1.out.1.below hb2 H1.out.1.lt.2
      have c2 := (hO2.at m _ (by simp [HF.out.2]; rfl)).2.1
      simp only [Nat.zero_add] at c2
      have z2 := fun j => World.ownsRow.frozenAt hO2 j
      have H2 : Hid (OwnE (w2.setCell ⟨g, m * 6 + 1, none⟩ (.string (mText (a + 1).toNat))) base g cap (fs.set m { f with row := mText a.toNat, fam := mText (a + 1).toNat }) ∧ w.grownBy (w2.setCell ⟨g, m * 6 + 1, none⟩ (.string (mText (a + 1).toNat))) (some g)) :=
        ⟨hO2.upd HF.out.2 (by omega) rfl, (H1.out.2.trans (grown_of_below hb2 _)).trans (grown_set _ _ _ _)⟩
      clear hO2 hb2 c1 z1
      go_wp2_with fail
      refine (markText_any (a + 1 + 1) _ (by omega) (by omega)).mono ?_
      rintro e w3 ⟨rfl, hb3⟩
      have hO3 := H2.out.1.below hb3 H2.out.1.lt.2
      obtain ⟨_, _, c3, c4, c5, _⟩ := hO3.at m _ (by simp [HF.out.2]; rfl)
      simp only [Nat.zero_add] at c3 c4 c5
      have z3 := fun j => World.ownsRow.frozenAt hO3 j
      have H3 : Hid (OwnE w3 base g cap (fs.set m { f with row := mText a.toNat, fam := mText (a + 1).toNat }) ∧ w.grownBy w3 (some g)) := ⟨hO3, H2.out.2.trans (grown_of_below hb3 _)⟩
      clear hO3 hb3 c2 z2
      go_wp2_with fail
      refine (markText_any (a + 1 + 1 + 1 + 1 + 1) _ (by omega) (by omega)).mono ?_
      rintro e w4 ⟨rfl, hb4⟩
      have hO3 := ((H3.out.1.upd (j := 2) (u := .string (mText (a + 1 + 1).toNat)) (f' := { f with row := mText a.toNat, fam := mText (a + 1).toNat, qual := mText (a + 1 + 1).toNat }) HF.out.2 (by omega) rfl).upd (j := 3) (u := .int .u64 (a + 1 + 1 + 1))
        (f' := { f with row := mText a.toNat, fam := mText (a + 1).toNat, qual := mText (a + 1 + 1).toNat, ts := a + 1 + 1 + 1 }) HF.out.2 (by omega) rfl).upd (j := 4) (u := .int .i64 (a + 1 + 1 + 1 + 1))
        (f' := { f with row := mText a.toNat, fam := mText (a + 1).toNat, qual := mText (a + 1 + 1).toNat, ts := a + 1 + 1 + 1, kind := a + 1 + 1 + 1 + 1 }) HF.out.2 (by omega) rfl
      have hO4 := hO3.below hb4 hO3.lt.2
      have c6 := (hO4.at m _ (by simp [HF.out.2]; rfl)).2.2.2.2.2
      simp only [Nat.zero_add] at c6
      have z4 := fun j => World.ownsRow.frozenAt hO4 j
      have H4 : Hid (OwnE (w4.setCell ⟨g, m * 6 + 5, none⟩ (.string (mText (a + 1 + 1 + 1 + 1 + 1).toNat))) base g cap (fs.set m (mEnt a)) ∧ w.grownBy (w4.setCell ⟨g, m * 6 + 5, none⟩ (.string (mText (a + 1 + 1 + 1 + 1 + 1).toNat))) (some g)) :=
        ⟨hO4.upd HF.out.2 (by omega) rfl, (((((H3.out.2.trans (grown_set _ _ _ _)).trans (grown_set _ _ _ _)).trans (grown_set _ _ _ _)).trans (grown_of_below hb4 _)).trans (grown_set _ _ _ _))⟩
      have HE : Hid (a = k + m * 6) := HR.out.1
      clear hO3 hO4 hb4 c3 c4 c5 z3
      go_wp2_with fail
      refine ⟨⟨m + 1, a + 1 + 1 + 1 + 1 + 1 + 1, fs.set m (mEnt a), by omega, by go_num, rfl, ?_, H4.out.1, by rw [List.length_set]; exact HR.out.2.2.1, ?_, H4.out.2⟩, ?_⟩
      · go_light
        have := HE.out
        omega
      · go_light
        have := marked_set HR.out.2.2.2 HF.out.2
        rw [← HE.out] at this
        exact this
      · go_light
        simp [intOf]; omega
    · go_wp2_with fail
      go_ret
      have e1 : m = es.length := by omega
      refine ⟨fs, ?_, HR.out.2.1, HR.out.2.2.1, ?_, HG.out⟩
      · rw [HR.out.1, e1]; rfl
      · rw [← e1]; exact HR.out.2.2.2
end Go.Proofs.Ytnncedndlhfdkab

/-
  The marks, looked for.
-/
namespace Go.Proofs.Ytnncedndlhfdkab
open Go.ChangeShapes Go.WideShapes Go.ChangeAt Go.RowKit Go.Deep
set_option linter.unusedVariables false

theorem markText_in (W0 : World) (a : Int) (w : World) (hb : Below W0.heap.size W0 w) (h0 : 0 < a) (h1 : a ≤ 2 ^ 40) :
    Calls Try.prog 57 #[.int .i64 a] w fun e w' => e = .returned (.string (mText a.toNat)) ∧ Below W0.heap.size W0 w' := by
  refine (markText_any a w h0 h1).mono ?_
  rintro e w' ⟨he, hb'⟩
  exact ⟨he, hb.trans (hb'.mono hb.size)⟩

set_option maxHeartbeats 2000000 in
theorem heldEntryS_core (b off cap : Nat) (es : List Ent) (k : Int) (w : World) (hE : EntsAt w b off es) (hmk : marked k es es.length) (hB : b < w.heap.size) (h0 : 0 < k) (h1 : k ≤ 2 ^ 30) (hn : es.length ≤ 1048576) :
    Calls Try.prog 58 #[.slice (some ⟨b, off, none⟩) es.length cap, .int .i64 k] w fun e w' =>
      e = .returned (.int .i64 (k + es.length * 6)) ∧ Below w.heap.size w w' := by
  have HE : Hid (EntsAt w b off es ∧ marked k es es.length) := ⟨hE, hmk⟩
  clear hE hmk
  go_enter Try.func58, Try.ntmps58
  go_wp2
  go_loopw [1, 5] (fun c i wr => ∃ (m : Nat) (a : Int), m ≤ es.length ∧ i = .int .i64 m ∧ c = .int .i64 a ∧ a = k + m * 6 ∧ Below w.heap.size w wr) (fun _ i _ => es.length - (intOf i).toNat)
  case atStart => exact ⟨0, k, Nat.zero_le _, rfl, rfl, by simp, Below.refl _ _⟩
  case round =>
    obtain ⟨m, a, hm, rfl, rfl, ha, hb⟩ := hrel
    have ha0 : 0 < a := by omega
    have ha1 : a ≤ 2 ^ 31 := by omega
    have HA : Hid (a = k + m * 6) := ha
    clear ha
    have hs := hb.size
    by_cases hlt : m < es.length
    · have he : es[m]? = some (mEnt a) := by rw [HA.out]; exact HE.out.2 m hlt
      have HM : Hid (es[m]? = some (mEnt a)) := he
      clear he
      have z2 : (m : Int) < (es.length : Int) := by omega
      have hce : ∀ wx, Below w.heap.size w wx → wx.cell? ⟨b, off + m * 6, none⟩ = some (.string (mText a.toNat)) ∧ wx.cell? ⟨b, off + m * 6 + 1, none⟩ = some (.string (mText (a + 1).toNat)) ∧ wx.cell? ⟨b, off + m * 6 + 2, none⟩ = some (.string (mText (a + 1 + 1).toNat)) ∧
          wx.cell? ⟨b, off + m * 6 + 3, none⟩ = some (.int .u64 (a + 1 + 1 + 1)) ∧ wx.cell? ⟨b, off + m * 6 + 4, none⟩ = some (.int .i64 (a + 1 + 1 + 1 + 1)) ∧ wx.cell? ⟨b, off + m * 6 + 5, none⟩ = some (.string (mText (a + 1 + 1 + 1 + 1 + 1).toNat)) :=
        fun wx hx => (HE.out.1.below hx hB) m _ HM.out
      have HC : Hid (∀ wx, Below w.heap.size w wx → wx.cell? ⟨b, off + m * 6, none⟩ = some (.string (mText a.toNat)) ∧ wx.cell? ⟨b, off + m * 6 + 1, none⟩ = some (.string (mText (a + 1).toNat)) ∧ wx.cell? ⟨b, off + m * 6 + 2, none⟩ = some (.string (mText (a + 1 + 1).toNat)) ∧
          wx.cell? ⟨b, off + m * 6 + 3, none⟩ = some (.int .u64 (a + 1 + 1 + 1)) ∧ wx.cell? ⟨b, off + m * 6 + 4, none⟩ = some (.int .i64 (a + 1 + 1 + 1 + 1)) ∧ wx.cell? ⟨b, off + m * 6 + 5, none⟩ = some (.string (mText (a + 1 + 1 + 1 + 1 + 1).toNat))) := hce
      clear hce
      have c1 := (HC.out wr hb).1
      go_upto_region 4 with fail
      go_cut [19] (fun s wx => s = .bool false ∧ Below w.heap.size w wx)
      case first =>
        go_region_with (go_at_call 57; refine (markText_in w _ _ ?hB (by omega) (by omega)).mono ?_; (case hB => (repeat (first | assumption | refine Below.drew ?_))); rintro e' w' ⟨rfl, hbb⟩; have cx := (HC.out w' hbb).1)
        all_goals go_wp2_with fail
        all_goals go_meet
        all_goals exact ⟨rfl, by assumption⟩
      case rest =>
      obtain ⟨rfl, h2⟩ := hcut
      clear c1
      obtain ⟨wa, rfl⟩ : ∃ wa : World, wa = wc := ⟨_, rfl⟩
      have c2 := (HC.out wa h2).2.1
      go_upto_region 7 with fail
      go_cut [29] (fun s wx => s = .bool false ∧ Below w.heap.size w wx)
      case first =>
        go_region_with (go_at_call 57; refine (markText_in w _ _ ?hB (by omega) (by omega)).mono ?_; (case hB => (repeat (first | assumption | refine Below.drew ?_))); rintro e' w' ⟨rfl, hbb⟩; have cx := (HC.out w' hbb).2.1)
        all_goals go_wp2_with fail
        all_goals go_meet
        all_goals exact ⟨rfl, by assumption⟩
      case rest =>
      obtain ⟨rfl, h3⟩ := hcut
      clear c2
      obtain ⟨wb, rfl⟩ : ∃ wb : World, wb = wc := ⟨_, rfl⟩
      have c3 := (HC.out wb h3).2.2.1
      go_upto_region 10 with fail
      go_cut [39] (fun s wx => s = .bool false ∧ Below w.heap.size w wx)
      case first =>
        go_region_with (go_at_call 57; refine (markText_in w _ _ ?hB (by omega) (by omega)).mono ?_; (case hB => (repeat (first | assumption | refine Below.drew ?_))); rintro e' w' ⟨rfl, hbb⟩; have cx := (HC.out w' hbb).2.2.1)
        all_goals go_wp2_with fail
        all_goals go_meet
        all_goals exact ⟨rfl, by assumption⟩
      case rest =>
      obtain ⟨rfl, h4⟩ := hcut
      clear c3
      obtain ⟨wd, rfl⟩ : ∃ wd : World, wd = wc := ⟨_, rfl⟩
      have c4 := (HC.out wd h4).2.2.2.1
      have c5 := (HC.out wd h4).2.2.2.2.1
      have c6 := (HC.out wd h4).2.2.2.2.2
      go_upto_region 19 with fail
      go_cut [68] (fun s wx => s = .bool false ∧ Below w.heap.size w wx)
      case first =>
        go_region_with (go_at_call 57; refine (markText_in w _ _ ?hB (by omega) (by omega)).mono ?_; (case hB => (repeat (first | assumption | refine Below.drew ?_))); rintro e' w' ⟨rfl, hbb⟩; have cx := (HC.out w' hbb).2.2.2.2.2)
        all_goals go_wp2_with fail
        all_goals go_meet
        all_goals exact ⟨rfl, by assumption⟩
      case rest =>
      obtain ⟨rfl, h5⟩ := hcut
      clear c4 c5 c6
      go_wp2_with fail
      refine ⟨⟨m + 1, a + 1 + 1 + 1 + 1 + 1 + 1, by omega, by go_num, rfl, ?_, h5⟩, ?_⟩
      · go_light
        have := HA.out
        omega
      · go_light
        simp [intOf]; omega
    · go_wp2_with fail
      go_ret
      have e1 : m = es.length := by omega
      refine ⟨?_, hb⟩
      rw [HA.out, e1]; rfl
end Go.Proofs.Ytnncedndlhfdkab

/-
  A run that came back: of the call's own, or nil; its marks.
-/
namespace Go.Proofs.Ytnncedndlhfdkab
open Go.ChangeShapes Go.WideShapes Go.ChangeAt Go.RowKit Go.Deep
set_option linter.unusedVariables false
set_option maxRecDepth 100000

/-- A slice of the call's own, or nil. -/
def OwnU (w : World) (base : Nat) (u : Value) (R : List Ent) : Prop := (u = .slice none 0 0 ∧ R = []) ∨ ∃ g cp, u = .slice (some ⟨g, 0, none⟩) R.length cp ∧ OwnE w base g cp R
theorem OwnE.caps {w : World} {base g cp : Nat} {R : List Ent} (h : OwnE w base g cp R) : R.length ≤ cp ∧ cp ≤ maxLen := by
  rcases h.2 with ⟨h0, _⟩ | ⟨g', cap', cur, hv, _, _, hn, hcap, _, _⟩
  · cases h0
  · simp only [Value.slice.injEq, Option.some.injEq, Addr.mk.injEq, and_true, true_and] at hv
    obtain ⟨rfl, rfl⟩ := hv
    exact ⟨hn, hcap⟩
theorem OwnU.ins {w : World} {base : Nat} {u : Value} {R : List Ent} (h : OwnU w base u R) : InEnts w u R := by
  rcases h with ⟨rfl, rfl⟩ | ⟨g, cp, rfl, hO⟩
  · exact .inl ⟨_, _, rfl, rfl⟩
  · exact InEnts.own hO hO.caps.1 hO.caps.2
theorem OwnU.kept {w w' : World} {base : Nat} {u : Value} {R : List Ent} {row : Option Nat} (h : OwnU w base u R) (hg : w.grownBy w' row) (hne : ∀ g, row = some g → g < base) : OwnU w' base u R := by
  rcases h with h | ⟨g, cp, rfl, hO⟩
  · exact .inl h
  · exact .inr ⟨g, cp, rfl, World.ownsRow.kept hO hg (.inr (fun q => by have := hne g q.symm; have := hO.lt.1; omega))⟩
theorem OwnU.row {w : World} {base : Nat} {u : Value} {R : List Ent} (h : OwnU w base u R) : ∀ g, u.ownBlock = some g → base ≤ g ∧ g < w.heap.size := by
  intro g hg
  rcases h with ⟨rfl, _⟩ | ⟨g', cp, rfl, hO⟩
  · cases hg
  · have : g' = g := Option.some.inj hg
    subst this
    exact hO.lt
theorem OwnU.keptNe {w w' : World} {base : Nat} {u : Value} {R : List Ent} {row : Option Nat} (h : OwnU w base u R) (hg : w.grownBy w' row) (hne : ∀ g, u.ownBlock = some g → row ≠ some g) : OwnU w' base u R := by
  rcases h with h | ⟨g, cp, rfl, hO⟩
  · exact .inl h
  · exact .inr ⟨g, cp, rfl, World.ownsRow.kept hO hg (.inr (fun q => hne g rfl q.symm))⟩
theorem OwnU.ownCells {w : World} {base : Nat} {u : Value} {R : List Ent} (h : OwnU w base u R) : u.cells = #[u] := by
  rcases h with ⟨rfl, _⟩ | ⟨g, cp, rfl, _⟩ <;> rfl

set_option maxHeartbeats 400000 in
theorem markEntryS_zero (a : Option Addr) (cap : Nat) (k : Int) (w : World) :
    Calls Try.prog 23 #[.slice a 0 cap, .int .i64 k] w fun e w' => e = .returned (.int .i64 k) ∧ Below w.heap.size w w' := by
  go_enter Try.func23, Try.ntmps23
  go_wp2
  go_loopw [1, 5] (fun c i wr => c = .int .i64 k ∧ i = .int .i64 0 ∧ wr = w) (fun _ i _ => 0)
  case atStart => exact ⟨rfl, rfl, rfl⟩
  case round =>
    obtain ⟨rfl, rfl, rfl⟩ := hrel
    go_wp2_with fail
    go_ret
    exact ⟨rfl, Below.refl _ _⟩
set_option maxHeartbeats 400000 in
theorem heldEntryS_zero (a : Option Addr) (cap : Nat) (k : Int) (w : World) :
    Calls Try.prog 58 #[.slice a 0 cap, .int .i64 k] w fun e w' => e = .returned (.int .i64 k) ∧ Below w.heap.size w w' := by
  go_enter Try.func58, Try.ntmps58
  go_wp2
  go_loopw [1, 5] (fun c i wr => c = .int .i64 k ∧ i = .int .i64 0 ∧ wr = w) (fun _ i _ => 0)
  case atStart => exact ⟨rfl, rfl, rfl⟩
  case round =>
    obtain ⟨rfl, rfl, rfl⟩ := hrel
    go_wp2_with fail
    go_ret
    exact ⟨rfl, Below.refl _ _⟩

/-- Marks laid: only blocks from 'base' on have turned. -/
theorem markEntryS_own (base : Nat) (u : Value) (R : List Ent) (k : Int) (w : World) (h : OwnU w base u R) (h0 : 0 < k) (h1 : k ≤ 2 ^ 30) (hn : R.length ≤ 1048576) (hbase : base ≤ w.heap.size) :
    Calls Try.prog 23 #[u, .int .i64 k] w fun e w' =>
      ∃ R', e = .returned (.int .i64 (k + R.length * 6)) ∧ OwnU w' base u R' ∧ R'.length = R.length ∧ marked k R' R'.length ∧ w.grownBy w' u.ownBlock := by
  rcases h with ⟨rfl, rfl⟩ | ⟨g, cp, rfl, hO⟩
  · refine (markEntryS_zero none 0 k w).mono ?_
    rintro e w' ⟨rfl, hb⟩
    exact ⟨[], by simp, .inl ⟨rfl, rfl⟩, rfl, fun j hj => by simp at hj, grown_of_below hb _⟩
  · refine (markEntryS_core base g cp R k w hO h0 h1 hn).mono ?_
    rintro e w' ⟨fs, rfl, hO', hl, hm, hg⟩
    exact ⟨fs, rfl, .inr ⟨g, cp, by rw [hl], hO'⟩, hl, by rw [hl]; exact hm, hg⟩
theorem heldEntryS_own (base : Nat) (u : Value) (R : List Ent) (k : Int) (w : World) (h : OwnU w base u R) (hm : marked k R R.length) (h0 : 0 < k) (h1 : k ≤ 2 ^ 30) (hn : R.length ≤ 1048576) :
    Calls Try.prog 58 #[u, .int .i64 k] w fun e w' => e = .returned (.int .i64 (k + R.length * 6)) ∧ Below w.heap.size w w' := by
  rcases h with ⟨rfl, rfl⟩ | ⟨g, cp, rfl, hO⟩
  · refine (heldEntryS_zero none 0 k w).mono ?_
    rintro e w' ⟨rfl, hb⟩
    exact ⟨by simp, hb⟩
  · exact heldEntryS_core g 0 cp R k w hO.at hm hO.lt.2 h0 h1 hn

set_option maxHeartbeats 400000 in
theorem markRun_own (base : Nat) (u : Value) (R : List Ent) (k : Int) (w : World) (h : OwnU w base u R) (h0 : 0 < k) (h1 : k ≤ 2 ^ 30) (hn : R.length ≤ 1048576) (hbase : base ≤ w.heap.size) :
    Calls Try.prog 24 #[.agg #[u], .int .i64 k] w fun e w' =>
      ∃ R', e = .returned (.int .i64 (k + R.length * 6)) ∧ OwnU w' base u R' ∧ R'.length = R.length ∧ marked k R' R'.length ∧ w.grownBy w' u.ownBlock := by
  have hu := h.ownCells
  have hb0 : Below w.heap.size w (w.alloc (Obj.cells #[u] 29)) := (Below.refl _ _).alloc (Nat.le_refl _) _
  have HU : Hid (OwnU (w.alloc (Obj.cells #[u] 29)) base u R) := h.kept (grown_of_below hb0 none) (fun g q => by cases q)
  clear h
  go_enter Try.func24, Try.ntmps24
  go_wp2_with fail
  refine (markEntryS_own base u R k _ HU.out h0 h1 hn (by simp; omega)).mono ?_
  rintro e w1 ⟨R', rfl, hU', hl, hm, hb1⟩
  have HF : Hid (OwnU w1 base u R' ∧ R'.length = R.length ∧ marked k R' R'.length) := ⟨hU', hl, hm⟩
  clear hU' hl hm
  go_wp2_with fail
  go_ret
  exact ⟨R', rfl, HF.out.1, HF.out.2.1, HF.out.2.2, (grown_of_below hb0 _).trans hb1⟩
set_option maxHeartbeats 400000 in
theorem heldRun_own (base : Nat) (u : Value) (R : List Ent) (k : Int) (w : World) (h : OwnU w base u R) (hm : marked k R R.length) (h0 : 0 < k) (h1 : k ≤ 2 ^ 30) (hn : R.length ≤ 1048576) :
    Calls Try.prog 25 #[.agg #[u], .int .i64 k] w fun e w' => e = .returned (.int .i64 (k + R.length * 6)) ∧ Below w.heap.size w w' := by
  have hu := h.ownCells
  have hb0 : Below w.heap.size w (w.alloc (Obj.cells #[u] 29)) := (Below.refl _ _).alloc (Nat.le_refl _) _
  have HU : Hid (OwnU (w.alloc (Obj.cells #[u] 29)) base u R ∧ marked k R R.length) := ⟨h.kept (grown_of_below hb0 none) (fun g q => by cases q), hm⟩
  clear h hm
  go_enter Try.func25, Try.ntmps25
  go_wp2_with fail
  refine (heldEntryS_own base u R k _ HU.out.1 HU.out.2 h0 h1 hn).mono ?_
  rintro e w1 ⟨rfl, hb1⟩
  have hge : 0 ≤ k + (R.length : Int) * 6 := by omega
  go_wp2_with fail
  go_ret
  exact ⟨rfl, hb0.trans (hb1.mono (by simp))⟩

end Go.Proofs.Ytnncedndlhfdkab

/-
  The order of keys: spec.CompareKeys and impl.CompareKeys come to one Lean function.
-/
namespace Go.Proofs.Ytnncedndlhfdkab
open Go.ChangeShapes Go.WideShapes Go.ChangeAt Go.RowKit Go.Deep

/-- Two strings against each other. -/
def cB (a b : ByteArray) : Int := Lib.compareBytes a.data.toList b.data.toList

theorem compareBytes_less : ∀ a b : List UInt8, Op.bytesLess a b = true → Lib.compareBytes a b = -1
  | [], [] => by simp [Op.bytesLess]
  | [], _ :: _ => by simp [Lib.compareBytes]
  | _ :: _, [] => by simp [Op.bytesLess]
  | a :: x, b :: y => by
    intro h
    simp only [Op.bytesLess, Bool.or_eq_true, decide_eq_true_eq, Bool.and_eq_true, beq_iff_eq] at h
    unfold Lib.compareBytes
    rcases h with h | ⟨rfl, h⟩
    · rw [if_pos h]
    · have hn : ¬ a < a := by simp
      rw [if_neg hn, if_neg hn]; exact compareBytes_less x y h
theorem compareBytes_self : ∀ a : List UInt8, Lib.compareBytes a a = 0
  | [] => rfl
  | a :: x => by
    unfold Lib.compareBytes
    have hn : ¬ a < a := by simp
    rw [if_neg hn, if_neg hn]; exact compareBytes_self x
theorem compareBytes_more : ∀ a b : List UInt8, Op.bytesLess a b = false → (a == b) = false → Lib.compareBytes a b = 1
  | [], [] => by simp
  | [], _ :: _ => by simp [Op.bytesLess]
  | _ :: _, [] => by simp [Lib.compareBytes]
  | a :: x, b :: y => by
    intro h h2
    simp only [Op.bytesLess, Bool.or_eq_false_iff, decide_eq_false_iff_not] at h
    unfold Lib.compareBytes
    rw [if_neg h.1]
    by_cases hb : b < a
    · rw [if_pos hb]
    · rw [if_neg hb]
      have hab : a = b := by
        have h1 := h.1
        rw [UInt8.lt_iff_toNat_lt] at h1 hb
        exact UInt8.toNat_inj.1 (by omega)
      subst hab
      refine compareBytes_more x y ?_ ?_
      · simpa using h.2
      · simpa using h2
theorem compareBytes_vals (a b : List UInt8) : Lib.compareBytes a b = -1 ∨ Lib.compareBytes a b = 0 ∨ Lib.compareBytes a b = 1 := by
  cases h : Op.bytesLess a b
  · cases h2 : (a == b)
    · exact .inr (.inr (compareBytes_more a b h h2))
    · rw [beq_iff_eq] at h2; subst h2; exact .inr (.inl (compareBytes_self a))
  · exact .inl (compareBytes_less a b h)
theorem cB_vals (a b : ByteArray) : cB a b = -1 ∨ cB a b = 0 ∨ cB a b = 1 := compareBytes_vals _ _
theorem cB_less {a b : ByteArray} (h : Op.bytesLess a.toList b.toList = true) : cB a b = -1 := by
  rw [ByteArray.toList_eq, ByteArray.toList_eq] at h; exact compareBytes_less _ _ h
theorem cB_more {a b : ByteArray} (h : Op.bytesLess a.toList b.toList = false) (h2 : (a.toList == b.toList) = false) : cB a b = 1 := by
  rw [ByteArray.toList_eq, ByteArray.toList_eq] at h h2; exact compareBytes_more _ _ h h2
theorem cB_same {a b : ByteArray} (h2 : (a.toList == b.toList) = true) : cB a b = 0 := by
  rw [ByteArray.toList_eq, ByteArray.toList_eq, beq_iff_eq] at h2; unfold cB; rw [h2]; exact compareBytes_self _

def firstOf (a b : Int) : Int := if a = 0 then b else a
def kindCmp (k l : Int) : Int := if k = 2 then (if l = 2 then 0 else -1) else (if l = 2 then 1 else 0)
def tsCmp (t u : Int) : Int := if u < t then -1 else if t < u then 1 else 0
/-- The order of keys. -/
def keyCmp (a b : Ent) : Int := firstOf (cB a.row b.row) (firstOf (cB a.fam b.fam) (firstOf (cB a.qual b.qual) (firstOf (kindCmp a.kind b.kind) (tsCmp a.ts b.ts))))

theorem ret_int {k : IntKind} {a b : Int} (h : a = b) : Ending.returned (.int k a) = .returned (.int k b) := by rw [h]

set_option maxHeartbeats 400000 in
theorem l1Str_any (a b : ByteArray) (w : World) :
    Calls Try.prog 70 #[.string a, .string b] w fun e w' => e = .returned (.int .i64 (cB a b)) ∧ w' = w := by
  cases h : Op.bytesLess a.toList b.toList
  · cases h2 : (a.toList == b.toList)
    · have H : Hid (cB a b = 1) := cB_more h h2
      go_enter Try.func70, Try.ntmps70
      go_wp2
      go_ret
      exact ⟨ret_int H.out.symm, rfl⟩
    · have H : Hid (cB a b = 0) := cB_same h2
      go_enter Try.func70, Try.ntmps70
      go_wp2
      go_ret
      exact ⟨ret_int H.out.symm, rfl⟩
  · have H : Hid (cB a b = -1) := cB_less h
    go_enter Try.func70, Try.ntmps70
    go_wp2
    go_ret
    exact ⟨ret_int H.out.symm, rfl⟩

set_option maxHeartbeats 400000 in
theorem l1First_any (a b : Int) (w : World) :
    Calls Try.prog 69 #[.int .i64 a, .int .i64 b] w fun e w' => e = .returned (.int .i64 (firstOf a b)) ∧ w' = w := by
  unfold firstOf
  by_cases h : a = 0
  · have h' : (a != 0) = false := by simp [h]
    rw [if_pos h]
    clear h
    go_enter Try.func69, Try.ntmps69
    go_wp2
    go_ret
    exact ⟨rfl, rfl⟩
  · have h' : (a != 0) = true := by simp [h]
    rw [if_neg h]
    clear h
    go_enter Try.func69, Try.ntmps69
    go_wp2
    go_ret
    exact ⟨rfl, rfl⟩

set_option maxHeartbeats 1000000 in
set_option maxRecDepth 100000 in
theorem compareString_any (a b : ByteArray) (w : World) :
    Calls Try.prog 114 #[.string a, .string b] w fun e w' => e = .returned (.int .i64 (cB a b)) ∧ w' = w := by
  go_enter Try.func114, Try.ntmps114
  go_wp2
  rw [run_callFunc_extern Try.func118 (by kernel_rfl) (by kernel_rfl) (by kernel_rfl) (e := Extern.BytealgCompare.compare) (by kernel_rfl), Lib.run_compareString]
  simp only [Result.andThen]
  rw [Oper.upon_value]
  go_wp2
  go_ret
  exact ⟨rfl, rfl⟩

set_option maxHeartbeats 400000 in
theorem stringsCompare_any (a b : ByteArray) (w : World) :
    Calls Try.prog 100 #[.string a, .string b] w fun e w' => e = .returned (.int .i64 (cB a b)) ∧ w' = w := by
  go_enter Try.func100, Try.ntmps100
  go_wp2_with (go_at_call 114; refine (compareString_any _ _ _).mono ?_; rintro e w' ⟨rfl, rfl⟩)
  go_ret
  exact ⟨rfl, rfl⟩

set_option maxHeartbeats 400000 in
theorem cmpU64_any (a b : Int) (w : World) :
    Calls Try.prog 77 #[.int .u64 a, .int .u64 b] w fun e w' => e = .returned (.int .i64 (tsCmp b a)) ∧ w' = w := by
  unfold tsCmp
  by_cases h : a < b
  · rw [if_pos h]
    go_enter Try.func77, Try.ntmps77
    go_wp2
    go_ret
    exact ⟨rfl, rfl⟩
  · rw [if_neg h]
    by_cases h2 : b < a
    · rw [if_pos h2]
      go_enter Try.func77, Try.ntmps77
      go_wp2
      go_ret
      exact ⟨rfl, rfl⟩
    · rw [if_neg h2]
      go_enter Try.func77, Try.ntmps77
      go_wp2
      go_ret
      exact ⟨rfl, rfl⟩
end Go.Proofs.Ytnncedndlhfdkab

/-
  The order of keys: spec.CompareKeys and impl.CompareKeys come to 'keyCmp'.
-/
namespace Go.Proofs.Ytnncedndlhfdkab
open Go.ChangeShapes Go.WideShapes Go.ChangeAt Go.RowKit Go.Deep

def tri (x : Int) : Prop := x = -1 ∨ x = 0 ∨ x = 1
theorem tri_first {a b : Int} (h : tri a) (k : tri b) : tri (firstOf a b) := by
  unfold firstOf; split
  · exact k
  · exact h
theorem tri_kind (k l : Int) : tri (kindCmp k l) := by
  unfold kindCmp tri; repeat' split
  all_goals omega
theorem tri_ts (k l : Int) : tri (tsCmp k l) := by
  unfold tsCmp tri; repeat' split
  all_goals omega
theorem keyCmp_vals (a b : Ent) : keyCmp a b = -1 ∨ keyCmp a b = 0 ∨ keyCmp a b = 1 :=
  tri_first (cB_vals _ _) (tri_first (cB_vals _ _) (tri_first (cB_vals _ _) (tri_first (tri_kind _ _) (tri_ts _ _))))

def colCmp (a b : Ent) : Int := firstOf (cB a.row b.row) (firstOf (cB a.fam b.fam) (cB a.qual b.qual))

set_option maxHeartbeats 400000 in
theorem compareColumns_any (a b : Ent) (w : World) :
    Calls Try.prog 76 #[a.v, b.v] w fun e w' => e = .returned (.int .i64 (colCmp a b)) ∧ Below w.heap.size w w' := by
  unfold colCmp firstOf Ent.v
  by_cases h1 : cB a.row b.row = 0
  · have g1 : (cB a.row b.row != 0) = false := by simp [h1]
    rw [if_pos h1]
    clear h1
    by_cases h2 : cB a.fam b.fam = 0
    · have g2 : (cB a.fam b.fam != 0) = false := by simp [h2]
      rw [if_pos h2]
      clear h2
      go_enter Try.func76, Try.ntmps76
      go_wp2_with (go_at_call 100; refine (stringsCompare_any _ _ _).mono ?_; rintro e w' ⟨rfl, rfl⟩)
      go_ret
      exact ⟨rfl, ((Below.refl _ _).alloc (Nat.le_refl _) _).alloc (by simp) _⟩
    · have g2 : (cB a.fam b.fam != 0) = true := by simp [h2]
      rw [if_neg h2]
      clear h2
      go_enter Try.func76, Try.ntmps76
      go_wp2_with (go_at_call 100; refine (stringsCompare_any _ _ _).mono ?_; rintro e w' ⟨rfl, rfl⟩)
      go_ret
      exact ⟨rfl, ((Below.refl _ _).alloc (Nat.le_refl _) _).alloc (by simp) _⟩
  · have g1 : (cB a.row b.row != 0) = true := by simp [h1]
    rw [if_neg h1]
    clear h1
    go_enter Try.func76, Try.ntmps76
    go_wp2_with (go_at_call 100; refine (stringsCompare_any _ _ _).mono ?_; rintro e w' ⟨rfl, rfl⟩)
    go_ret
    exact ⟨rfl, ((Below.refl _ _).alloc (Nat.le_refl _) _).alloc (by simp) _⟩

theorem firstOf_assoc (a b c : Int) : firstOf (firstOf a b) c = firstOf a (firstOf b c) := by
  unfold firstOf
  by_cases h : a = 0
  · simp [h]
  · simp [h]
theorem keyCmp_col (a b : Ent) : keyCmp a b = firstOf (colCmp a b) (firstOf (kindCmp a.kind b.kind) (tsCmp a.ts b.ts)) := by
  unfold keyCmp colCmp
  rw [firstOf_assoc, firstOf_assoc]
theorem keyCmp_ne {a b : Ent} (h : ¬ colCmp a b = 0) : keyCmp a b = colCmp a b := by
  rw [keyCmp_col]; unfold firstOf; rw [if_neg h]
theorem keyCmp_del1 {a b : Ent} (h : colCmp a b = 0) (h1 : a.kind = 2) (h2 : ¬ b.kind = 2) : keyCmp a b = -1 := by
  rw [keyCmp_col]; unfold firstOf kindCmp; simp [h, h1, h2]
theorem keyCmp_del2 {a b : Ent} (h : colCmp a b = 0) (h1 : ¬ a.kind = 2) (h2 : b.kind = 2) : keyCmp a b = 1 := by
  rw [keyCmp_col]; unfold firstOf kindCmp; simp [h, h1, h2]
theorem keyCmp_ts {a b : Ent} (h : colCmp a b = 0) (h1 : (a.kind = 2) ↔ (b.kind = 2)) : keyCmp a b = tsCmp a.ts b.ts := by
  rw [keyCmp_col]; unfold firstOf kindCmp
  by_cases h2 : a.kind = 2
  · simp [h, h2, h1.1 h2]
  · have h3 : ¬ b.kind = 2 := fun x => h2 (h1.2 x)
    simp [h, h2, h3]

set_option maxHeartbeats 400000 in
theorem compare_any (a b : Ent) (w : World) :
    Calls Try.prog 55 #[a.v, b.v] w fun e w' => e = .returned (.int .i64 (keyCmp a b)) ∧ Below w.heap.size w w' := by
  by_cases h1 : colCmp a b = 0
  · have g1 : (colCmp a b != 0) = false := by simp [h1]
    by_cases ha : a.kind = 2
    · have ga : (a.kind == 2) = true := by simp [ha]
      by_cases hb : b.kind = 2
      · have gb : (b.kind == 2) = true := by simp [hb]
        have H : Hid (keyCmp a b = tsCmp a.ts b.ts) := keyCmp_ts h1 (by simp [ha, hb])
        clear h1 ha hb
        go_enter Try.func55, Try.ntmps55
        go_wp2_with fail
        refine (compareColumns_any a b _).mono ?_
        rintro e w1 ⟨rfl, hb1⟩
        obtain ⟨hc1, hf1⟩ := bcell hb1
        have hz1 : w.heap.size + 1 < w1.heap.size := by have := hb1.size; simp at this; omega
        go_wp2_with fail
        refine (cmpU64_any _ _ _).mono ?_
        rintro e w2 ⟨rfl, rfl⟩
        go_wp2_with fail
        go_ret
        exact ⟨ret_int H.out.symm, (((Below.refl _ _).alloc (Nat.le_refl _) _).alloc (by simp) _).trans (hb1.mono (by simp; omega))⟩
      · have gb : (b.kind == 2) = false := by simp [hb]
        have H : Hid (keyCmp a b = -1) := keyCmp_del1 h1 ha hb
        clear h1 ha hb
        go_enter Try.func55, Try.ntmps55
        go_wp2_with fail
        refine (compareColumns_any a b _).mono ?_
        rintro e w1 ⟨rfl, hb1⟩
        obtain ⟨hc1, hf1⟩ := bcell hb1
        have hz1 : w.heap.size + 1 < w1.heap.size := by have := hb1.size; simp at this; omega
        go_wp2_with fail
        go_ret
        exact ⟨ret_int H.out.symm, (((Below.refl _ _).alloc (Nat.le_refl _) _).alloc (by simp) _).trans (hb1.mono (by simp; omega))⟩
    · have ga : (a.kind == 2) = false := by simp [ha]
      by_cases hb : b.kind = 2
      · have gb : (b.kind == 2) = true := by simp [hb]
        have H : Hid (keyCmp a b = 1) := keyCmp_del2 h1 ha hb
        clear h1 ha hb
        go_enter Try.func55, Try.ntmps55
        go_wp2_with fail
        refine (compareColumns_any a b _).mono ?_
        rintro e w1 ⟨rfl, hb1⟩
        obtain ⟨hc1, hf1⟩ := bcell hb1
        have hz1 : w.heap.size + 1 < w1.heap.size := by have := hb1.size; simp at this; omega
        go_wp2_with fail
        go_ret
        exact ⟨ret_int H.out.symm, (((Below.refl _ _).alloc (Nat.le_refl _) _).alloc (by simp) _).trans (hb1.mono (by simp; omega))⟩
      · have gb : (b.kind == 2) = false := by simp [hb]
        have H : Hid (keyCmp a b = tsCmp a.ts b.ts) := keyCmp_ts h1 (by simp [ha, hb])
        clear h1 ha hb
        go_enter Try.func55, Try.ntmps55
        go_wp2_with fail
        refine (compareColumns_any a b _).mono ?_
        rintro e w1 ⟨rfl, hb1⟩
        obtain ⟨hc1, hf1⟩ := bcell hb1
        have hz1 : w.heap.size + 1 < w1.heap.size := by have := hb1.size; simp at this; omega
        go_wp2_with fail
        refine (cmpU64_any _ _ _).mono ?_
        rintro e w2 ⟨rfl, rfl⟩
        go_wp2_with fail
        go_ret
        exact ⟨ret_int H.out.symm, (((Below.refl _ _).alloc (Nat.le_refl _) _).alloc (by simp) _).trans (hb1.mono (by simp; omega))⟩
  · have g1 : (colCmp a b != 0) = true := by simp [h1]
    have H : Hid (keyCmp a b = colCmp a b) := keyCmp_ne h1
    clear h1
    go_enter Try.func55, Try.ntmps55
    go_wp2_with fail
    refine (compareColumns_any a b _).mono ?_
    rintro e w1 ⟨rfl, hb1⟩
    go_wp2_with fail
    go_ret
    exact ⟨ret_int H.out.symm, (((Below.refl _ _).alloc (Nat.le_refl _) _).alloc (by simp) _).trans (hb1.mono (by simp; omega))⟩

def kt (a b : Ent) (K T : Int) : Prop := keyCmp a b = firstOf (cB a.row b.row) (firstOf (cB a.fam b.fam) (firstOf (cB a.qual b.qual) (firstOf K T)))
theorem kt_of {a b : Ent} {K T : Int} (hk : kindCmp a.kind b.kind = K) (ht : tsCmp a.ts b.ts = T) : kt a b K T := by
  unfold kt keyCmp; rw [hk, ht]
theorem kinds (a b : Ent) :
    ((a.kind == 2) = true ∧ (a.kind != 2) = false ∧ (b.kind == 2) = true ∧ (b.kind != 2) = false ∧ kindCmp a.kind b.kind = 0) ∨
    ((a.kind == 2) = true ∧ (a.kind != 2) = false ∧ (b.kind == 2) = false ∧ (b.kind != 2) = true ∧ kindCmp a.kind b.kind = -1) ∨
    ((a.kind == 2) = false ∧ (a.kind != 2) = true ∧ (b.kind == 2) = true ∧ (b.kind != 2) = false ∧ kindCmp a.kind b.kind = 1) ∨
    ((a.kind == 2) = false ∧ (a.kind != 2) = true ∧ (b.kind == 2) = false ∧ (b.kind != 2) = true ∧ kindCmp a.kind b.kind = 0) := by
  unfold kindCmp
  by_cases ha : a.kind = 2 <;> by_cases hb : b.kind = 2 <;> simp [ha, hb]
theorem tss (a b : Ent) :
    (b.ts < a.ts ∧ ¬ a.ts < b.ts ∧ tsCmp a.ts b.ts = -1) ∨ (¬ b.ts < a.ts ∧ a.ts < b.ts ∧ tsCmp a.ts b.ts = 1) ∨ (¬ b.ts < a.ts ∧ ¬ a.ts < b.ts ∧ tsCmp a.ts b.ts = 0) := by
  unfold tsCmp
  by_cases h1 : b.ts < a.ts
  · exact .inl ⟨h1, by omega, by simp [h1]⟩
  · by_cases h2 : a.ts < b.ts
    · exact .inr (.inl ⟨h1, h2, by simp [h1, h2]⟩)
    · exact .inr (.inr ⟨h1, h2, by simp [h1, h2]⟩)

set_option maxHeartbeats 4000000 in
theorem specCompareKeys_any (a b : Ent) (w : World) :
    Calls Try.prog 36 #[a.v, b.v] w fun e w' => e = .returned (.int .i64 (keyCmp a b)) ∧ Below w.heap.size w w' := by
  unfold Ent.v
  rcases kinds a b with ⟨ga, ga', gb, gb', hk⟩ | ⟨ga, ga', gb, gb', hk⟩ | ⟨ga, ga', gb, gb', hk⟩ | ⟨ga, ga', gb, gb', hk⟩
  all_goals rcases tss a b with ⟨h1, h2, ht⟩ | ⟨h1, h2, ht⟩ | ⟨h1, h2, ht⟩
  all_goals
    have H := kt_of hk ht
    clear hk ht
    go_enter Try.func36, Try.ntmps36
    go_wp2
    go_quiet ((first | (go_at_call 70; exact Calls.quiet_of_same (l1Str_any _ _ _)) | (go_at_call 69; exact Calls.quiet_of_same (l1First_any _ _ _))))
    go_wp2
    go_ret
    exact ⟨ret_int H.symm, below_drewN (((Below.refl _ _).alloc (Nat.le_refl _) _).alloc (by simp) _) _⟩
end Go.Proofs.Ytnncedndlhfdkab

/-
  Runs that are valid: spec.ValidRun and impl.ValidRun.
-/
namespace Go.Proofs.Ytnncedndlhfdkab
open Go.ChangeShapes Go.WideShapes Go.ChangeAt Go.RowKit Go.Deep
set_option linter.unusedVariables false

def Ent.vld (e : Ent) : Bool := vE e.row e.fam e.qual e.kind e.val
/-- One column? -/
def sameCol (a b : Ent) : Bool := (a.row.toList == b.row.toList) && ((a.fam.toList == b.fam.toList) && (a.qual.toList == b.qual.toList))

set_option maxHeartbeats 400000 in
theorem sameColumn_any (a b : Ent) (w : World) :
    Calls Try.prog 37 #[a.v, b.v] w fun e w' => e = .returned (.bool (sameCol a b)) ∧ Below w.heap.size w w' := by
  unfold sameCol Ent.v
  cases h1 : (a.row.toList == b.row.toList)
  · go_enter Try.func37, Try.ntmps37
    go_wp2
    go_ret
    exact ⟨by simp, ((Below.refl _ _).alloc (Nat.le_refl _) _).alloc (by simp) _⟩
  · cases h2 : (a.fam.toList == b.fam.toList)
    · go_enter Try.func37, Try.ntmps37
      go_wp2
      go_ret
      exact ⟨by simp, ((Below.refl _ _).alloc (Nat.le_refl _) _).alloc (by simp) _⟩
    · go_enter Try.func37, Try.ntmps37
      go_wp2
      go_ret
      exact ⟨by simp, ((Below.refl _ _).alloc (Nat.le_refl _) _).alloc (by simp) _⟩

set_option maxHeartbeats 400000 in
theorem column_any (a : Ent) (w : World) :
    Calls Try.prog 71 #[a.v] w fun e w' => e = .returned (.agg #[.string a.row, .string a.fam, .string a.qual]) ∧ Below w.heap.size w w' := by
  unfold Ent.v
  go_enter Try.func71, Try.ntmps71
  go_wp2
  refine bodyPost_ret (v := .agg #[.string a.row, .string a.fam, .string a.qual]) (by simp [results, Try.results71, go_sem]) rfl ⟨rfl, ?_⟩
  exact ((Below.refl _ _).alloc (Nat.le_refl _) _).alloc (by simp) _

theorem colEq_run (a b : Ent) (wx : World) : (binOp .eql 84 (.agg #[.string a.row, .string a.fam, .string a.qual]) (.agg #[.string b.row, .string b.fam, .string b.qual])).run Try.prog wx = .ok (.bool (sameCol a b)) wx := by
  unfold sameCol
  cases h1 : (a.row.toList == b.row.toList)
  · go_simp
  · cases h2 : (a.fam.toList == b.fam.toList)
    · go_simp
    · cases h3 : (a.qual.toList == b.qual.toList)
      · go_simp
      · go_simp

theorem lift_in {P : Program} {f : Nat} {args : Array Value} {w : World} {v : Value} (W0 : World) (h : Below W0.heap.size W0 w) (c : Calls P f args w fun e w' => e = .returned v ∧ Below w.heap.size w w') :
    Calls P f args w fun e w' => e = .returned v ∧ Below W0.heap.size W0 w' ∧ (∀ b o, b < W0.heap.size → w'.cell? ⟨b, o, none⟩ = W0.cell? ⟨b, o, none⟩) := by
  refine c.mono ?_
  rintro e w' ⟨he, hb⟩
  have k := h.trans (hb.mono h.size)
  exact ⟨he, k, fun b o hlt => k.cell (p := ⟨b, o, none⟩) hlt⟩

/-- May 'p' stand right before 'e' in a run? -/
def okPair (p e : Ent) : Bool := (keyCmp p e == -1) && !((p.kind == 2) && ((e.kind == 2) && sameCol p e))

set_option maxHeartbeats 1000000 in
theorem mayPrecede_any (a b : Ent) (w : World) :
    Calls Try.prog 39 #[a.v, b.v] w fun e w' => e = .returned (.bool (okPair a b)) ∧ Below w.heap.size w w' := by
  unfold Ent.v
  cases ga : (a.kind == 2)
  · have H : Hid (okPair a b = decide (keyCmp a b < 0)) := by
      show okPair a b = _
      unfold okPair; rw [ga]
      rcases keyCmp_vals a b with h | h | h <;> rw [h] <;> rfl
    go_enter Try.func39, Try.ntmps39
    go_wp2_with fail
    go_quiet (fail)
    go_wp2_with fail
    refine (compare_any a b _).mono ?_
    rintro e w1 ⟨rfl, hb1⟩
    go_wp2_with fail
    go_ret
    exact ⟨ret_bool H.out.symm, (below_drewN (((Below.refl _ _).alloc (Nat.le_refl _) _).alloc (by simp) _) _).trans (hb1.mono (by simp; omega))⟩
  · cases gb : (b.kind == 2)
    · have H : Hid (okPair a b = decide (keyCmp a b < 0)) := by
        show okPair a b = _
        unfold okPair; rw [ga, gb]
        rcases keyCmp_vals a b with h | h | h <;> rw [h] <;> rfl
      go_enter Try.func39, Try.ntmps39
      go_wp2_with fail
      go_quiet (fail)
      go_wp2_with fail
      refine (compare_any a b _).mono ?_
      rintro e w1 ⟨rfl, hb1⟩
      go_wp2_with fail
      go_ret
      exact ⟨ret_bool H.out.symm, (below_drewN (((Below.refl _ _).alloc (Nat.le_refl _) _).alloc (by simp) _) _).trans (hb1.mono (by simp; omega))⟩
    · go_enter Try.func39, Try.ntmps39
      go_upto_region 1 with fail
      obtain ⟨W0, hW0⟩ : ∃ W0 : World, W0 = (w.alloc (Obj.cells #[.string a.row, .string a.fam, .string a.qual, .int .u64 a.ts, .int .i64 a.kind, .string a.val] 62)).alloc (Obj.cells #[.string b.row, .string b.fam, .string b.qual, .int .u64 b.ts, .int .i64 b.kind, .string b.val] 62) := ⟨_, rfl⟩
      have hb0 : Below w.heap.size w W0 := by rw [hW0]; exact ((Below.refl _ _).alloc (Nat.le_refl _) _).alloc (by simp) _
      have hz0 : w.heap.size + 1 < W0.heap.size := by rw [hW0]; simp
      have ca : ∀ o, W0.cell? ⟨w.heap.size, o, none⟩ = ((w.alloc (Obj.cells #[.string a.row, .string a.fam, .string a.qual, .int .u64 a.ts, .int .i64 a.kind, .string a.val] 62)).alloc (Obj.cells #[.string b.row, .string b.fam, .string b.qual, .int .u64 b.ts, .int .i64 b.kind, .string b.val] 62)).cell? ⟨w.heap.size, o, none⟩ := fun o => by rw [hW0]
      have cb : ∀ o, W0.cell? ⟨w.heap.size + 1, o, none⟩ = ((w.alloc (Obj.cells #[.string a.row, .string a.fam, .string a.qual, .int .u64 a.ts, .int .i64 a.kind, .string a.val] 62)).alloc (Obj.cells #[.string b.row, .string b.fam, .string b.qual, .int .u64 b.ts, .int .i64 b.kind, .string b.val] 62)).cell? ⟨w.heap.size + 1, o, none⟩ := fun o => by rw [hW0]
      rw [← hW0]
      clear hW0
      go_cut [19] (fun s wx => s = .bool (sameCol a b) ∧ Below W0.heap.size W0 wx)
      case first =>
        have e3 := colEq_run a b
        go_region_with (first
          | (go_at_call_of 71 (a.row); refine (lift_in W0 ?hB (column_any a _)).mono ?_; (case hB => (repeat (first | assumption | exact Below.refl _ _ | refine Below.drew ?_))); rintro e w' ⟨rfl, hbb, hcc⟩)
          | (go_at_call_of 71 (b.row); refine (lift_in W0 ?hB (column_any b _)).mono ?_; (case hB => (repeat (first | assumption | exact Below.refl _ _ | refine Below.drew ?_))); rintro e w' ⟨rfl, hbb, hcc⟩))
        all_goals go_wp2_with fail
        all_goals go_meet
        all_goals exact ⟨rfl, by assumption⟩
      case rest =>
      obtain ⟨rfl, h3⟩ := hcut
      have ca3 : ∀ o, wc.cell? ⟨w.heap.size, o, none⟩ = W0.cell? ⟨w.heap.size, o, none⟩ := fun o => h3.cell (p := ⟨w.heap.size, o, none⟩) (by show w.heap.size < _; omega)
      have cb3 : ∀ o, wc.cell? ⟨w.heap.size + 1, o, none⟩ = W0.cell? ⟨w.heap.size + 1, o, none⟩ := fun o => h3.cell (p := ⟨w.heap.size + 1, o, none⟩) hz0
      cases hs : sameCol a b
      · have H : Hid (okPair a b = decide (keyCmp a b < 0)) := by
          show okPair a b = _
          unfold okPair; rw [ga, gb, hs]
          rcases keyCmp_vals a b with h | h | h <;> rw [h] <;> rfl
        go_wp2_with fail
        refine (compare_any a b _).mono ?_
        rintro e w1 ⟨rfl, hb1⟩
        go_wp2_with fail
        go_ret
        exact ⟨ret_bool H.out.symm, (hb0.trans (h3.mono (by omega))).trans (hb1.mono (by have := h3.size; omega))⟩
      · have H : Hid (okPair a b = false) := by
          show okPair a b = _
          unfold okPair; rw [ga, gb, hs]; simp
        go_wp2_with fail
        go_ret
        exact ⟨ret_bool H.out.symm, hb0.trans (h3.mono (by omega))⟩
end Go.Proofs.Ytnncedndlhfdkab

