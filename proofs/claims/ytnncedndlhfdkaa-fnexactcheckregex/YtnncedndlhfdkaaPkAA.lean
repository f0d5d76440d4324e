import Derived.Test.YtnncedndlhfdkaaRows
import Derived.WalkKit
import Derived.ProofKit
import Derived.OpenShut
import Derived.ShutString
import Derived.ChangeOld
import Derived.Below
import Derived.WalkSpells
import Derived.WalkLawsBesides
import Derived.Outline
import Derived.Deep.Light
import Derived.Lib.SmallJoins
import Derived.OwnWalk
import Derived.Deep.MidRow
import Derived.Deep.DeepCutAuto
import Derived.Deep.RegionWith
import Derived.Deep.QuietTactic
import Derived.BigQuiet
import Derived.Lib.Bytealg
import Derived.Lib.Slices
import Derived.Lib.Walk
import Derived.Laws.Tables
import Derived.Laws.Rows
import Derived.Deep.WholeRow

/-
  Entries by value: the contracts of szEntry, toEntry, spec.ValidEntry, impl.ValidEntry.
-/
namespace Go.Proofs.Ytnncedndlhfdkaa
open Go.ChangeShapes Go.WideShapes Go.ChangeAt Go.RowKit
open Go.ChangeMaps (open_string shut_string)

/-- An entry as Lean has it. -/
structure Ent where
  row : ByteArray
  fam : ByteArray
  qual : ByteArray
  ts : Int
  kind : Int
  val : ByteArray

abbrev Ent.v (e : Ent) : Value := .agg #[.string e.row, .string e.fam, .string e.qual, .int .u64 e.ts, .int .i64 e.kind, .string e.val]
/-- It fits its types. -/
structure Ent.ok (e : Ent) : Prop where
  row : e.row.size ≤ maxLen
  fam : e.fam.size ≤ maxLen
  qual : e.qual.size ≤ maxLen
  val : e.val.size ≤ maxLen
  ts : (Lit.int .u64 e.ts).wf = true
  kind : (Lit.int .i64 e.kind).wf = true

def Ent.bulk (e : Ent) : Int := e.row.size + e.fam.size + e.qual.size + e.val.size

set_option maxHeartbeats 400000 in
theorem szEntry_core (r f q v : ByteArray) (t k left : Int) (w : World) (hr : r.size ≤ maxLen) (hf : f.size ≤ maxLen) (hq : q.size ≤ maxLen) (hv : v.size ≤ maxLen) (h0 : 0 ≤ left) (h1 : left ≤ 2 ^ 40) :
    Calls Try.prog 9 #[.agg #[.string r, .string f, .string q, .int .u64 t, .int .i64 k, .string v], .int .i64 left] w fun e w' =>
      ∃ x, e = .returned (.int .i64 x) ∧ (x = -1 ∨ (0 ≤ x ∧ x + r.size + f.size + q.size + v.size = left)) ∧ Below w.heap.size w w' := by
  unfold maxLen at hr hf hq hv
  go_enter Try.func9, Try.ntmps9
  go_wp2
  · go_ret
    exact ⟨_, rfl, .inl rfl, (Below.refl _ _).alloc (Nat.le_refl _) _⟩
  · go_ret
    exact ⟨_, rfl, .inl rfl, (Below.refl _ _).alloc (Nat.le_refl _) _⟩
  · go_ret
    exact ⟨_, rfl, .inl rfl, (Below.refl _ _).alloc (Nat.le_refl _) _⟩
  · go_ret
    exact ⟨_, rfl, .inl rfl, (Below.refl _ _).alloc (Nat.le_refl _) _⟩
  · go_ret
    exact ⟨_, rfl, .inr ⟨by assumption, by omega⟩, (Below.refl _ _).alloc (Nat.le_refl _) _⟩

set_option maxHeartbeats 400000 in
theorem toEntry_core (r f q v : ByteArray) (t k : Int) (w : World) :
    Calls Try.prog 11 #[.agg #[.string r, .string f, .string q, .int .u64 t, .int .i64 k, .string v]] w fun e w' =>
      e = .returned (.agg #[.string r, .string f, .string q, .int .u64 t, .int .i64 k, .string v]) ∧ Below w.heap.size w w' := by
  go_enter Try.func11, Try.ntmps11
  go_wp2
  refine bodyPost_ret (v := .agg #[.string r, .string f, .string q, .int .u64 t, .int .i64 k, .string v]) (by simp [results, Try.results11, go_sem]) rfl ⟨rfl, ?_⟩
  exact (((Below.refl _ _).alloc (Nat.le_refl _) _).alloc (by simp) _).alloc (by simp; omega) _

theorem ret_bool {a b : Bool} (h : a = b) : Ending.returned (.bool a) = .returned (.bool b) := by rw [h]

theorem isE (v : ByteArray) : v.toList.isEmpty = decide (v.size = 0) := by
  rw [ByteArray.toList_eq, Bool.eq_iff_iff]
  simp [← ByteArray.size_data]

theorem orE (k : Int) (v : ByteArray) (h : ¬ k = 0) : (k == 0 || v.toList.isEmpty) = decide (v.size = 0) := by
  rw [isE]; simp [h]

def vE (r f q : ByteArray) (k : Int) (v : ByteArray) : Bool :=
  decide (1 ≤ r.size ∧ r.size ≤ 64 ∧ 1 ≤ f.size ∧ f.size ≤ 16 ∧ q.size ≤ 64 ∧ v.size ≤ 200 ∧ 0 ≤ k ∧ k ≤ 2 ∧ (k = 0 ∨ v.size = 0))

set_option maxHeartbeats 400000 in
theorem specValid_core (r f q v : ByteArray) (t k : Int) (w : World) (hr : r.size ≤ maxLen) (hf : f.size ≤ maxLen) (hq : q.size ≤ maxLen) (hv : v.size ≤ maxLen) :
    Calls Try.prog 10 #[.agg #[.string r, .string f, .string q, .int .u64 t, .int .i64 k, .string v]] w fun e w' =>
      e = .returned (.bool (vE r f q k v)) ∧ Below w.heap.size w w' := by
  unfold maxLen at hr hf hq hv
  go_enter Try.func10, Try.ntmps10
  go_wp2
  all_goals go_ret
  all_goals refine ⟨ret_bool ?_, (Below.refl _ _).alloc (Nat.le_refl _) _⟩
  all_goals unfold vE
  all_goals go_light
  all_goals first
    | (refine (decide_eq_true ?_).symm; omega)
    | (refine (decide_eq_false ?_).symm; omega)
    | (rw [orE _ _ ‹¬ k = 0›]; refine decide_eq_decide.2 ⟨fun h => ?_, fun h => ?_⟩ <;> omega)

set_option maxHeartbeats 400000 in
theorem implValid_core (r f q v : ByteArray) (t k : Int) (w : World) (hr : r.size ≤ maxLen) (hf : f.size ≤ maxLen) (hq : q.size ≤ maxLen) (hv : v.size ≤ maxLen) :
    Calls Try.prog 12 #[.agg #[.string r, .string f, .string q, .int .u64 t, .int .i64 k, .string v]] w fun e w' =>
      e = .returned (.bool (vE r f q k v)) ∧ Below w.heap.size w w' := by
  unfold maxLen at hr hf hq hv
  go_enter Try.func12, Try.ntmps12
  go_wp2
  all_goals go_ret
  all_goals refine ⟨ret_bool ?_, (Below.refl _ _).alloc (Nat.le_refl _) _⟩
  all_goals unfold vE
  all_goals go_light
  all_goals (try simp only [beq_iff_eq, beq_eq_false_iff_ne, ne_eq] at *)
  all_goals first
    | (refine (decide_eq_true ?_).symm; omega)
    | (refine (decide_eq_false ?_).symm; omega)
    | (rw [isE]; refine decide_eq_decide.2 ⟨fun h => ?_, fun h => ?_⟩ <;> omega)
end Go.Proofs.Ytnncedndlhfdkaa

/-
  Arguments opened: an entry that can be read is six plain values.
-/
namespace Go.Proofs.Ytnncedndlhfdkaa
open Go.ChangeShapes Go.WideShapes Go.ChangeAt Go.RowKit Go.Deep

theorem Try.cellsEnt : Try.prog.cellsOf 24 = 6 := by kernel_rfl
theorem Try.cellsStr : Try.prog.cellsOf 9 = 1 := by kernel_rfl
theorem Try.cellsU64 : Try.prog.cellsOf 22 = 1 := by kernel_rfl
theorem Try.cellsI64 : Try.prog.cellsOf 2 = 1 := by kernel_rfl
theorem Try.cellsBool : Try.prog.cellsOf 4 = 1 := by kernel_rfl

theorem bcell {W w1 : World} (hb : Below W.heap.size W w1) : (∀ b o, b < W.heap.size → w1.cell? ⟨b, o, none⟩ = W.cell? ⟨b, o, none⟩) ∧ (∀ b o, b < W.heap.size → w1.frozen? ⟨b, o, none⟩ = W.frozen? ⟨b, o, none⟩) :=
  ⟨fun b o h => hb.cell (p := ⟨b, o, none⟩) h, fun b o h => hb.frozen (p := ⟨b, o, none⟩) h⟩

theorem list6 {α : Type} {cs : List α} (h : cs.length = 6) : ∃ c0 c1 c2 c3 c4 c5, cs = [c0, c1, c2, c3, c4, c5] := by
  match cs, h with
  | [c0, c1, c2, c3, c4, c5], _ => exact ⟨c0, c1, c2, c3, c4, c5, rfl⟩
theorem array6 {α : Type} {cs : Array α} (h : cs.size = 6) : ∃ c0 c1 c2 c3 c4 c5, cs = #[c0, c1, c2, c3, c4, c5] := by
  obtain ⟨l⟩ := cs
  obtain ⟨c0, c1, c2, c3, c4, c5, rfl⟩ := list6 h
  exact ⟨c0, c1, c2, c3, c4, c5, rfl⟩

set_option maxRecDepth 100000 in
theorem ent_of_trod {H : Type} {enc : TypeId × Value → H} {w : World} {base : Nat} {spare : Nat → Bool} {held : Bool} {fuel : Nat} {cs : List Value} {x : DataW H × List MemPlace}
    (h : DataW.trod enc Try.prog w base spare held fuel 24 cs = some x) :
    ∃ e : Ent, e.ok ∧ cs = [.string e.row, .string e.fam, .string e.qual, .int .u64 e.ts, .int .i64 e.kind, .string e.val] := by
  obtain ⟨xs, n, _, _, hl, hlen, hf⟩ := DataW.trod_struct Try.underlying24 h
  rw [Try.cellsEnt] at hl
  obtain ⟨c0, c1, c2, c3, c4, c5, rfl⟩ := list6 hl
  obtain ⟨x0, x1, x2, x3, x4, x5, rfl⟩ := list6 (cs := xs) hlen
  have h0 := hf 0 _ rfl
  have h1 := hf 1 _ rfl
  have h2 := hf 2 _ rfl
  have h3 := hf 3 _ rfl
  have h4 := hf 4 _ rfl
  have h5 := hf 5 _ rfl
  simp [Try.cellsStr, Try.cellsU64, Try.cellsI64] at h0 h1 h2 h3 h4 h5
  obtain ⟨a0, e0, _, b0⟩ := DataW.trod_string Try.underlying9 h0
  obtain ⟨a1, e1, _, b1⟩ := DataW.trod_string Try.underlying9 h1
  obtain ⟨a2, e2, _, b2⟩ := DataW.trod_string Try.underlying9 h2
  obtain ⟨a3, e3, _, b3⟩ := DataW.trod_int Try.underlying22 h3
  obtain ⟨a4, e4, _, b4⟩ := DataW.trod_int Try.underlying2 h4
  obtain ⟨a5, e5, _, b5⟩ := DataW.trod_string Try.underlying9 h5
  simp only [List.cons.injEq, and_true] at e0 e1 e2 e3 e4 e5
  exact ⟨⟨a0, a1, a2, a3, a4, a5⟩, ⟨b0, b1, b2, b5, b3, b4⟩, by rw [e0, e1, e2, e3, e4, e5]⟩

set_option maxRecDepth 100000 in
theorem open_ent {H : Type} {enc : TypeId × Value → H} {w : World} {base b0 : Nat} {spare : Nat → Bool} {held : Bool} {r : Reach} {v : Value} {d : DataW H} {p : List MemPlace}
    (hv : Value.okWide Try.prog w r b0 24 v) (h : DataW.Trod enc Try.prog w base spare held 24 v d p) : ∃ e : Ent, e.ok ∧ v = e.v := by
  obtain ⟨cs, rfl, hsz⟩ := okWide_struct Try.underlying24 hv
  obtain ⟨fuel, hf⟩ := h
  obtain ⟨e, he, hc⟩ := ent_of_trod hf
  refine ⟨e, he, ?_⟩
  simp only [Value.cells] at hc
  rw [show cs = ⟨cs.toList⟩ from rfl, hc]
end Go.Proofs.Ytnncedndlhfdkaa

/-
  Entries in memory, one behind another.
-/
namespace Go.Proofs.Ytnncedndlhfdkaa
open Go.ChangeShapes Go.WideShapes Go.ChangeAt Go.RowKit Go.Deep
set_option linter.unusedVariables false

abbrev Ent.cells (e : Ent) : List Value := [.string e.row, .string e.fam, .string e.qual, .int .u64 e.ts, .int .i64 e.kind, .string e.val]
def cellsE (es : List Ent) : List Value := es.flatMap Ent.cells
theorem cellsE_nil : cellsE [] = [] := rfl
theorem cellsE_cons (e : Ent) (es : List Ent) : cellsE (e :: es) = e.cells ++ cellsE es := by simp [cellsE]
theorem cellsE_append (es fs : List Ent) : cellsE (es ++ fs) = cellsE es ++ cellsE fs := by simp [cellsE]
theorem length_cellsE (es : List Ent) : (cellsE es).length = es.length * 6 := by
  induction es with
  | nil => rfl
  | cons e es ih => rw [cellsE_cons, List.length_append, ih]; simp; omega
theorem cellsE_get (es : List Ent) : ∀ (k : Nat) (e : Ent), es[k]? = some e → ∀ j, j < 6 → (cellsE es)[k * 6 + j]? = e.cells[j]? := by
  induction es with
  | nil => intro k e h; simp at h
  | cons f es ih =>
    intro k e h j hj
    rw [cellsE_cons]
    cases k with
    | zero =>
      simp at h; subst h
      rw [List.getElem?_append_left (by show 0 * 6 + j < 6; omega)]
      simp
    | succ k =>
      simp at h
      rw [List.getElem?_append_right (by show 6 ≤ (k + 1) * 6 + j; omega)]
      have : (k + 1) * 6 + j - f.cells.length = k * 6 + j := by show (k + 1) * 6 + j - 6 = _; omega
      rw [this]; exact ih k e h j hj
theorem cellsE_set (es : List Ent) : ∀ (k : Nat) (e e' : Ent) (u : Value) (j : Nat), es[k]? = some e → j < 6 → e'.cells = e.cells.set j u → (cellsE es).set (k * 6 + j) u = cellsE (es.set k e') := by
  induction es with
  | nil => intro k e e' u j h; simp at h
  | cons f es ih =>
    intro k e e' u j h hj hc
    rw [cellsE_cons]
    cases k with
    | zero =>
      simp at h; subst h
      rw [List.set_append_left _ _ (by show 0 * 6 + j < 6; omega), List.set_cons_zero, cellsE_cons, hc]
      simp
    | succ k =>
      simp at h
      rw [List.set_append_right _ _ (by show 6 ≤ (k + 1) * 6 + j; omega), List.set_cons_succ, cellsE_cons]
      have : (k + 1) * 6 + j - f.cells.length = k * 6 + j := by show (k + 1) * 6 + j - 6 = _; omega
      rw [this, ih k e e' u j h hj hc]

/-- The entries 'es' lie at ⟨b, off⟩, six cells each. -/
def EntsAt (w : World) (b off : Nat) (es : List Ent) : Prop :=
  ∀ i e, es[i]? = some e → w.cell? ⟨b, off + i * 6, none⟩ = some (.string e.row) ∧ w.cell? ⟨b, off + i * 6 + 1, none⟩ = some (.string e.fam) ∧ w.cell? ⟨b, off + i * 6 + 2, none⟩ = some (.string e.qual) ∧
    w.cell? ⟨b, off + i * 6 + 3, none⟩ = some (.int .u64 e.ts) ∧ w.cell? ⟨b, off + i * 6 + 4, none⟩ = some (.int .i64 e.kind) ∧ w.cell? ⟨b, off + i * 6 + 5, none⟩ = some (.string e.val)

theorem EntsAt.below {B : Nat} {w w' : World} {b off : Nat} {es : List Ent} (h : EntsAt w b off es) (hb : Below B w w') (hlt : b < B) : EntsAt w' b off es := by
  intro i e he
  have := h i e he
  refine ⟨?_, ?_, ?_, ?_, ?_, ?_⟩
  all_goals rw [hb.cell (by exact hlt)]
  · exact this.1
  · exact this.2.1
  · exact this.2.2.1
  · exact this.2.2.2.1
  · exact this.2.2.2.2.1
  · exact this.2.2.2.2.2

/-- A row of the call's own holds the entries 'es'. -/
def OwnE (w : World) (base g cap : Nat) (es : List Ent) : Prop := w.ownsRow base 27 6 (.slice (some ⟨g, 0, none⟩) es.length cap) es.length (cellsE es)

theorem OwnE.at {w : World} {base g cap : Nat} {es : List Ent} (h : OwnE w base g cap es) : EntsAt w g 0 es := by
  intro i e he
  have hi : i < es.length := (List.getElem?_eq_some_iff.1 he).1
  have c := fun j (hj : j < 6) => (World.ownsRow.cellAt h (i * 6 + j) (by omega)).trans (cellsE_get es i e he j hj)
  refine ⟨?_, ?_, ?_, ?_, ?_, ?_⟩
  · simpa using c 0 (by omega)
  · simpa using c 1 (by omega)
  · simpa using c 2 (by omega)
  · simpa using c 3 (by omega)
  · simpa using c 4 (by omega)
  · simpa using c 5 (by omega)
theorem OwnE.lt {w : World} {base g cap : Nat} {es : List Ent} (h : OwnE w base g cap es) : base ≤ g ∧ g < w.heap.size := World.ownsRow.lt h g rfl
theorem OwnE.below {B : Nat} {w w' : World} {base g cap : Nat} {es : List Ent} (h : OwnE w base g cap es) (hb : Below B w w') (hg : g < B) : OwnE w' base g cap es := by
  refine ⟨h.1, ?_⟩
  rcases h.2 with hn | ⟨g', cap', cur, hv, h1, h2, rest⟩
  · exact .inl hn
  · simp only [Value.slice.injEq, Option.some.injEq, Addr.mk.injEq, and_true, true_and] at hv
    obtain ⟨rfl, rfl⟩ := hv
    exact .inr ⟨g, cap, cur, rfl, h1, by rw [hb.block g hg]; exact h2, rest⟩
theorem OwnE.set {w : World} {base g cap : Nat} {es : List Ent} (h : OwnE w base g cap es) (k j : Nat) (e e' : Ent) (u : Value) (hk : es[k]? = some e) (hj : j < 6) (hc : e'.cells = e.cells.set j u) :
    OwnE (w.setCell ⟨g, k * 6 + j, none⟩ u) base g cap (es.set k e') := by
  have := (World.ownsRow.stored h (k * 6 + j) u).1
  rw [cellsE_set es k e e' u j hk hj hc] at this
  unfold OwnE
  rw [List.length_set]
  exact this

theorem OwnE.put {w : World} {base g cap : Nat} {es : List Ent} (h : OwnE w base g cap es) (k : Nat) (f e : Ent) (hk : es[k]? = some f) :
    OwnE ((((((w.setCell ⟨g, k * 6, none⟩ (.string e.row)).setCell ⟨g, k * 6 + 1, none⟩ (.string e.fam)).setCell ⟨g, k * 6 + 2, none⟩ (.string e.qual)).setCell ⟨g, k * 6 + 3, none⟩ (.int .u64 e.ts)).setCell ⟨g, k * 6 + 4, none⟩ (.int .i64 e.kind)).setCell ⟨g, k * 6 + 5, none⟩ (.string e.val)) base g cap (es.set k e) := by
  have hlt : k < es.length := (List.getElem?_eq_some_iff.1 hk).1
  have g1 := h.set k 0 f { f with row := e.row } (.string e.row) hk (by omega) rfl
  have g2 := g1.set k 1 { f with row := e.row } { f with row := e.row, fam := e.fam } (.string e.fam) (by simp [hlt]) (by omega) rfl
  have g3 := g2.set k 2 { f with row := e.row, fam := e.fam } { f with row := e.row, fam := e.fam, qual := e.qual } (.string e.qual) (by simp [hlt]) (by omega) rfl
  have g4 := g3.set k 3 { f with row := e.row, fam := e.fam, qual := e.qual } { f with row := e.row, fam := e.fam, qual := e.qual, ts := e.ts } (.int .u64 e.ts) (by simp [hlt]) (by omega) rfl
  have g5 := g4.set k 4 { f with row := e.row, fam := e.fam, qual := e.qual, ts := e.ts } { f with row := e.row, fam := e.fam, qual := e.qual, ts := e.ts, kind := e.kind } (.int .i64 e.kind) (by simp [hlt]) (by omega) rfl
  have g6 := g5.set k 5 { f with row := e.row, fam := e.fam, qual := e.qual, ts := e.ts, kind := e.kind } e (.string e.val) (by simp [hlt]) (by omega) rfl
  simpa only [List.set_set, Nat.add_zero] using g6
theorem below_put {B : Nat} {a w : World} (h : Below B a w) {g : Nat} (hg : B ≤ g) (o0 o1 o2 o3 o4 o5 : Nat) (v0 v1 v2 v3 v4 v5 : Value) :
    Below B a ((((((w.setCell ⟨g, o0, none⟩ v0).setCell ⟨g, o1, none⟩ v1).setCell ⟨g, o2, none⟩ v2).setCell ⟨g, o3, none⟩ v3).setCell ⟨g, o4, none⟩ v4).setCell ⟨g, o5, none⟩ v5) :=
  (((((h.setCell hg _).setCell hg _).setCell hg _).setCell hg _).setCell hg _).setCell hg _
theorem take_set_succ {es fs : List Ent} {k : Nat} {e : Ent} (h : fs.take k = es.take k) (hl : fs.length = es.length) (he : es[k]? = some e) : (fs.set k e).take (k + 1) = es.take (k + 1) := by
  have hlt : k < es.length := (List.getElem?_eq_some_iff.1 he).1
  apply List.ext_getElem?
  intro j
  have hj := congrArg (fun l => l[j]?) h
  simp only [List.getElem?_take] at hj ⊢
  rw [List.getElem?_set]
  by_cases h1 : j < k
  · have h2 : j < k + 1 := by omega
    have h3 : ¬ k = j := by omega
    simp only [h1, h2, h3, if_true, if_false] at hj ⊢
    exact hj
  · by_cases h2 : k = j
    · subst h2
      have h3 : k < k + 1 := by omega
      have h4 : k < fs.length := by omega
      simp only [h3, h4, if_true, he]
    · have h3 : ¬ j < k + 1 := by omega
      simp only [h3, if_false]

theorem Try.infoEnt : (Try.prog.info? 27).map (fun i => (i.zero, i.size, i.bytes)) = some (some (.agg #[.string ⟨#[]⟩, .string ⟨#[]⟩, .string ⟨#[]⟩, .int .u64 0, .int .i64 0, .string ⟨#[]⟩]), 6, 80) := by kernel_rfl

def zeroE : Ent := ⟨⟨#[]⟩, ⟨#[]⟩, ⟨#[]⟩, 0, 0, ⟨#[]⟩⟩
theorem made_zero (n : Nat) : (madeCells #[.string ⟨#[]⟩, .string ⟨#[]⟩, .string ⟨#[]⟩, .int .u64 0, .int .i64 0, .string ⟨#[]⟩] (n * 6)).toList = cellsE (List.replicate n zeroE) := by
  apply List.ext_getElem?
  intro j
  by_cases hj : j < n * 6
  · have h := cellsE_get (List.replicate n zeroE) (j / 6) zeroE (by rw [List.getElem?_replicate, if_pos (by omega)]) (j % 6) (Nat.mod_lt _ (by omega))
    rw [show j / 6 * 6 + j % 6 = j by omega] at h
    rw [h]
    have h6 : j % 6 < 6 := Nat.mod_lt _ (by omega)
    simp [madeCells, hj]
    generalize j % 6 = m at *
    match m, h6 with
    | 0, _ => rfl
    | 1, _ => rfl
    | 2, _ => rfl
    | 3, _ => rfl
    | 4, _ => rfl
    | 5, _ => rfl
  · have h1 : (cellsE (List.replicate n zeroE)).length ≤ j := by rw [length_cellsE, List.length_replicate]; omega
    rw [List.getElem?_eq_none h1]
    simp [madeCells, hj]

end Go.Proofs.Ytnncedndlhfdkaa

/-
  Rows held against each other; rows of no entries; runs by value.
-/
namespace Go.Proofs.Ytnncedndlhfdkaa
open Go.ChangeShapes Go.WideShapes Go.ChangeAt Go.RowKit Go.Deep
set_option linter.unusedVariables false

/-! ### Rows of no entries -/

/-! ### A slice of entries, whatever its make -/

/-- What is read of a slice of entries that came in. -/
def InEnts (w : World) (v : Value) (es : List Ent) : Prop :=
  (∃ a cap, v = .slice a 0 cap ∧ es = []) ∨
  ∃ b off cap, v = .slice (some ⟨b, off, none⟩) es.length cap ∧ EntsAt w b off es ∧ b < w.heap.size ∧ es.length ≤ cap ∧ cap ≤ maxLen
theorem InEnts.below {B : Nat} {w w' : World} {v : Value} {es : List Ent} (h : InEnts w v es) (hb : Below B w w') (hB : w.heap.size ≤ B) : InEnts w' v es := by
  rcases h with h | ⟨b, off, cap, hv, hE, hlt, h1, h2⟩
  · exact .inl h
  · exact .inr ⟨b, off, cap, hv, hE.below hb (by omega), by have := hb.size; omega, h1, h2⟩
theorem InEnts.own {w : World} {base g cap : Nat} {es : List Ent} (h : OwnE w base g cap es) (h1 : es.length ≤ cap) (h2 : cap ≤ maxLen) : InEnts w (.slice (some ⟨g, 0, none⟩) es.length cap) es :=
  .inr ⟨g, 0, cap, rfl, h.at, h.lt.2, h1, h2⟩

end Go.Proofs.Ytnncedndlhfdkaa

/-
  Slices of entries and runs that come in, opened.
-/
namespace Go.Proofs.Ytnncedndlhfdkaa
open Go.ChangeShapes Go.WideShapes Go.ChangeAt Go.RowKit Go.Deep
set_option linter.unusedVariables false

theorem list_of_forall {α : Type} {P : Nat → α → Prop} : ∀ n, (∀ i, i < n → ∃ x, P i x) → ∃ l : List α, l.length = n ∧ ∀ i x, l[i]? = some x → P i x
  | 0, _ => ⟨[], rfl, fun i x h => by simp at h⟩
  | n + 1, h => by
    obtain ⟨l, hl, hp⟩ := list_of_forall n (fun i hi => h i (by omega))
    obtain ⟨x, hx⟩ := h n (by omega)
    refine ⟨l ++ [x], by simp [hl], fun i y hy => ?_⟩
    by_cases hi : i < l.length
    · rw [List.getElem?_append_left hi] at hy; exact hp i y hy
    · rw [List.getElem?_append_right (by omega)] at hy
      have : i - l.length = 0 := by
        have := (List.getElem?_eq_some_iff.1 hy).1
        simp at this; omega
      rw [this] at hy
      simp at hy
      subst hy
      rw [show i = n by omega]; exact hx

/-! ### Runs by value -/

theorem OwnE.mono {w : World} {base base' g cap : Nat} {es : List Ent} (h : OwnE w base g cap es) (hb : base' ≤ base) : OwnE w base' g cap es := by
  refine ⟨h.1, ?_⟩
  rcases h.2 with hn | ⟨g', cap', cur, hv, h1, rest⟩
  · exact .inl hn
  · exact .inr ⟨g', cap', cur, hv, Nat.le_trans hb h1, rest⟩

end Go.Proofs.Ytnncedndlhfdkaa

/-
  The marks that a law lays into rows and looks for.
-/
namespace Go.Proofs.Ytnncedndlhfdkaa
open Go.ChangeShapes Go.WideShapes Go.ChangeAt Go.RowKit Go.Deep
set_option linter.unusedVariables false

def digF : Nat → Nat → List UInt8
  | 0, _ => []
  | f + 1, k => if k = 0 then [] else digF f (k / 10) ++ [UInt8.ofNat (48 + k % 10)]
theorem digF_zero (f : Nat) : digF f 0 = [] := by cases f <;> simp [digF]
theorem digF_more : ∀ (f k : Nat), k ≤ f → digF f k = digF k k
  | 0, k, h => by rw [show k = 0 by omega]
  | f + 1, k, h => by
    by_cases h0 : k = 0
    · subst h0; rw [digF_zero, digF_zero]
    · obtain ⟨j, rfl⟩ : ∃ j, k = j + 1 := ⟨k - 1, by omega⟩
      have h1 : (j + 1) / 10 ≤ j := by omega
      unfold digF
      rw [if_neg h0, if_neg h0, digF_more f _ (by omega), digF_more j _ h1]
def dig (k : Nat) : List UInt8 := digF k k
theorem dig_step {k : Nat} (h : 0 < k) : dig k = dig (k / 10) ++ [UInt8.ofNat (48 + k % 10)] := by
  obtain ⟨j, rfl⟩ : ∃ j, k = j + 1 := ⟨k - 1, by omega⟩
  show digF (j + 1) (j + 1) = _
  rw [digF, if_neg (by omega), digF_more j _ (by omega)]; rfl
/-- The mark's text. -/
def mText (k : Nat) : ByteArray := ⟨(109 :: dig k).toArray⟩

theorem mText_eq {k : Nat} {out : ByteArray} (h : dig k = out.data.toList) : mText k = ⟨#[109]⟩ ++ out := by
  obtain ⟨a⟩ := out
  unfold mText
  rw [ByteArray.mk_append_mk, h]
  simp

/-- The entry that the marks from 'k' on make. -/
def mEnt (k : Int) : Ent := ⟨mText k.toNat, mText (k + 1).toNat, mText (k + 1 + 1).toNat, k + 1 + 1 + 1, k + 1 + 1 + 1 + 1, mText (k + 1 + 1 + 1 + 1 + 1).toNat⟩
/-- The first 'i' of the entries are marked, from 'k' on. -/
def marked (k : Int) (es : List Ent) (i : Nat) : Prop := ∀ j : Nat, j < i → es[j]? = some (mEnt (k + j * 6))

theorem grown_of_below {w w' : World} (h : Below w.heap.size w w') (r : Option Nat) : w.grownBy w' r := ⟨h.os, h.tape, h.output, h.size, fun k hk _ => h.block k hk⟩
theorem grown_set (w : World) (g o : Nat) (u : Value) : w.grownBy (w.setCell ⟨g, o, none⟩ u) (some g) := by
  have h : Below g w (w.setCell ⟨g, o, none⟩ u) := (Below.refl g w).setCell (Nat.le_refl _) u
  exact ⟨h.os, h.tape, h.output, h.size, fun k hk hne => Below.heap_setCell w ⟨g, o, none⟩ u k (fun e => hne (by rw [e]))⟩
theorem OwnE.upd {w : World} {base g cap m j : Nat} {fs : List Ent} {f f' : Ent} {u : Value} (h : OwnE w base g cap (fs.set m f)) (hm : m < fs.length) (hj : j < 6) (hc : f'.cells = f.cells.set j u) :
    OwnE (w.setCell ⟨g, m * 6 + j, none⟩ u) base g cap (fs.set m f') := by
  have := h.set m j f f' u (by simp [hm]) hj hc
  rwa [List.set_set] at this
theorem marked_set {k : Int} {fs : List Ent} {m : Nat} (h : marked k fs m) (hm : m < fs.length) : marked k (fs.set m (mEnt (k + m * 6))) (m + 1) := by
  intro j hj
  by_cases e : j = m
  · subst e; simp [hm]
  · rw [List.getElem?_set_ne (by omega)]; exact h j (by omega)

end Go.Proofs.Ytnncedndlhfdkaa

/-
  What has turned between two worlds.
-/
namespace Go.Proofs.Ytnncedndlhfdkaa
open Go.ChangeShapes Go.WideShapes Go.ChangeAt Go.RowKit Go.Deep
set_option linter.unusedVariables false
set_option linter.unusedSimpArgs false

/-- From 'w' to 'w'': only what lies in blocks of 'S' has turned, and new blocks came. -/
structure Chg (S : Nat → Prop) (w w' : World) : Prop where
  os : w'.os = w.os
  tape : w'.tape = w.tape
  output : w'.output = w.output
  size : w.heap.size ≤ w'.heap.size
  block : ∀ k, k < w.heap.size → ¬ S k → w'.heap[k]? = w.heap[k]?
theorem Chg.refl (S : Nat → Prop) (w : World) : Chg S w w := ⟨rfl, rfl, rfl, Nat.le_refl _, fun _ _ _ => rfl⟩
theorem Chg.trans {S : Nat → Prop} {a b c : World} (h : Chg S a b) (k : Chg S b c) : Chg S a c :=
  ⟨k.os.trans h.os, k.tape.trans h.tape, k.output.trans h.output, Nat.le_trans h.size k.size, fun i hi hn => (k.block i (Nat.lt_of_lt_of_le hi h.size) hn).trans (h.block i hi hn)⟩
theorem Chg.mono {S T : Nat → Prop} {w w' : World} (h : Chg S w w') (hs : ∀ k, S k → T k) : Chg T w w' := ⟨h.os, h.tape, h.output, h.size, fun k hk hn => h.block k hk (fun q => hn (hs k q))⟩
theorem Chg.of_below {S : Nat → Prop} {w w' : World} (h : Below w.heap.size w w') : Chg S w w' := ⟨h.os, h.tape, h.output, h.size, fun k hk _ => h.block k hk⟩
theorem Chg.of_grown {S : Nat → Prop} {w w' : World} {row : Option Nat} (h : w.grownBy w' row) (hs : ∀ k, row = some k → S k) : Chg S w w' :=
  ⟨h.os, h.tape, h.output, h.size, fun k hk hn => h.block k hk (fun q => hn (hs k q.symm))⟩
theorem Chg.of_set {S : Nat → Prop} (w : World) (g o : Nat) (u : Value) (hs : S g) : Chg S w (w.setCell ⟨g, o, none⟩ u) := Chg.of_grown (grown_set w g o u) (fun k hk => by cases hk; exact hs)
theorem Chg.below {S : Nat → Prop} {B : Nat} {a w w' : World} (h : Below B a w) (k : Chg S w w') (hB : B ≤ w.heap.size) (hs : ∀ k, S k → B ≤ k) : Below B a w' :=
  h.trans ⟨k.os, k.tape, k.output, k.size, fun i hi => k.block i (by omega) (fun q => by have := hs i q; omega)⟩
theorem Chg.cell {S : Nat → Prop} {w w' : World} (h : Chg S w w') {p : Addr} (hp : p.block < w.heap.size) (hn : ¬ S p.block) : w'.cell? p = w.cell? p := World.cell?_of_block (w := w) (h.block p.block hp hn)
theorem Chg.frozen {S : Nat → Prop} {w w' : World} (h : Chg S w w') {p : Addr} (hp : p.block < w.heap.size) (hn : ¬ S p.block) : w'.frozen? p = w.frozen? p := World.frozen?_of_block (w := w) (h.block p.block hp hn)
theorem EntsAt.chg {S : Nat → Prop} {w w' : World} {b off : Nat} {es : List Ent} (h : EntsAt w b off es) (hb : Chg S w w') (hlt : b < w.heap.size) (hn : ¬ S b) : EntsAt w' b off es := by
  intro i e he
  have := h i e he
  refine ⟨?_, ?_, ?_, ?_, ?_, ?_⟩
  all_goals rw [hb.cell (by exact hlt) (by exact hn)]
  · exact this.1
  · exact this.2.1
  · exact this.2.2.1
  · exact this.2.2.2.1
  · exact this.2.2.2.2.1
  · exact this.2.2.2.2.2
theorem own_apart {w : World} {base e size : Nat} {v : Value} {n : Nat} {xs : List Value} {base' e' size' : Nat} {v' : Value} {n' : Nat} {xs' : List Value} (h : w.ownsRow base e size v n xs) (h' : w.ownsRow base' e' size' v' n' xs') (hne : e ≠ e') : ∀ k, v.ownBlock = some k → v'.ownBlock ≠ some k := by
  intro k hk hk'
  rcases h.2 with ⟨rfl, _⟩ | ⟨g1, cap1, cur, rfl, _, hc, _⟩
  · simp [Value.ownBlock] at hk
  · rcases h'.2 with ⟨rfl, _⟩ | ⟨g2, cap2, cur2, rfl, _, hc2, _⟩
    · simp [Value.ownBlock] at hk'
    · simp [Value.ownBlock] at hk hk'
      subst hk hk'
      rw [hc] at hc2
      simp at hc2
      exact hne hc2.2
theorem own_chg {S : Nat → Prop} {w w' : World} {base e size : Nat} {v : Value} {n : Nat} {xs : List Value} (h : w.ownsRow base e size v n xs) (hb : Chg S w w') (hn : ∀ k, v.ownBlock = some k → ¬ S k) : w'.ownsRow base e size v n xs := by
  refine ⟨h.1, ?_⟩
  rcases h.2 with hz | ⟨g, cap, cur, rfl, h1, hg, rest⟩
  · exact .inl hz
  · refine .inr ⟨g, cap, cur, rfl, h1, ?_, rest⟩
    have hlt : g < w.heap.size := by
      rcases Nat.lt_or_ge g w.heap.size with q | q
      · exact q
      · rw [Array.getElem?_eq_none q] at hg; cases hg
    rw [hb.block g hlt (hn g rfl)]; exact hg

end Go.Proofs.Ytnncedndlhfdkaa

/-
  Variables of a struct's type that lie in memory, as rows of one element.
-/
namespace Go.Proofs.Ytnncedndlhfdkaa
open Go.ChangeShapes Go.WideShapes Go.ChangeAt Go.RowKit Go.Deep
set_option linter.unusedVariables false

def BoxAt (w : World) (base t sz g : Nat) (vs : List Value) : Prop := w.ownsRow base t sz (.slice (some ⟨g, 0, none⟩) 1 1) 1 vs
theorem BoxAt.len {w : World} {base t sz g : Nat} {vs : List Value} (h : BoxAt w base t sz g vs) : vs.length = sz := by have := h.1; omega
theorem BoxAt.lt {w : World} {base t sz g : Nat} {vs : List Value} (h : BoxAt w base t sz g vs) : base ≤ g ∧ g < w.heap.size := World.ownsRow.lt h g rfl
theorem BoxAt.chg {S : Nat → Prop} {w w' : World} {base t sz g : Nat} {vs : List Value} (h : BoxAt w base t sz g vs) (hc : Chg S w w') (hn : ¬ S g) : BoxAt w' base t sz g vs := own_chg h hc (fun k q => by simp [Value.ownBlock] at q; subst q; exact hn)
theorem BoxAt.below {w w' : World} {base t sz g : Nat} {vs : List Value} (h : BoxAt w base t sz g vs) (hb : Below w.heap.size w w') : BoxAt w' base t sz g vs := h.chg (Chg.of_below hb) (S := fun _ => False) (fun q => q)
theorem BoxAt.cell {w : World} {base t sz g : Nat} {vs : List Value} (h : BoxAt w base t sz g vs) {j : Nat} {v : Value} (hv : vs[j]? = some v) : w.cell? ⟨g, j, none⟩ = some v := by
  have hj := (List.getElem?_eq_some_iff.1 hv).1
  rw [World.ownsRow.cellAt h j (by have := h.len; omega), hv]
theorem BoxAt.frozen {w : World} {base t sz g : Nat} {vs : List Value} (h : BoxAt w base t sz g vs) (j : Nat) : w.frozen? ⟨g, j, none⟩ = false := World.ownsRow.frozenAt h j
theorem BoxAt.set {w : World} {base t sz g : Nat} {vs : List Value} (h : BoxAt w base t sz g vs) (j : Nat) (u : Value) : BoxAt (w.setCell ⟨g, j, none⟩ u) base t sz g (vs.set j u) := (World.ownsRow.stored h j u).1
theorem BoxAt.beside {w : World} {base t sz g : Nat} {vs : List Value} (h : BoxAt w base t sz g vs) {k : Nat} (hk : ¬ g = k) (j : Nat) (u : Value) : BoxAt (w.setCell ⟨k, j, none⟩ u) base t sz g vs := h.chg (Chg.of_set w k j u (S := fun q => q = k) rfl) hk
theorem boxAt_new (w : World) {base t sz : Nat} (cs : Array Value) (hb : base ≤ w.heap.size) (hs : cs.size = sz) : BoxAt (w.alloc (.cells cs t)) base t sz w.heap.size cs.toList :=
  World.ownsRow_lit w cs 1 hb (by decide) (by omega)
/-- Three cells stored. -/
def set3 (w : World) (g : Nat) (a b c : Value) : World := ((w.setCell ⟨g, 0, none⟩ a).setCell ⟨g, 1, none⟩ b).setCell ⟨g, 2, none⟩ c
theorem BoxAt.set3 {w : World} {base t g : Nat} {vs : List Value} (h : BoxAt w base t 3 g vs) (a b c : Value) : BoxAt (set3 w g a b c) base t 3 g [a, b, c] := by
  have h1 := ((h.set 0 a).set 1 b).set 2 c
  have hl := h.len
  match vs, hl with
  | [x, y, z], _ => exact h1
theorem BoxAt.beside3 {w : World} {base t sz g : Nat} {vs : List Value} (h : BoxAt w base t sz g vs) {k : Nat} (hk : ¬ g = k) (a b c : Value) : BoxAt (Go.Proofs.Ytnncedndlhfdkaa.set3 w k a b c) base t sz g vs :=
  ((h.beside hk 0 a).beside hk 1 b).beside hk 2 c
theorem below_set {B : Nat} {a w : World} (h : Below B a w) {k : Nat} (hk : B ≤ k) (j : Nat) (u : Value) : Below B a (w.setCell ⟨k, j, none⟩ u) := h.setCell (p := ⟨k, j, none⟩) hk u
theorem below_set3 {B : Nat} {a w : World} (h : Below B a w) {k : Nat} (hk : B ≤ k) (x y z : Value) : Below B a (set3 w k x y z) := below_set (below_set (below_set h hk 0 x) hk 1 y) hk 2 z
theorem size_set (w : World) (k j : Nat) (u : Value) : (w.setCell ⟨k, j, none⟩ u).heap.size = w.heap.size := by
  simp [World.setCell]
end Go.Proofs.Ytnncedndlhfdkaa

/-
  A region that draws its order and in which an operation, a call, ends in a panic: one walk in the order of the text. That operation and those behind it are taken out by
  stand-ins that leave a mark; the values of its operands, as they are when all has come up, are those that it finds.
-/
namespace Go.Proofs.Ytnncedndlhfdkaa
open Go.ChangeShapes Go.WideShapes Go.ChangeAt Go.RowKit Go.Deep
set_option linter.unusedVariables false
set_option linter.unusedSimpArgs false

variable {P : Program} {C : World → Prop}
/-- The stand-in. -/
def fk (m : Value) (o : Oper) : Oper := { o with op := .move (.const m) }
/-- Every operation that lays a slot that 'o' reads is waited for by it; its own slot is nobody else's; what stands behind it waits for it. -/
def waitsB (pre : List Oper) (o : Oper) (tl : List Oper) (d : Tmp) (sl : List Tmp) : Bool :=
  sl.all (fun s => s != d && ((List.range pre.length).all (fun i => match pre[i]? with
    | some oi => oi.dst != some s || o.after.any (fun e => Region.binds .any e && e.on == i)
    | none => true) && tl.all (fun oi => oi.dst != some s))) && pre.all (fun oi => oi.dst != some d) && tl.all (fun oi => oi.dst != some d && oi.after.any (fun e => Region.binds .any e && Nat.ble pre.length e.on))
theorem get_part (pre tl : List Oper) (i : Nat) : (pre ++ tl).toArray[i]? = if i < pre.length then pre[i]? else tl[i - pre.length]? := by
  rw [List.getElem?_toArray]
  by_cases h : i < pre.length
  · rw [if_pos h, List.getElem?_append_left h]
  · rw [if_neg h, List.getElem?_append_right (by omega)]
theorem ready_fk (m : Value) (pre tl : List Oper) (listed : Array Bool) : Region.ready .any (pre ++ tl.map (fk m)).toArray listed = Region.ready .any (pre ++ tl).toArray listed := by
  unfold Region.ready
  have hz : (pre ++ tl.map (fk m)).toArray.size = (pre ++ tl).toArray.size := by simp
  rw [hz]
  congr 1
  funext i
  rw [get_part, get_part]
  by_cases h : i < pre.length
  · rw [if_pos h, if_pos h]
  · rw [if_neg h, if_neg h, List.getElem?_map]
    cases tl[i - pre.length]? <;> rfl
theorem yielded_fk (m : Value) (pre tl : List Oper) (tmps : Array Value) : yielded (pre ++ tl.map (fk m)).toArray tmps = yielded (pre ++ tl).toArray tmps := by
  funext j
  unfold yielded
  rw [get_part, get_part]
  by_cases h : j < pre.length
  · rw [if_pos h, if_pos h]
  · rw [if_neg h, if_neg h, List.getElem?_map]
    cases tl[j - pre.length]? <;> rfl
theorem put_getD (a : Act) (dst : Option Tmp) (v : Value) (s : Tmp) (h : dst ≠ some s) : (a.put dst v).tmps.getD s undef = a.tmps.getD s undef := by
  cases dst with
  | none => rfl
  | some t =>
    have hts : t ≠ s := fun q => h (by rw [q])
    show (a.tmps.setIfInBounds t v).getD s undef = _
    rw [Array.getD_eq_getD_getElem?, Array.getD_eq_getD_getElem?, Array.getElem?_setIfInBounds_ne hts]
theorem put_defers (a : Act) (dst : Option Tmp) (v : Value) : (a.put dst v).defers = a.defers := by cases dst <;> rfl
theorem listed_set (listed : Array Bool) (i j : Nat) (d : Bool) (h : listed.getD j d = true) : (listed.setIfInBounds i true).getD j d = true := by
  rw [Array.getD_eq_getD_getElem?] at h ⊢
  by_cases q : i = j
  · subst q
    rw [Array.getElem?_setIfInBounds_self]
    split
    · rfl
    · next hl => rw [Array.getElem?_eq_none (by omega)] at h; exact h
  · rw [Array.getElem?_setIfInBounds_ne q]; exact h
/-- A slot that nobody lays any more holds what it holds at the end. -/
theorem slot_end {ops : Array Oper} {Q : Act → Prop} (s : Tmp) (x : Value) (hQ : ∀ a, Q a → a.tmps.getD s undef = x) : ∀ (fuel : Nat) (listed : Array Bool) (a : Act), wpAnyQ P .any ops C Q fuel listed a →
    (∀ i oi, ops[i]? = some oi → oi.dst = some s → listed.getD i true = true) → a.tmps.getD s undef = x
  | 0, listed, a, h, _ => hQ a h.2
  | fuel + 1, listed, a, h, hl => by
    cases hr : Region.ready .any ops listed with
    | nil => exact hQ a (h.1 hr)
    | cons i rest =>
      have hi : i ∈ Region.ready .any ops listed := by rw [hr]; simp
      have hq := h.2 i hi
      obtain ⟨hun, oi, hoi, _⟩ := mem_ready.1 hi
      have hd : oi.dst ≠ some s := fun e => by
        have := hl i oi hoi e
        rw [hun] at this; cases this
      have hl' : ∀ j oj, ops[j]? = some oj → oj.dst = some s → (listed.setIfInBounds i true).getD j true = true := fun j oj hj e => listed_set _ _ _ _ (hl j oj hj e)
      unfold qOp at hq
      simp only [hoi] at hq
      split at hq
      · obtain ⟨v, _, h2⟩ := hq
        have := slot_end s x hQ fuel _ _ h2 hl'
        rwa [put_getD _ _ _ _ hd] at this
      · have := slot_end s x hQ fuel _ _ hq hl'
        rwa [put_getD _ _ _ _ hd] at this
theorem any_of_fk {m : Value} {Q : Exit → Act → World → Prop} {pre tl : List Oper} {o : Oper} {D : List Deferred} (d : Tmp) (sl : List (Tmp × Value)) (hB2 : waitsB pre o tl d (sl.map (·.1)) = true) (hdst : o.dst = some d) (hg : o.guard = none)
    (hop : ∀ (a' : Act) (w' : World) (K : Act → World → Prop), C w' → a'.defers = D → (∀ p ∈ sl, a'.tmps.getD p.1 undef = p.2) → o.wp P a' w' K Q) :
    ∀ (fuel : Nat) (listed : Array Bool) (a : Act) (w : World), wpAnyQ P .any (pre ++ (o :: tl).map (fk m)).toArray C (fun a' => a'.tmps.getD d undef = m ∧ ∀ p ∈ sl, a'.tmps.getD p.1 undef = p.2) fuel listed a → C w →
      a.tmps.getD d undef ≠ m → a.defers = D → (∀ j, pre.length ≤ j → listed.getD j false = false) → wpAny P .any (pre ++ o :: tl).toArray Q fuel listed a w
  | 0, listed, a, w, h, _, hm, _, _ => absurd h.2.1 hm
  | fuel + 1, listed, a, w, h, hw, hm, hD, hJ => by
    have hB3 := hB2
    simp only [waitsB, Bool.and_eq_true, List.all_eq_true] at hB2
    obtain ⟨⟨hS, hP⟩, hT⟩ := hB2
    refine ⟨fun hr => absurd (h.1 (by rw [ready_fk]; exact hr)).1 hm, fun i hi => ?_⟩
    have hq := h.2 i (by rw [ready_fk]; exact hi)
    obtain ⟨hun, oi, hoi, hdep⟩ := mem_ready.1 hi
    rw [get_part] at hoi
    unfold wpOp
    unfold qOp at hq
    rw [get_part] at hq ⊢
    by_cases hlt : i < pre.length
    · rw [if_pos hlt] at hoi hq ⊢
      have hne : oi.dst ≠ some d := by
        have := hP oi (List.mem_of_getElem? hoi)
        simpa using this
      have hJ' : ∀ j, pre.length ≤ j → (listed.setIfInBounds i true).getD j false = false := by
        intro j hj
        have := hJ j hj
        rw [Array.getD_eq_getD_getElem?] at this ⊢
        rw [Array.getElem?_setIfInBounds_ne (by omega)]
        exact this
      simp only [hoi] at hq ⊢
      rw [yielded_fk] at hq
      split
      · next hwt =>
        rw [if_pos hwt] at hq
        obtain ⟨v, h1, h2⟩ := hq
        refine .inl (Oper.wp_of_quiet (K := fun a' => wpAnyQ P .any (pre ++ (o :: tl).map (fk m)).toArray C (fun a' => a'.tmps.getD d undef = m ∧ ∀ p ∈ sl, a'.tmps.getD p.1 undef = p.2) fuel (listed.setIfInBounds i true) a' ∧ a'.tmps.getD d undef ≠ m ∧ a'.defers = D) hw ?_ ⟨v, h1, h2, by rw [put_getD _ _ _ _ hne]; exact hm, by rw [put_defers]; exact hD⟩)
        intro a' w' hw' hk
        exact any_of_fk d sl hB3 hdst hg hop fuel _ a' w' hk.1 hw' hk.2.1 hk.2.2 hJ'
      · next hwt =>
        rw [if_neg hwt] at hq
        exact any_of_fk d sl hB3 hdst hg hop fuel _ _ w hq hw (by rw [put_getD _ _ _ _ hne]; exact hm) (by rw [put_defers]; exact hD) hJ'
    · rw [if_neg hlt] at hoi hq ⊢
      by_cases hn : i = pre.length
      · rw [hn, Nat.sub_self] at hoi hq ⊢
        simp only [List.getElem?_cons_zero, List.map_cons, Option.some.injEq] at hoi hq ⊢
        have hw1 : ∀ y, Region.wanted o y = true := fun y => by unfold Region.wanted; rw [hg]
        have hw2 : ∀ y, Region.wanted (fk m o) y = true := fun y => by unfold Region.wanted; show (match o.guard with | none => true | some (j, want) => y j == some want) = true; rw [hg]
        simp only [hw1, hw2, if_true] at hq ⊢
        obtain ⟨v, _, h2⟩ := hq
        refine .inl (hop a w _ hw hD fun p hp => ?_)
        have hps := hS p.1 (List.mem_map.2 ⟨p, hp, rfl⟩)
        have hpd : (some d : Option Tmp) ≠ some p.1 := by
          have := hps.1
          intro q
          cases q
          simp at this
        have h3 := slot_end (C := C) p.1 p.2 (fun a' h => h.2 p hp) fuel _ _ h2 (by
          intro j oj hj e
          rw [get_part] at hj
          by_cases hjl : j < pre.length
          · rw [if_pos hjl] at hj
            have h4 := hps.2.1 j (List.mem_range.2 hjl)
            simp only [hj, Bool.or_eq_true] at h4
            rcases h4 with h4 | h4
            · rw [e] at h4; simp at h4
            · rw [Array.any_eq_true'] at h4
              obtain ⟨ed, hed, h5⟩ := h4
              simp only [Bool.and_eq_true, beq_iff_eq] at h5
              have h6 := hdep ed (by rw [← hoi]; exact hed) h5.1
              rw [h5.2] at h6
              refine listed_set _ _ _ _ ?_
              rw [Array.getD_eq_getD_getElem?] at h6 ⊢
              cases hx : listed[j]? with
              | none => rfl
              | some y => rw [hx] at h6; exact h6
          · rw [if_neg hjl] at hj
            obtain ⟨k, hk⟩ : ∃ k, j - pre.length = k := ⟨_, rfl⟩
            rw [hk, ← List.map_cons, List.getElem?_map] at hj
            cases k with
            | zero =>
              simp only [List.getElem?_cons_zero, Option.map_some, Option.some.injEq] at hj
              rw [← hj] at e
              exact absurd (hdst.symm.trans e) hpd
            | succ k =>
              simp only [List.getElem?_cons_succ] at hj
              cases ht : tl[k]? with
              | none => rw [ht] at hj; cases hj
              | some ot =>
                rw [ht] at hj
                simp only [Option.map_some, Option.some.injEq] at hj
                have h7 := hps.2.2 ot (List.mem_of_getElem? ht)
                rw [← hj] at e
                have e2 : ot.dst = some p.1 := e
                rw [e2] at h7
                simp at h7)
        have hfd : (fk m o).dst = some d := hdst
        rwa [hfd, put_getD _ _ _ _ hpd] at h3
      · exfalso
        obtain ⟨k, hk⟩ : ∃ k, i - pre.length = k + 1 := ⟨i - pre.length - 1, by omega⟩
        rw [hk] at hoi
        simp only [List.getElem?_cons_succ] at hoi
        have h8 := hT oi (List.mem_of_getElem? hoi)
        rw [Array.any_eq_true'] at h8
        obtain ⟨ed, hed, h9⟩ := h8.2
        simp only [Bool.and_eq_true] at h9
        have h10 := hdep ed hed h9.1
        rw [hJ ed.on (Nat.le_of_ble_eq_true h9.2)] at h10
        cases h10
/-- The region. -/
theorem wp_region_dies {id : Nat} {Q : Exit → Act → World → Prop} {a : Act} {w : World} (pre : List Oper) (o : Oper) (tl : List Oper) (d : Tmp) (sl : List (Tmp × Value)) (l : List Oper) (hl : l = pre ++ o :: tl) (hm : P.follows .mixedOrders = true) (hB : ∀ m, Region.lexB .any (pre ++ (o :: tl).map (fk m)).toArray = true)
    (hB2 : waitsB pre o tl d (sl.map (·.1)) = true) (hdst : o.dst = some d) (hg : o.guard = none) (hC : C { w with drawn := w.drawn + 1 })
    (h : ∀ m, wpQuiet P (pre ++ (o :: tl).map (fk m)).toArray C (fun a' => a'.tmps.getD d undef = m ∧ ∀ p ∈ sl, a'.tmps.getD p.1 undef = p.2) (pre ++ (o :: tl).map (fk m)) a)
    (hop : ∀ (a' : Act) (w' : World) (K : Act → World → Prop), C w' → a'.defers = a.defers → (∀ p ∈ sl, a'.tmps.getD p.1 undef = p.2) → o.wp P a' w' K Q) : (Code.region id l.toArray true).wp P Q a w := by
  subst hl
  obtain ⟨m, h0⟩ : ∃ m, a.tmps.getD d undef ≠ m := by
    by_cases q : a.tmps.getD d undef = .bool true
    · exact ⟨.bool false, by rw [q]; intro e; cases e⟩
    · exact ⟨.bool true, q⟩
  have hBm := hB m
  simp only [Region.lexB, Bool.and_eq_true] at hBm
  refine wp_region_any hm ?_
  have h1 := wpAnyQ_lex (C := C) (md := .any) hBm.1 (pre ++ (o :: tl).map (fk m)) 0 (Array.replicate (pre ++ (o :: tl).map (fk m)).toArray.size false) a (by simp) (by simpa using hBm.2) (h m)
  have hz : (pre ++ o :: tl).toArray.size = (pre ++ (o :: tl).map (fk m)).length := by simp
  rw [hz]
  have hz2 : (pre ++ (o :: tl).map (fk m)).toArray.size = (pre ++ (o :: tl).map (fk m)).length := by simp
  rw [hz2] at h1
  refine any_of_fk d sl hB2 hdst hg hop _ _ _ _ h1 hC h0 rfl ?_
  intro j _
  rw [Array.getD_eq_getD_getElem?, Array.getElem?_replicate]
  split <;> rfl
end Go.Proofs.Ytnncedndlhfdkaa

/-
  A region that draws its order, whose operations read and whose callees leave alone what lay there: one walk.
-/
namespace Go.Proofs.Ytnncedndlhfdkaa
open Go.ChangeShapes Go.WideShapes Go.ChangeAt Go.RowKit Go.Deep
set_option linter.unusedVariables false

/-- A world that has grown out of 'w'. -/
structure Out (w : World) where
  u : World
  out : Below w.heap.size w u

theorem wp_region_out {id : Nat} {Q : Exit → Act → World → Prop} {a : Act} {w : World} {l : List Oper} (hm : Try.prog.follows .mixedOrders = true) (hB : Region.lexB .any l.toArray = true)
    (h : wpQuiet Try.prog l.toArray (fun w' => ∃ n : Out w, w' = n.u) (fun a' => ∀ w', (∃ n : Out w, w' = n.u) → Q .normal a' w') l a) : (Code.region id l.toArray true).wp Try.prog Q a w :=
  wp_region_quiet (C := fun w' => ∃ n : Out w, w' = n.u) hm hB ⟨⟨_, (Below.refl _ _).drew⟩, rfl⟩ (by simpa using h)
theorem Calls.out_of {f : FuncId} {args : Array Value} {w : World} {n : Out w} {v : Value}
    (h : Calls Try.prog f args n.u fun e w' => e = .returned v ∧ Below n.u.heap.size n.u w') : Calls Try.prog f args n.u fun e w'' => e = .returned v ∧ ∃ m : Out w, w'' = m.u :=
  h.mono fun _ w' ⟨he, hb⟩ => ⟨he, ⟨w', n.out.trans (hb.mono n.out.size)⟩, rfl⟩
theorem ents_out {w : World} {b off j : Nat} {L : List Ent} {x : Ent} (h : EntsAt w b off L) (hb : b < w.heap.size) (hx : L[j]? = some x) :
    (∀ n : Out w, n.u.cell? ⟨b, off + j * 6, none⟩ = some (.string x.row)) ∧ (∀ n : Out w, n.u.cell? ⟨b, off + j * 6 + 1, none⟩ = some (.string x.fam)) ∧ (∀ n : Out w, n.u.cell? ⟨b, off + j * 6 + 2, none⟩ = some (.string x.qual)) ∧
    (∀ n : Out w, n.u.cell? ⟨b, off + j * 6 + 3, none⟩ = some (.int .u64 x.ts)) ∧ (∀ n : Out w, n.u.cell? ⟨b, off + j * 6 + 4, none⟩ = some (.int .i64 x.kind)) ∧ (∀ n : Out w, n.u.cell? ⟨b, off + j * 6 + 5, none⟩ = some (.string x.val)) :=
  ⟨fun n => (h.below n.out hb j x hx).1, fun n => (h.below n.out hb j x hx).2.1, fun n => (h.below n.out hb j x hx).2.2.1, fun n => (h.below n.out hb j x hx).2.2.2.1, fun n => (h.below n.out hb j x hx).2.2.2.2.1, fun n => (h.below n.out hb j x hx).2.2.2.2.2⟩
end Go.Proofs.Ytnncedndlhfdkaa

/-
  (*impl.patternReader): demand, nextIn, take, skip, classByte; strings.IndexByte.
-/
namespace Go.Proofs.Ytnncedndlhfdkaa
open Go.ChangeShapes Go.WideShapes Go.ChangeAt Go.RowKit Go.Deep
set_option linter.unusedVariables false
set_option linter.unusedSimpArgs false
set_option maxRecDepth 100000

/-- A panic with a placed fault. -/
abbrev pfV (c a : Int) : Value := .iface 81 (.agg #[.int .i64 c, .int .i64 a])
abbrev Pf (c a : Int) : Ending := .panicked [{ v := pfV c a, recovered := false }]
/-- The bytes of a string. -/
abbrev sb (s : ByteArray) : List UInt8 := s.data.toList
theorem sb_len (s : ByteArray) : (sb s).length = s.size := by simp [sb]
theorem sb_get {s : ByteArray} {i : Nat} {x : UInt8} (h : (sb s)[i]? = some x) : ∃ hi : i < s.size, s[i] = x := by
  have hi := (List.getElem?_eq_some_iff.1 h).1
  rw [sb_len] at hi
  refine ⟨hi, ?_⟩
  rw [List.getElem?_eq_getElem (by rw [sb_len]; exact hi)] at h
  exact Option.some.inj h

set_option maxHeartbeats 1000000 in
theorem stringsIndexByte_any (s : ByteArray) (c : UInt8) (w : World) :
    Calls Try.prog 56 #[.string s, .int .u8 (c.toNat : Int)] w fun e w' => e = .returned (.int .i64 (Lib.indexByte (sb s) c)) ∧ w' = w := by
  have H : Calls Try.prog 59 #[.string s, .int .u8 (c.toNat : Int)] w fun e w' => e = .returned (.int .i64 (Lib.indexByte (sb s) c)) ∧ w' = w := by
    go_enter Try.func59, Try.ntmps59
    go_wp2
    rw [run_callFunc_extern Try.func63 (by kernel_rfl) (by kernel_rfl) (by kernel_rfl) (e := Extern.BytealgIndexByte.indexByte) (by kernel_rfl), Lib.run_indexByteString]
    simp only [Result.andThen]
    rw [Oper.upon_value]
    go_wp2
    go_ret
    exact ⟨by simp, rfl⟩
  go_enter Try.func56, Try.ntmps56
  go_wp2_with (go_at_call 59; refine H.mono ?_; rintro e w' ⟨rfl, rfl⟩)
  go_ret
  exact ⟨rfl, rfl⟩
theorem indexByte_neg : ∀ (l : List UInt8) (c : UInt8), -1 ≤ Lib.indexByte l c ∧ (0 ≤ Lib.indexByte l c ↔ c ∈ l)
  | [], c => by simp [Lib.indexByte]
  | b :: l, c => by
    have ih := indexByte_neg l c
    unfold Lib.indexByte
    by_cases h : b = c
    · subst h; simp
    · have h2 : ¬ c = b := fun q => h q.symm
      by_cases h3 : Lib.indexByte l c = -1
      · have h4 : ¬ c ∈ l := fun q => by have := ih.2.2 q; omega
        simp [h, h2, h3, h4]
      · have h4 : c ∈ l := ih.2.1 (by omega)
        simp [h, h2, h3, h4]
        omega

/-- A reader in memory. -/
abbrev PrAt (w : World) (base g : Nat) (p : ByteArray) (i o : Nat) : Prop := BoxAt w base 84 3 g [.string p, .int .i64 (i : Int), .int .i64 (o : Int)]

set_option maxHeartbeats 1000000 in
theorem pdem_yes (v : Value) (w : World) : Calls Try.prog 47 #[v, .bool true] w fun e w' => e = .returned (.tuple #[]) ∧ w' = w := by
  go_enter Try.func47, Try.ntmps47
  go_wp2_with fail
  go_end0
  exact ⟨rfl, rfl⟩
set_option maxHeartbeats 1000000 in
theorem pdem_no {base g i o : Nat} {p : ByteArray} {w : World} (h : PrAt w base g p i o) : Calls Try.prog 47 #[.pointer (some ⟨g, 0, none⟩), .bool false] w fun e w' => e = Pf 2 i ∧ w' = w := by
  have c1 := h.cell (j := 1) rfl
  clear h
  go_enter Try.func47, Try.ntmps47
  go_wp2_with fail
  exact ⟨rfl, rfl, rfl⟩
theorem pdem_core (c : Bool) {base g i o : Nat} {p : ByteArray} {w : World} (h : PrAt w base g p i o) : Calls Try.prog 47 #[.pointer (some ⟨g, 0, none⟩), .bool c] w fun e w' => w' = w ∧ ((c = true ∧ e = .returned (.tuple #[])) ∨ (c = false ∧ e = Pf 2 i)) := by
  cases c with
  | true => exact (pdem_yes _ w).mono fun e w' ⟨he, hw⟩ => ⟨hw, .inl ⟨rfl, he⟩⟩
  | false => exact (pdem_no h).mono fun e w' ⟨he, hw⟩ => ⟨hw, .inr ⟨rfl, he⟩⟩

/-- Whether the next byte is one of these. -/
def inB (p : List UInt8) (i : Nat) (l : List UInt8) : Bool := match p[i]? with | some c => decide (c ∈ l) | none => false

set_option maxHeartbeats 2000000 in
theorem pnextIn_core {base g i o : Nat} {p : ByteArray} (s : ByteArray) {w : World} (h : PrAt w base g p i o) (hp : p.size ≤ 200) :
    Calls Try.prog 53 #[.pointer (some ⟨g, 0, none⟩), .string s] w fun e w' => e = .returned (.bool (inB (sb p) i (sb s))) ∧ Below w.heap.size w w' := by
  have hlt := h.lt.2
  have c0 := h.cell (j := 0) rfl
  have c1 := h.cell (j := 1) rfl
  have e0 : ∀ n : Out w, n.u.cell? ⟨g, 0, none⟩ = some (.string p) := fun n => (n.out.cell (p := ⟨g, 0, none⟩) hlt).trans c0
  have e1 : ∀ n : Out w, n.u.cell? ⟨g, 1, none⟩ = some (.int .i64 (i : Int)) := fun n => (n.out.cell (p := ⟨g, 1, none⟩) hlt).trans c1
  clear h c0 c1
  by_cases hi : i < p.size
  · obtain ⟨x, hx⟩ : ∃ x, (sb p)[i]? = some x := ⟨_, List.getElem?_eq_getElem (by rw [sb_len]; exact hi)⟩
    obtain ⟨_, gx⟩ := sb_get hx
    have z1 : (i : Int) < (p.size : Int) := by omega
    obtain ⟨r, hr⟩ : ∃ r, r = Lib.indexByte (sb s) x := ⟨_, rfl⟩
    have HR : Hid (r = Lib.indexByte (sb s) x ∧ inB (sb p) i (sb s) = decide (0 ≤ r)) := by
      refine ⟨hr, ?_⟩
      unfold inB
      rw [hx, hr]
      exact decide_eq_decide.2 (indexByte_neg _ _).2.symm
    have HI : Hid (∀ n : Out w, Calls Try.prog 56 #[.string s, .int .u8 (x.toNat : Int)] n.u fun e w' => e = .returned (.int .i64 r) ∧ Below n.u.heap.size n.u w') := fun n => by
      rw [HR.out.1]
      exact (stringsIndexByte_any s x n.u).mono fun e w' ⟨he, hw⟩ => ⟨he, hw ▸ Below.refl _ _⟩
    rw [HR.out.2]
    clear hx hr
    go_enter Try.func53, Try.ntmps53
    go_upto_region 1 with fail
    refine wp_region_out (by kernel_rfl) (by kernel_rfl) ?_
    repeat (go_big_quiet_step ((first | rfl | (go_at_call 56; exact Calls.out_of (HI.out _)))))
    refine wpQuiet_nil ?_
    rintro w1 ⟨⟨wx, hb1⟩, rfl⟩
    go_wp2_with fail
    go_ret
    exact ⟨rfl, hb1⟩
  · have z1 : ¬ (i : Int) < (p.size : Int) := by omega
    have HR : inB (sb p) i (sb s) = false := by
      unfold inB
      rw [List.getElem?_eq_none (by rw [sb_len]; omega)]
    rw [HR]
    clear HR
    go_enter Try.func53, Try.ntmps53
    go_upto_region 1 with fail
    refine wp_region_out (by kernel_rfl) (by kernel_rfl) ?_
    repeat (go_big_quiet_step (rfl))
    refine wpQuiet_nil ?_
    rintro w1 ⟨⟨wx, hb1⟩, rfl⟩
    go_wp2_with fail
    go_ret
    exact ⟨rfl, hb1⟩

/-- The reader one byte further. -/
theorem PrAt.next {w : World} {base g i o : Nat} {p : ByteArray} (h : PrAt w base g p i o) : PrAt (w.setCell ⟨g, 1, none⟩ (.int .i64 ((i : Int) + 1))) base g p (i + 1) o := BoxAt.set h 1 (.int .i64 ((i : Int) + 1))

set_option maxHeartbeats 2000000 in
theorem ptake_yes {base g i o : Nat} {p : ByteArray} {x : UInt8} {w : World} (h : PrAt w base g p i o) (hp : p.size ≤ 200) (hx : (sb p)[i]? = some x) :
    Calls Try.prog 58 #[.pointer (some ⟨g, 0, none⟩)] w fun e w' => e = .returned (.int .u8 (x.toNat : Int)) ∧ PrAt w' base g p (i + 1) o ∧ Chg (fun k => k = g) w w' := by
  have HP : Hid (PrAt w base g p i o) := h
  obtain ⟨hi, gx⟩ := sb_get hx
  have c0 := h.cell (j := 0) rfl
  have c1 := h.cell (j := 1) rfl
  have f1 := h.frozen 1
  have z1 : (i : Int) < (p.size : Int) := by omega
  clear h hx
  go_enter Try.func58, Try.ntmps58
  go_upto_region 1 with fail
  go_quiet ((go_at_call 47; exact Calls.quiet_of_same (pdem_yes _ _)))
  go_upto_region 2 with fail
  obtain ⟨W1, hW1⟩ : ∃ W1 : World, W1 = w.drewN nq := ⟨_, rfl⟩
  have hb1 : Below w.heap.size w W1 := by rw [hW1]; exact below_drewN (Below.refl _ _) _
  have HP1 : Hid (PrAt W1 base g p i o) := HP.out.below hb1
  rw [← hW1]
  clear hW1 c0 c1 f1
  have c0 := HP1.out.cell (j := 0) rfl
  have c1 := HP1.out.cell (j := 1) rfl
  have f1 := HP1.out.frozen 1
  go_quiet (rfl)
  go_wp2_with fail
  go_ret
  have hb2 : Below w.heap.size w (W1.drewN nq) := hb1.trans ((below_drewN (Below.refl _ _) _).mono hb1.size)
  exact ⟨rfl, PrAt.next (BoxAt.below HP.out hb2), (Chg.of_below hb2).trans (Chg.of_set _ g 1 _ rfl)⟩

/-- A region whose last operation is a demand of the reader's that does not hold. -/
theorem wp_region_pdem {id : Nat} {Q : Exit → Act → World → Prop} {a : Act} {w : World} {l : List Oper} {base g i o : Nat} {p : ByteArray} (d s c : Tmp) {tys : Array TypeId} {ty : TypeId} {pos : String} {aft : Array Edge} (hP : PrAt w base g p i o)
    (ho : l.getLast? = some ⟨some d, .call { callee := .value (.func 47), args := #[.tmp s, .tmp c], argTypes := tys }, ty, pos, aft, none⟩)
    (hB : ∀ m, Region.lexB .any (l.dropLast ++ [fk m ⟨some d, .call { callee := .value (.func 47), args := #[.tmp s, .tmp c], argTypes := tys }, ty, pos, aft, none⟩]).toArray = true)
    (hB2 : waitsB l.dropLast ⟨some d, .call { callee := .value (.func 47), args := #[.tmp s, .tmp c], argTypes := tys }, ty, pos, aft, none⟩ [] d [s, c] = true)
    (hQ : ∀ (a' : Act) (w' : World), Below w.heap.size w w' → a'.defers = a.defers → Q (.panic [{ v := pfV 2 i, recovered := false }]) a' w')
    (h : ∀ m, wpQuiet Try.prog (l.dropLast ++ [fk m ⟨some d, .call { callee := .value (.func 47), args := #[.tmp s, .tmp c], argTypes := tys }, ty, pos, aft, none⟩]).toArray (fun w' => ∃ n : Out w, w' = n.u) (fun a' => a'.tmps.getD d undef = m ∧ ∀ q ∈ [(s, Value.pointer (some ⟨g, 0, none⟩)), (c, .bool false)], a'.tmps.getD q.1 undef = q.2) (l.dropLast ++ [fk m ⟨some d, .call { callee := .value (.func 47), args := #[.tmp s, .tmp c], argTypes := tys }, ty, pos, aft, none⟩]) a) :
    (Code.region id l.toArray true).wp Try.prog Q a w := by
  have hl : l = l.dropLast ++ [⟨some d, .call { callee := .value (.func 47), args := #[.tmp s, .tmp c], argTypes := tys }, ty, pos, aft, none⟩] := by
    obtain ⟨l', hl'⟩ := List.getLast?_eq_some_iff.1 ho
    rw [hl']; simp
  refine wp_region_dies (C := fun w' => ∃ n : Out w, w' = n.u) l.dropLast _ [] d [(s, Value.pointer (some ⟨g, 0, none⟩)), (c, .bool false)] l hl (by kernel_rfl) hB hB2 rfl rfl ⟨⟨_, (Below.refl _ _).drew⟩, rfl⟩ h ?_
  rintro a' w' K ⟨n, rfl⟩ hd hp
  have h1 : a'.tmps.getD s undef = .pointer (some ⟨g, 0, none⟩) := hp (s, _) (by simp)
  have h2 : a'.tmps.getD c undef = .bool false := hp (c, _) (by simp)
  have h3 : a'.tmps[s]?.getD undef = .pointer (some ⟨g, 0, none⟩) := by rw [← Array.getD_eq_getD_getElem?]; exact h1
  have h4 : a'.tmps[c]?.getD undef = .bool false := by rw [← Array.getD_eq_getD_getElem?]; exact h2
  unfold Oper.wp
  have hrun : (execOp a'.eval ⟨some d, .call { callee := .value (.func 47), args := #[.tmp s, .tmp c], argTypes := tys }, ty, pos, aft, none⟩).run Try.prog n.u = .ok (.enter 47 #[.pointer (some ⟨g, 0, none⟩), .bool false]) n.u := by
    simp [execOp, h3, h4, go_sem, Act.eval, Try.func47]
  rw [hrun, Oper.upon_enter]
  refine (pdem_no (BoxAt.below hP n.out)).mono ?_
  rintro e w'' ⟨rfl, rfl⟩
  exact hQ a' n.u n.out hd
theorem pslots2 {a' : Act} {s t : Tmp} {x y : Value} (h : a'.tmps.getD s undef = x) (h2 : a'.tmps.getD t undef = y) : ∀ p ∈ [(s, x), (t, y)], a'.tmps.getD p.1 undef = p.2 := by
  intro p hp
  rcases List.mem_cons.1 hp with rfl | hp
  · exact h
  · rcases List.mem_cons.1 hp with rfl | hp
    · exact h2
    · cases hp

set_option maxHeartbeats 2000000 in
theorem ptake_no {base g i o : Nat} {p : ByteArray} {w : World} (h : PrAt w base g p i o) (hp : p.size ≤ 200) (hx : ¬ i < p.size) :
    Calls Try.prog 58 #[.pointer (some ⟨g, 0, none⟩)] w fun e w' => e = Pf 2 i ∧ Below w.heap.size w w' := by
  have HP : Hid (PrAt w base g p i o) := h
  have hlt := h.lt.2
  have c0 := h.cell (j := 0) rfl
  have c1 := h.cell (j := 1) rfl
  have e0 : ∀ n : Out w, n.u.cell? ⟨g, 0, none⟩ = some (.string p) := fun n => (n.out.cell (p := ⟨g, 0, none⟩) hlt).trans c0
  have e1 : ∀ n : Out w, n.u.cell? ⟨g, 1, none⟩ = some (.int .i64 (i : Int)) := fun n => (n.out.cell (p := ⟨g, 1, none⟩) hlt).trans c1
  have z1 : ¬ (i : Int) < (p.size : Int) := by omega
  clear h c0 c1
  go_enter Try.func58, Try.ntmps58
  go_upto_region 1 with fail
  refine wp_region_pdem 15 4 14 HP.out rfl (fun m => by kernel_rfl) (by kernel_rfl) ?q ?_
  case q => exact fun a' w' hb hd => ⟨hd, rfl, hb⟩
  intro m
  dsimp only [List.dropLast, fk, List.cons_append, List.nil_append]
  repeat (go_big_quiet_step (rfl))
  refine wpQuiet_nil ?_
  exact ⟨rfl, pslots2 rfl rfl⟩
theorem ptake_core {base g i o : Nat} {p : ByteArray} {w : World} (h : PrAt w base g p i o) (hp : p.size ≤ 200) (hi : i ≤ p.size) :
    Calls Try.prog 58 #[.pointer (some ⟨g, 0, none⟩)] w fun e w' => Chg (fun k => k = g) w w' ∧
      ((∃ x : UInt8, (sb p)[i]? = some x ∧ e = .returned (.int .u8 (x.toNat : Int)) ∧ PrAt w' base g p (i + 1) o) ∨ ((sb p)[i]? = none ∧ e = Pf 2 i)) := by
  by_cases hx : i < p.size
  · obtain ⟨x, hx⟩ : ∃ x, (sb p)[i]? = some x := ⟨_, List.getElem?_eq_getElem (by rw [sb_len]; exact hx)⟩
    exact (ptake_yes h hp hx).mono fun e w' ⟨he, h1, h2⟩ => ⟨h2, .inl ⟨x, hx, he, h1⟩⟩
  · exact (ptake_no h hp hx).mono fun e w' ⟨he, h1⟩ => ⟨Chg.of_below h1, .inr ⟨List.getElem?_eq_none (by rw [sb_len]; omega), he⟩⟩

set_option maxHeartbeats 2000000 in
theorem pskip_core {base g i o : Nat} {p : ByteArray} (c : UInt8) {w : World} (h : PrAt w base g p i o) (hp : p.size ≤ 200) :
    Calls Try.prog 51 #[.pointer (some ⟨g, 0, none⟩), .int .u8 (c.toNat : Int)] w fun e w' => Chg (fun k => k = g) w w' ∧
      (((sb p)[i]? = some c ∧ e = .returned (.bool true) ∧ PrAt w' base g p (i + 1) o) ∨ (¬ (sb p)[i]? = some c ∧ e = .returned (.bool false) ∧ PrAt w' base g p i o)) := by
  have HP : Hid (PrAt w base g p i o) := h
  have hlt := h.lt.2
  have c0 := h.cell (j := 0) rfl
  have c1 := h.cell (j := 1) rfl
  have e0 : ∀ n : Out w, n.u.cell? ⟨g, 0, none⟩ = some (.string p) := fun n => (n.out.cell (p := ⟨g, 0, none⟩) hlt).trans c0
  have e1 : ∀ n : Out w, n.u.cell? ⟨g, 1, none⟩ = some (.int .i64 (i : Int)) := fun n => (n.out.cell (p := ⟨g, 1, none⟩) hlt).trans c1
  clear h c0 c1
  by_cases hi : i < p.size
  · obtain ⟨x, hx⟩ : ∃ x, (sb p)[i]? = some x := ⟨_, List.getElem?_eq_getElem (by rw [sb_len]; exact hi)⟩
    obtain ⟨_, gx⟩ := sb_get hx
    have z1 : (i : Int) < (p.size : Int) := by omega
    by_cases hxc : x = c
    · subst hxc
      have HF : Hid ((sb p)[i]? = some x) := hx
      clear hx
      go_enter Try.func51, Try.ntmps51
      go_upto_region 1 with fail
      refine wp_region_out (by kernel_rfl) (by kernel_rfl) ?_
      repeat (go_big_quiet_step (rfl))
      refine wpQuiet_nil ?_
      rintro w1 ⟨⟨wx, hb1⟩, rfl⟩
      have HP1 : Hid (PrAt w1 base g p i o) := BoxAt.below HP.out hb1
      have c1 := HP1.out.cell (j := 1) rfl
      have f1 := HP1.out.frozen 1
      clear e0 e1
      go_wp2_with fail
      go_ret
      exact ⟨(Chg.of_below hb1).trans (Chg.of_set _ g 1 _ rfl), .inl ⟨HF.out, rfl, PrAt.next HP1.out⟩⟩
    · have HF : Hid (¬ (sb p)[i]? = some c) := by
        show ¬ (sb p)[i]? = some c
        rw [hx]
        exact fun q => hxc (Option.some.inj q)
      have z2 : ¬ (x.toNat : Int) = (c.toNat : Int) := fun q => hxc (UInt8.toNat_inj.1 (by omega))
      clear hx hxc
      go_enter Try.func51, Try.ntmps51
      go_upto_region 1 with fail
      refine wp_region_out (by kernel_rfl) (by kernel_rfl) ?_
      repeat (go_big_quiet_step (rfl))
      refine wpQuiet_nil ?_
      rintro w1 ⟨⟨wx, hb1⟩, rfl⟩
      have HP1 : Hid (PrAt w1 base g p i o) := BoxAt.below HP.out hb1
      clear e0 e1
      go_wp2_with fail
      go_ret
      exact ⟨Chg.of_below hb1, .inr ⟨HF.out, congrArg (fun b => Ending.returned (.bool b)) (beq_eq_false_iff_ne.2 z2), HP1.out⟩⟩
  · have z1 : ¬ (i : Int) < (p.size : Int) := by omega
    have HF : Hid (¬ (sb p)[i]? = some c) := by
      show ¬ (sb p)[i]? = some c
      rw [List.getElem?_eq_none (by rw [sb_len]; omega)]
      exact fun q => by cases q
    go_enter Try.func51, Try.ntmps51
    go_upto_region 1 with fail
    refine wp_region_out (by kernel_rfl) (by kernel_rfl) ?_
    repeat (go_big_quiet_step (rfl))
    refine wpQuiet_nil ?_
    rintro w1 ⟨⟨wx, hb1⟩, rfl⟩
    have HP1 : Hid (PrAt w1 base g p i o) := BoxAt.below HP.out hb1
    clear e0 e1
    go_wp2_with fail
    go_ret
    first
      | exact ⟨Chg.of_below hb1, .inr ⟨HF.out, rfl, HP1.out⟩⟩
      | exact ⟨Chg.of_below hb1, rfl, HP1.out⟩
end Go.Proofs.Ytnncedndlhfdkaa

/-
  Sets of bytes; (impl.byteSet).opposite.
-/
namespace Go.Proofs.Ytnncedndlhfdkaa
open Go.ChangeShapes Go.WideShapes Go.ChangeAt Go.RowKit Go.Deep
set_option linter.unusedVariables false
set_option linter.unusedSimpArgs false
set_option maxRecDepth 100000

theorem setA_some : ∃ F : (UInt8 → Bool) → Array Value, ∀ f, F f = Array.ofFn (n := 256) fun i => .bool (f (UInt8.ofNat i.val)) := ⟨_, fun _ => rfl⟩
/-- A set of bytes as the program has it. (Behind 'choose': so that no unification opens its 256 cells.) -/
noncomputable def setA (f : UInt8 → Bool) : Array Value := Classical.choose setA_some f
theorem setA_eq (f : UInt8 → Bool) : setA f = Array.ofFn (n := 256) fun i => .bool (f (UInt8.ofNat i.val)) := Classical.choose_spec setA_some f
theorem setA_size (f : UInt8 → Bool) : (setA f).size = 256 := by rw [setA_eq]; simp
theorem info_set : (Try.prog.info? 102).map (fun i => (i.zero, i.size)) = some (some (.agg (Array.replicate 256 (.bool false))), 256) := by kernel_rfl
theorem setA_none : setA (fun _ => false) = Array.replicate 256 (.bool false) := by
  rw [setA_eq]
  apply Array.ext
  · simp
  · intro i h1 h2
    simp
theorem setA_at (f : UInt8 → Bool) (i : Nat) (h : i < 256) : (setA f)[i]? = some (.bool (f (UInt8.ofNat i))) := by
  rw [setA_eq, Array.getElem?_eq_getElem (by simp; exact h)]
  simp only [Array.getElem_ofFn]
theorem setA_one (f : UInt8 → Bool) : (setA f).all (·.oneCell') = true := by
  rw [setA_eq, Array.all_eq_true_iff_forall_mem]
  intro v hv
  obtain ⟨i, hi, rfl⟩ := Array.getElem_of_mem hv
  simp only [Array.getElem_ofFn]
  rfl
theorem BoxAt.heap {w : World} {base t sz g : Nat} {vs : List Value} (h : BoxAt w base t sz g vs) : w.heap[g]? = some (.cells vs.toArray t (0, 0)) := by
  rcases h.2 with ⟨h0, _⟩ | ⟨g', cap, cur, hv, _, hc, _, _, hsz, htk⟩
  · cases h0
  · simp only [Value.slice.injEq, Option.some.injEq, Addr.mk.injEq, and_true, true_and] at hv
    obtain ⟨rfl, rfl⟩ := hv
    rw [hc]
    rw [List.take_of_length_le (by simp [hsz])] at htk
    rw [← htk]
theorem BoxAt.ofHeap {w : World} {base t sz g : Nat} {vs : Array Value} (h : w.heap[g]? = some (.cells vs t (0, 0))) (hb : base ≤ g) (hs : vs.size = sz) : BoxAt w base t sz g vs.toList := by
  refine ⟨by simp [hs], .inr ⟨g, 1, vs, rfl, hb, h, Nat.le_refl _, by decide, by omega, ?_⟩⟩
  rw [List.take_of_length_le (by simp [hs])]
/-- A set of bytes in memory. -/
abbrev SetAt (w : World) (base g : Nat) (f : UInt8 → Bool) : Prop := BoxAt w base 102 256 g (setA f).toList
theorem SetAt.heap {w : World} {base g : Nat} {f : UInt8 → Bool} (h : SetAt w base g f) : w.heap[g]? = some (.cells (setA f) 102 (0, 0)) := by
  have h1 := BoxAt.heap h
  rw [Array.toArray_toList] at h1
  exact h1
theorem SetAt.ext {w : World} {base g : Nat} {f f' : UInt8 → Bool} (h : SetAt w base g f) (he : ∀ c, f c = f' c) : SetAt w base g f' := by
  rw [show f' = f from funext fun c => (he c).symm]; exact h
theorem setA_get (f : UInt8 → Bool) (k : Nat) (h : k < 256) : (setA f).toList[k]? = some (.bool (f (UInt8.ofNat k))) := by
  rw [Array.getElem?_toList]; exact setA_at f k h
theorem ofNat_eq {i k : Nat} (hi : i < 256) (hk : k < 256) (h : UInt8.ofNat i = UInt8.ofNat k) : i = k := by
  have := congrArg UInt8.toNat h
  rw [UInt8.toNat_ofNat', UInt8.toNat_ofNat'] at this
  omega
theorem setA_set (f : UInt8 → Bool) (k : Nat) (b : Bool) (hk : k < 256) : (setA f).toList.set k (.bool b) = (setA (fun c => if c = UInt8.ofNat k then b else f c)).toList := by
  apply List.ext_getElem?
  intro i
  rw [List.getElem?_set]
  by_cases h : k = i
  · subst h
    rw [if_pos rfl, if_pos (by simp [setA_size]; exact hk), setA_get _ _ hk, if_pos rfl]
  · rw [if_neg h]
    by_cases hi : i < 256
    · rw [setA_get _ _ hi, setA_get _ _ hi, if_neg (fun q => h (ofNat_eq hi hk q).symm)]
    · rw [List.getElem?_eq_none (by simp [setA_size]; omega), List.getElem?_eq_none (by simp [setA_size]; omega)]
theorem setA_ext {f g : UInt8 → Bool} (h : ∀ c, f c = g c) : setA f = setA g := by rw [show f = g from funext h]
theorem Below.setRow' {B : Nat} {a w : World} (h : Below B a w) {g : Nat} (hg : B ≤ g) (cs : Array Value) : Below B a (w.setRow g cs) :=
  h.trans ⟨rfl, rfl, rfl, by simp, fun k hk => setRow_other w g k cs (by omega)⟩

set_option maxHeartbeats 2000000 in
theorem opposite_core (f : UInt8 → Bool) (w : World) :
    Calls Try.prog 60 #[.agg (setA f)] w fun e w' => e = .returned (.agg (setA (fun c => !f c))) ∧ Below w.heap.size w w' := by
  have hzv := (zero_of_info info_set).1
  go_enter Try.func60, Try.ntmps60
  go_wp2_with fail
  clear hzv
  rw [← setA_none]
  obtain ⟨W, hW⟩ : ∃ W, W = (w.alloc (.cells (setA f) 102)).alloc (.cells (setA (fun _ => false)) 102) := ⟨_, rfl⟩
  have HW : Hid (SetAt W w.heap.size w.heap.size f ∧ SetAt W w.heap.size (w.heap.size + 1) (fun _ => false) ∧ Below w.heap.size w W) := by
    rw [hW]
    refine ⟨BoxAt.ofHeap (heap_alloc2_old w _ _) (Nat.le_refl _) (setA_size _), BoxAt.ofHeap (heap_alloc2_new w _ _) (by omega) (setA_size _), ((Below.refl _ _).alloc (Nat.le_refl _) _).alloc (by simp) _⟩
  rw [← hW]
  clear hW
  go_loopw [4] (fun i wr => ∃ (k : Nat), k ≤ 256 ∧ i = .int .i64 k ∧ SetAt wr w.heap.size w.heap.size (fun c => if c.toNat < k then !f c else f c) ∧ SetAt wr w.heap.size (w.heap.size + 1) (fun _ => false) ∧ Below w.heap.size w wr) (fun i _ => 256 - (intOf i).toNat)
  case atStart =>
    refine ⟨0, Nat.zero_le _, rfl, ?_, HW.out.2.1, HW.out.2.2⟩
    exact SetAt.ext HW.out.1 (fun c => by rw [if_neg (by omega)])
  case round =>
    obtain ⟨k, hk, rfl, h1, h2, h3⟩ := hrel
    have HR : Hid (SetAt wr w.heap.size w.heap.size (fun c => if c.toNat < k then !f c else f c) ∧ SetAt wr w.heap.size (w.heap.size + 1) (fun _ => false) ∧ Below w.heap.size w wr) := ⟨h1, h2, h3⟩
    clear h1 h2 h3 HW
    by_cases hlt : k < 256
    · have z : (k : Int) < 256 := by omega
      obtain ⟨b, hb⟩ : ∃ b, b = f (UInt8.ofNat k) := ⟨_, rfl⟩
      have hn : (UInt8.ofNat k).toNat = k := by rw [UInt8.toNat_ofNat']; omega
      have d0 : wr.cell? ⟨w.heap.size, k, none⟩ = some (.bool b) := by
        have := HR.out.1.cell (setA_get _ k hlt)
        rw [hn, if_neg (Nat.lt_irrefl _), ← hb] at this
        exact this
      have f0 := HR.out.1.frozen k
      have HN : Hid (SetAt (wr.setCell ⟨w.heap.size, k, none⟩ (.bool (!b))) w.heap.size w.heap.size (fun c => if c.toNat < k + 1 then !f c else f c) ∧ SetAt (wr.setCell ⟨w.heap.size, k, none⟩ (.bool (!b))) w.heap.size (w.heap.size + 1) (fun _ => false) ∧ Below w.heap.size w (wr.setCell ⟨w.heap.size, k, none⟩ (.bool (!b)))) := by
        refine ⟨?_, HR.out.2.1.beside (by omega) k _, below_set HR.out.2.2 (Nat.le_refl _) k _⟩
        have h4 := HR.out.1.set k (.bool (!b))
        rw [setA_set _ k (!b) hlt] at h4
        refine SetAt.ext h4 ?_
        · intro c
          by_cases hc : c = UInt8.ofNat k
          · rw [if_pos hc, hc, hn, if_pos (by omega), hb]
          · rw [if_neg hc]
            have : ¬ c.toNat = k := fun q => hc (UInt8.toNat_inj.1 (by rw [hn]; exact q))
            by_cases h5 : c.toNat < k
            · rw [if_pos h5, if_pos (by omega)]
            · rw [if_neg h5, if_neg (by omega)]
      clear hb hn HR
      go_wp2_with fail
      go_roundw
      case rel => exact ⟨k + 1, by omega, by go_num, HN.out.1, HN.out.2.1, HN.out.2.2⟩
      case measure => simp [intOf]; omega
    · obtain rfl : k = 256 := by omega
      have h0 := SetAt.heap (SetAt.ext HR.out.1 (f' := fun c => !f c) (fun c => if_pos (UInt8.toNat_lt c)))
      have h1 := SetAt.heap HR.out.2.1
      have hB : Below w.heap.size w (wr.setRow (w.heap.size + 1) (setA (fun c => !f c))) := Below.setRow' HR.out.2.2 (by omega) _
      have hi : (Try.prog.info? 102).map (·.size) = some 256 := (zero_of_info info_set).2
      clear HR
      go_upto_region 6 with fail
      apply wp_region_list
      refine wpList_load_row rfl 102 _ rfl w.heap.size rfl 102 (setA (fun c => !f c)) (0, 0) _ h0 Try.underlying102 rfl (by rw [setA_size]; exact hi) ?_
      refine wpList_store_row rfl 102 _ _ rfl (w.heap.size + 1) (setA (fun c => !f c)) rfl rfl 102 (setA (fun _ => false)) h1 (by rw [setA_size]; exact hi) (by rw [setA_size, setA_size]) (setA_one _) ?_
      have hr := setRow_heap _ _ _ (setA (fun c => !f c)) _ _ h1
      obtain ⟨W2, hW2⟩ : ∃ W2, W2 = wr.setRow (w.heap.size + 1) (setA (fun c => !f c)) := ⟨_, rfl⟩
      rw [← hW2] at hB hr ⊢
      clear hW2 h0 h1
      apply wpList_nil
      go_wp2_with fail
      refine bodyPost_ret (v := .agg (setA (fun c => !f c))) (results_cell_row rfl _ _ (w.heap.size + 1) _ _ _ _ rfl hr Try.underlying102 rfl (by rw [setA_size]; exact hi)) rfl ⟨rfl, hB⟩

end Go.Proofs.Ytnncedndlhfdkaa

/-
  Patterns as nodes, the grammar, and the check that goes over the bytes from the left.
-/
namespace Go.Proofs.Ytnncedndlhfdkaa
set_option linter.unusedVariables false
set_option linter.unusedSimpArgs false

/-- A pattern as nodes. -/
inductive Pat where
  | byte (b : UInt8)
  | cls (f : UInt8 → Bool)
  | rep (t : Pat) (opt rpt : Bool)
  | alt (os : List (List Pat))

abbrev isOp (c : UInt8) : Prop := c = 42 ∨ c = 43 ∨ c = 63
abbrev isEnd (c : UInt8) : Prop := isOp c ∨ c = 124 ∨ c = 41 ∨ c = 93

/-- One ch of a class at i: the byte, where it ends, whether it is there. -/
def chM (p : List UInt8) (i : Nat) : UInt8 × Nat × Bool :=
  match p[i]? with
  | none => (0, i, false)
  | some c => if c = 93 ∨ c = 45 then (0, i, false) else if c = 92 then (match p[i + 1]? with | none => (0, i + 1, false) | some d => (d, i + 2, true)) else (c, i + 1, true)
theorem chM_gt {p : List UInt8} {i k : Nat} {c : UInt8} (h : chM p i = (c, k, true)) : i < k ∧ k ≤ p.length := by
  unfold chM at h
  split at h
  · cases h
  · next c' hc =>
    have h0 := (List.getElem?_eq_some_iff.1 hc).1
    split at h
    · cases h
    · split at h
      · split at h
        · cases h
        · next d hd =>
          have h1 := (List.getElem?_eq_some_iff.1 hd).1
          simp only [Prod.mk.injEq] at h
          omega
      · simp only [Prod.mk.injEq] at h
        omega
/-- An item of a class at j: its ends and where the next one begins, or the fault. -/
def itemM (p : List UInt8) (j : Nat) : (UInt8 × UInt8 × Nat) ⊕ (Int × Nat) :=
  match chM p j with
  | (_, k, false) => .inr (2, k)
  | (lo, k, true) =>
    if p[k]? = some 45 then
      match chM p (k + 1) with
      | (_, m, false) => .inr (2, m)
      | (hi, m, true) => if hi < lo then .inr (4, j) else .inl (lo, hi, m)
    else .inl (lo, lo, k)
theorem itemM_gt {p : List UInt8} {j k : Nat} {a b : UInt8} (h : itemM p j = .inl (a, b, k)) : j < k ∧ k ≤ p.length ∧ a ≤ b := by
  unfold itemM at h
  split at h
  · cases h
  · next lo k' hk =>
    have h1 := chM_gt hk
    split at h
    · split at h
      · cases h
      · next hi m hm =>
        have h2 := chM_gt hm
        split at h
        · cases h
        · next hle =>
          simp only [Sum.inl.injEq, Prod.mk.injEq] at h
          obtain ⟨rfl, rfl, rfl⟩ := h
          exact ⟨by omega, by omega, UInt8.not_lt.1 hle⟩
    · simp only [Sum.inl.injEq, Prod.mk.injEq] at h
      obtain ⟨rfl, rfl, rfl⟩ := h
      exact ⟨by omega, by omega, UInt8.le_refl _⟩
/-- The rest of a class, behind at least one item or at its first: the items' set and where the class ends, or the fault. -/
def clsM (p : List UInt8) (j : Nat) (items : Bool) (f : UInt8 → Bool) : ((UInt8 → Bool) × Nat) ⊕ (Int × Nat) :=
  if h : j < p.length then
    if p[j]? = some 93 ∧ items = true then .inl (f, j + 1)
    else match hi : itemM p j with
      | .inr e => .inr e
      | .inl (a, b, k) => clsM p k true (fun c => f c || (decide (a ≤ c) && decide (c ≤ b)))
  else .inr (2, p.length)
termination_by p.length - j
decreasing_by have := itemM_gt hi; omega
/-- A class behind its '['. -/
def classM (p : List UInt8) (i : Nat) : ((UInt8 → Bool) × Nat) ⊕ (Int × Nat) :=
  if p[i]? = some 94 then (match clsM p (i + 1) false (fun _ => false) with | .inl (f, k) => .inl (fun c => !f c, k) | .inr e => .inr e)
  else clsM p i false (fun _ => false)
theorem clsM_gt : ∀ (n : Nat) {p : List UInt8} {j : Nat} {b : Bool} {f g : UInt8 → Bool} {k : Nat}, p.length - j ≤ n → clsM p j b f = .inl (g, k) → j < k ∧ k ≤ p.length
  | n, p, j, b, f, g, k, hn, h => by
    unfold clsM at h
    split at h
    · next hj =>
      split at h
      · simp only [Sum.inl.injEq, Prod.mk.injEq] at h
        omega
      · split at h
        · cases h
        · next a b' k' hk =>
          have h1 := itemM_gt hk
          match n, hn with
          | 0, hn => omega
          | n + 1, hn =>
            have h2 := clsM_gt n (by omega) h
            omega
    · cases h
theorem classM_gt {p : List UInt8} {i : Nat} {g : UInt8 → Bool} {k : Nat} (h : classM p i = .inl (g, k)) : i < k ∧ k ≤ p.length := by
  unfold classM at h
  split at h
  · split at h
    · next hc =>
      have := clsM_gt _ (Nat.le_refl _) hc
      simp only [Sum.inl.injEq, Prod.mk.injEq] at h
      omega
    · cases h
  · exact clsM_gt _ (Nat.le_refl _) h
theorem itemM_err {p : List UInt8} {j : Nat} {c : Int} {k : Nat} (h : itemM p j = .inr (c, k)) : ¬ c = 0 := by
  unfold itemM at h
  split at h
  · simp only [Sum.inr.injEq, Prod.mk.injEq] at h; omega
  · split at h
    · split at h
      · simp only [Sum.inr.injEq, Prod.mk.injEq] at h; omega
      · split at h
        · simp only [Sum.inr.injEq, Prod.mk.injEq] at h; omega
        · cases h
    · cases h
theorem clsM_err : ∀ (n : Nat) {p : List UInt8} {j : Nat} {b : Bool} {f : UInt8 → Bool} {c : Int} {k : Nat}, p.length - j ≤ n → clsM p j b f = .inr (c, k) → ¬ c = 0
  | n, p, j, b, f, c, k, hn, h => by
    unfold clsM at h
    split at h
    · split at h
      · cases h
      · split at h
        · next e he =>
          simp only [Sum.inr.injEq] at h
          subst h
          exact itemM_err he
        · next a b' k' hk =>
          have h1 := itemM_gt hk
          match n, hn with
          | 0, hn => omega
          | n + 1, hn => exact clsM_err n (by omega) h
    · simp only [Sum.inr.injEq, Prod.mk.injEq] at h; omega
theorem classM_err {p : List UInt8} {i : Nat} {c : Int} {k : Nat} (h : classM p i = .inr (c, k)) : ¬ c = 0 := by
  unfold classM at h
  split at h
  · split at h
    · cases h
    · next e he =>
      simp only [Sum.inr.injEq] at h
      subst h
      exact clsM_err _ (Nat.le_refl _) he
  · exact clsM_err _ (Nat.le_refl _) h
/-- The check, from place i on: so many are open, an atom stands before or none. -/
def chkM (p : List UInt8) (i o : Nat) (a : Bool) : Int × Nat :=
  if h : i < p.length then
    if p[i] = 40 then (if o = 20 then (3, i) else chkM p (i + 1) (o + 1) false)
    else if p[i] = 41 then (if o = 0 then (2, i) else chkM p (i + 1) (o - 1) true)
    else if p[i] = 124 then chkM p (i + 1) o false
    else if p[i] = 42 ∨ p[i] = 43 ∨ p[i] = 63 then (if a = true then chkM p (i + 1) o true else (2, i))
    else if p[i] = 91 then (match hc : classM p (i + 1) with | .inr e => e | .inl (f, k) => chkM p k o true)
    else if p[i] = 93 then (2, i)
    else if p[i] = 92 then (if i + 1 = p.length then (2, p.length) else chkM p (i + 2) o true)
    else chkM p (i + 1) o true
  else if 0 < o then (2, p.length) else (0, 0)
termination_by p.length - i
decreasing_by
  all_goals first
    | (have := classM_gt hc; omega)
    | omega

variable {p : List UInt8} {i o : Nat} {a : Bool} {c : UInt8}
theorem lt_of_at (h : p[i]? = some c) : i < p.length := (List.getElem?_eq_some_iff.1 h).1
theorem get_of_at (h : p[i]? = some c) : p[i]'(lt_of_at h) = c := (List.getElem?_eq_some_iff.1 h).2
theorem chk_end (h : ¬ i < p.length) : chkM p i o a = if 0 < o then (2, p.length) else (0, 0) := by rw [chkM, dif_neg h]
theorem chk_open (h : p[i]? = some 40) : chkM p i o a = if o = 20 then (3, i) else chkM p (i + 1) (o + 1) false := by
  rw [chkM, dif_pos (lt_of_at h), if_pos (get_of_at h)]
theorem chk_close (h : p[i]? = some 41) : chkM p i o a = if o = 0 then (2, i) else chkM p (i + 1) (o - 1) true := by
  rw [chkM, dif_pos (lt_of_at h), get_of_at h]; simp
theorem chk_bar (h : p[i]? = some 124) : chkM p i o a = chkM p (i + 1) o false := by
  rw [chkM, dif_pos (lt_of_at h), get_of_at h]; simp
theorem chk_op (h : p[i]? = some c) (hc : isOp c) : chkM p i o a = if a = true then chkM p (i + 1) o true else (2, i) := by
  rw [chkM, dif_pos (lt_of_at h), get_of_at h]
  rcases hc with rfl | rfl | rfl <;> simp
theorem chk_rb (h : p[i]? = some 93) : chkM p i o a = (2, i) := by
  rw [chkM, dif_pos (lt_of_at h), get_of_at h]; simp
theorem chk_class (h : p[i]? = some 91) : chkM p i o a = match classM p (i + 1) with | .inr e => e | .inl (f, k) => chkM p k o true := by
  rw [chkM, dif_pos (lt_of_at h), get_of_at h]
  simp only [show ¬ (91 : UInt8) = 40 by decide, show ¬ (91 : UInt8) = 41 by decide, show ¬ (91 : UInt8) = 124 by decide, show ¬ ((91 : UInt8) = 42 ∨ (91 : UInt8) = 43 ∨ (91 : UInt8) = 63) by decide, if_false, if_true]
  split <;> (next hc => rw [hc])
theorem chk_esc (h : p[i]? = some 92) : chkM p i o a = if i + 1 = p.length then (2, p.length) else chkM p (i + 2) o true := by
  rw [chkM, dif_pos (lt_of_at h), get_of_at h]; simp
theorem chk_plain (h : p[i]? = some c) (h1 : ¬ isEnd c) (h2 : ¬ c = 40) (h3 : ¬ c = 91) (h4 : ¬ c = 92) : chkM p i o a = chkM p (i + 1) o true := by
  rw [chkM, dif_pos (lt_of_at h), get_of_at h]
  unfold isEnd isOp at h1
  simp only [not_or] at h1
  obtain ⟨⟨g1, g2, g3⟩, g4, g5, g6⟩ := h1
  simp [h2, h3, h4, g1, g2, g3, g4, g5, g6]
/-- Where no sign of repetition stands, it is one whether an atom stands before. -/
theorem chk_flag (h : ∀ c, p[i]? = some c → ¬ isOp c) (a b : Bool) : chkM p i o a = chkM p i o b := by
  by_cases hi : i < p.length
  · obtain ⟨c, hc⟩ : ∃ c, p[i]? = some c := ⟨_, List.getElem?_eq_getElem hi⟩
    have hn := h c hc
    by_cases h1 : c = 40
    · subst h1; rw [chk_open hc, chk_open hc]
    by_cases h2 : c = 41
    · subst h2; rw [chk_close hc, chk_close hc]
    by_cases h3 : c = 124
    · subst h3; rw [chk_bar hc, chk_bar hc]
    by_cases h4 : c = 93
    · subst h4; rw [chk_rb hc, chk_rb hc]
    by_cases h5 : c = 91
    · subst h5; rw [chk_class hc, chk_class hc]
    by_cases h6 : c = 92
    · subst h6; rw [chk_esc hc, chk_esc hc]
    have he : ¬ isEnd c := fun q => q.elim hn (fun q => q.elim h3 (fun q => q.elim h2 h4))
    rw [chk_plain hc he h1 h5 h6, chk_plain hc he h1 h5 h6]
  · rw [chk_end hi, chk_end hi]
end Go.Proofs.Ytnncedndlhfdkaa

/-
  (*impl.patternReader): classByte, item, class.
-/
namespace Go.Proofs.Ytnncedndlhfdkaa
open Go.ChangeShapes Go.WideShapes Go.ChangeAt Go.RowKit Go.Deep
set_option linter.unusedVariables false
set_option linter.unusedSimpArgs false
set_option maxRecDepth 100000

theorem chM_in {p : List UInt8} {i : Nat} (h : inB p i [93, 45] = true) : chM p i = (0, i, false) := by
  unfold inB at h
  unfold chM
  split at h
  · next c hc =>
    rw [hc]
    have : c = 93 ∨ c = 45 := by simpa using h
    simp only []
    rw [if_pos this]
  · cases h
theorem chM_end {p : List UInt8} {i : Nat} (h : p[i]? = none) : chM p i = (0, i, false) := by
  unfold chM; rw [h]
theorem chM_esc {p : List UInt8} {i : Nat} (h : p[i]? = some 92) : chM p i = match p[i + 1]? with | none => (0, i + 1, false) | some d => (d, i + 2, true) := by
  unfold chM; rw [h]; rfl
theorem chM_plain {p : List UInt8} {i : Nat} {c : UInt8} (h : p[i]? = some c) (h1 : inB p i [93, 45] = false) (h2 : ¬ c = 92) : chM p i = (c, i + 1, true) := by
  unfold inB at h1
  unfold chM
  rw [h] at h1 ⊢
  have : ¬ (c = 93 ∨ c = 45) := by simpa using h1
  simp only []
  rw [if_neg this, if_neg h2]

set_option maxHeartbeats 2000000 in
theorem classByte_core {base g i o : Nat} {p : ByteArray} {w : World} (h : PrAt w base g p i o) (hp : p.size ≤ 200) (hi : i ≤ p.size) :
    Calls Try.prog 65 #[.pointer (some ⟨g, 0, none⟩)] w fun e w' => Chg (fun k => k = g) w w' ∧
      ((∃ (x : UInt8) (k : Nat), chM (sb p) i = (x, k, true) ∧ e = .returned (.int .u8 (x.toNat : Int)) ∧ PrAt w' base g p k o) ∨ (∃ (x : UInt8) (k : Nat), chM (sb p) i = (x, k, false) ∧ e = Pf 2 k)) := by
  have HP : Hid (PrAt w base g p i o) := h
  clear h
  go_enter Try.func65, Try.ntmps65
  go_wp2_with fail
  refine (pnextIn_core ⟨#[93, 45]⟩ HP.out hp).mono ?_
  rintro e w1 ⟨rfl, hb1⟩
  have HP1 : Hid (PrAt w1 base g p i o ∧ Chg (fun k => k = g) w w1) := ⟨BoxAt.below HP.out hb1, Chg.of_below hb1⟩
  obtain ⟨q, hq⟩ : ∃ q, q = inB (sb p) i (sb ⟨#[93, 45]⟩) := ⟨_, rfl⟩
  have HQ : Hid (inB (sb p) i [93, 45] = q) := hq.symm
  rw [← hq]
  clear hb1 hq HP
  go_wp2_with fail
  refine (pdem_core (!q) HP1.out.1).mono ?_
  rintro e w2 ⟨rfl, (⟨hc, rfl⟩ | ⟨hc, rfl⟩)⟩
  case inr =>
    have hq : q = true := by simpa using hc
    refine ⟨rfl, HP1.out.2, .inr ⟨0, i, chM_in (by rw [HQ.out, hq]), rfl⟩⟩
  have hq : q = false := by simpa using hc
  subst hq
  clear hc
  go_wp2_with fail
  refine (ptake_core HP1.out.1 hp hi).mono ?_
  rintro e w3 ⟨hC3, (⟨x, hx, rfl, hP3⟩ | ⟨hx, rfl⟩)⟩
  case inr => exact ⟨rfl, HP1.out.2.trans hC3, .inr ⟨0, i, chM_end hx, rfl⟩⟩
  have HP3 : Hid (PrAt w3 base g p (i + 1) o ∧ Chg (fun k => k = g) w w3 ∧ (sb p)[i]? = some x) := ⟨hP3, HP1.out.2.trans hC3, hx⟩
  have hi1 : i + 1 ≤ p.size := by
    have := (List.getElem?_eq_some_iff.1 hx).1
    rw [sb_len] at this; omega
  clear hC3 hx hP3 HP1
  by_cases h92 : x = 92
  · subst h92
    go_wp2_with fail
    refine (ptake_core HP3.out.1 hp hi1).mono ?_
    rintro e w4 ⟨hC4, (⟨y, hy, rfl, hP4⟩ | ⟨hy, rfl⟩)⟩
    case inr => exact ⟨rfl, HP3.out.2.1.trans hC4, .inr ⟨0, i + 1, by rw [chM_esc HP3.out.2.2, hy], rfl⟩⟩
    have HF : Hid (Chg (fun k => k = g) w w4 ∧ chM (sb p) i = (y, i + 2, true) ∧ PrAt w4 base g p (i + 2) o) := ⟨HP3.out.2.1.trans hC4, by rw [chM_esc HP3.out.2.2, hy], hP4⟩
    clear hC4 hy hP4
    go_wp2_with fail
    go_ret
    exact ⟨HF.out.1, .inl ⟨y, i + 2, HF.out.2.1, rfl, HF.out.2.2⟩⟩
  · have z : ¬ (x.toNat : Int) = 92 := fun q => h92 (UInt8.toNat_inj.1 (by show x.toNat = 92; omega))
    go_wp2_with fail
    go_ret
    exact ⟨HP3.out.2.1, .inl ⟨x, i + 1, chM_plain HP3.out.2.2 HQ.out h92, rfl, HP3.out.1⟩⟩
end Go.Proofs.Ytnncedndlhfdkaa

/-
  (*impl.patternReader): item, class.
-/
namespace Go.Proofs.Ytnncedndlhfdkaa
open Go.ChangeShapes Go.WideShapes Go.ChangeAt Go.RowKit Go.Deep
set_option linter.unusedVariables false
set_option linter.unusedSimpArgs false
set_option maxRecDepth 100000

/-- The set with the bytes from a to b besides. -/
def wider (f : UInt8 → Bool) (a b : UInt8) : UInt8 → Bool := fun c => f c || (decide (a ≤ c) && decide (c ≤ b))
/-- What turns in new blocks turns in none of the old ones. -/
theorem Chg.absorb {S T : Nat → Prop} {w w1 w2 : World} (h : Chg S w w1) (k : Chg T w1 w2) (hT : ∀ j, T j → S j ∨ w.heap.size ≤ j) : Chg S w w2 :=
  ⟨k.os.trans h.os, k.tape.trans h.tape, k.output.trans h.output, Nat.le_trans h.size k.size, fun i hi hn => (k.block i (Nat.lt_of_lt_of_le hi h.size) (fun q => by rcases hT i q with q | q; exact hn q; omega)).trans (h.block i hi hn)⟩
theorem wrap64_u8 (a : UInt8) : wrap64 (a.toNat : Int) = (a.toNat : Int) := by
  have := UInt8.toNat_lt a
  unfold wrap64
  omega
theorem chg_setRow (w : World) (g : Nat) (cs : Array Value) : Chg (fun k => k = g) w (w.setRow g cs) := ⟨rfl, rfl, rfl, by simp, fun k hk hn => setRow_other w g k cs hn⟩

set_option maxHeartbeats 8000000 in
theorem item_core {base g i o : Nat} {p : ByteArray} (f : UInt8 → Bool) {w : World} (h : PrAt w base g p i o) (hp : p.size ≤ 200) (hi : i ≤ p.size) :
    Calls Try.prog 64 #[.pointer (some ⟨g, 0, none⟩), .agg (setA f)] w fun e w' => Chg (fun k => k = g) w w' ∧
      ((∃ (a b : UInt8) (k : Nat), itemM (sb p) i = .inl (a, b, k) ∧ e = .returned (.agg (setA (wider f a b))) ∧ PrAt w' base g p k o) ∨ (∃ (c : Int) (k : Nat), itemM (sb p) i = .inr (c, k) ∧ e = Pf c k)) := by
  have hgl := h.lt.2
  obtain ⟨W0, hW0⟩ : ∃ W0, W0 = (w.alloc (.cells (setA f) 102)).alloc (.cells (setA (fun _ => false)) 102) := ⟨_, rfl⟩
  have HW : Hid (SetAt W0 w.heap.size w.heap.size f ∧ SetAt W0 w.heap.size (w.heap.size + 1) (fun _ => false) ∧ PrAt W0 base g p i o ∧ Chg (fun k => k = g) w W0) := by
    rw [hW0]
    have hb : Below w.heap.size w ((w.alloc (.cells (setA f) 102)).alloc (.cells (setA (fun _ => false)) 102)) := ((Below.refl _ _).alloc (Nat.le_refl _) _).alloc (by simp) _
    refine ⟨BoxAt.ofHeap (heap_alloc2_old w _ _) (Nat.le_refl _) (setA_size _), BoxAt.ofHeap (heap_alloc2_new w _ _) (by omega) (setA_size _), BoxAt.below h hb, Chg.of_below hb⟩
  have hzv := (zero_of_info info_set).1
  rw [setA_none] at hW0
  have c1 := HW.out.2.2.1.cell (j := 1) rfl
  clear h
  go_enter Try.func64, Try.ntmps64
  go_upto_region 1 with fail
  rw [← hW0]
  clear hW0 hzv
  go_wp2_with fail
  clear c1
  refine (classByte_core HW.out.2.2.1 hp hi).mono ?_
  rintro e w1 ⟨hC1, (⟨a, k1, hk1, rfl, hP1⟩ | ⟨x, k, hk, rfl⟩)⟩
  case inr =>
    refine ⟨rfl, HW.out.2.2.2.trans hC1, .inr ⟨2, k, ?_, rfl⟩⟩
    unfold itemM; rw [hk]
  have HW1 : Hid (SetAt w1 w.heap.size w.heap.size f ∧ SetAt w1 w.heap.size (w.heap.size + 1) (fun _ => false) ∧ PrAt w1 base g p k1 o ∧ Chg (fun k => k = g) w w1) := ⟨BoxAt.chg HW.out.1 hC1 (by omega), BoxAt.chg HW.out.2.1 hC1 (by omega), hP1, HW.out.2.2.2.trans hC1⟩
  have HK1 : Hid (chM (sb p) i = (a, k1, true)) := hk1
  have hk1p : k1 ≤ p.size := by have := (chM_gt hk1).2; rw [sb_len] at this; exact this
  clear hC1 hk1 hP1 HW
  go_wp2_with fail
  refine (pskip_core 45 HW1.out.2.2.1 hp).mono ?_
  rintro e w2 ⟨hC2, h2⟩
  have HW2 : Hid (SetAt w2 w.heap.size w.heap.size f ∧ SetAt w2 w.heap.size (w.heap.size + 1) (fun _ => false) ∧ Chg (fun k => k = g) w w2) := ⟨BoxAt.chg HW1.out.1 hC2 (by omega), BoxAt.chg HW1.out.2.1 hC2 (by omega), HW1.out.2.2.2.trans hC2⟩
  clear hC2 HW1
  rcases h2 with ⟨hx, rfl, hP2⟩ | ⟨hx, rfl, hP2⟩
  case' inl =>
    have HP2 : Hid (PrAt w2 base g p (k1 + 1) o ∧ (sb p)[k1]? = some 45) := ⟨hP2, hx⟩
    have hk2 : k1 + 1 ≤ p.size := by have := (List.getElem?_eq_some_iff.1 hx).1; rw [sb_len] at this; omega
    clear hP2 hx
    go_wp2_with fail
    refine (classByte_core HP2.out.1 hp hk2).mono ?_
    rintro e w5 ⟨hC5, h5⟩
    have HW5 : Hid (SetAt w5 w.heap.size w.heap.size f ∧ SetAt w5 w.heap.size (w.heap.size + 1) (fun _ => false) ∧ Chg (fun k => k = g) w w5) := ⟨BoxAt.chg HW2.out.1 hC5 (by omega), BoxAt.chg HW2.out.2.1 hC5 (by omega), HW2.out.2.2.trans hC5⟩
    clear hC5 HW2
    rcases h5 with ⟨b, k5, hk5, rfl, hP5⟩ | ⟨x, k, hk, rfl⟩
    case inr =>
      refine ⟨rfl, HW5.out.2.2, .inr ⟨2, k, ?_, rfl⟩⟩
      unfold itemM; rw [HK1.out]; simp only []; rw [if_pos HP2.out.2, hk]
    have HI : Hid (PrAt w5 base g p k5 o ∧ itemM (sb p) i = if b < a then .inr (4, i) else .inl (a, b, k5)) := by
      refine ⟨hP5, ?_⟩
      unfold itemM; rw [HK1.out]; simp only []; rw [if_pos HP2.out.2, hk5]
    clear hk5 hP5 HP2 hk2
  case' inr =>
    obtain ⟨w5, hw5⟩ : ∃ w5, w5 = w2 := ⟨_, rfl⟩
    obtain ⟨k5, hk5⟩ : ∃ k5 : Nat, k5 = k1 := ⟨_, rfl⟩
    have HW5 : Hid (SetAt w5 w.heap.size w.heap.size f ∧ SetAt w5 w.heap.size (w.heap.size + 1) (fun _ => false) ∧ Chg (fun k => k = g) w w5) := by rw [hw5]; exact HW2.out
    have HI2 : Hid (PrAt w5 base g p k5 o ∧ itemM (sb p) i = .inl (a, a, k5)) := by
      rw [hw5, hk5]
      refine ⟨hP2, ?_⟩
      unfold itemM; rw [HK1.out]; simp only []; rw [if_neg hx]
    rw [← hw5]
    clear hw5 hP2 hx HW2 hk5
  case inl =>
    clear HK1 hk1p
    by_cases hba : b < a
    · have z : (b.toNat : Int) < (a.toNat : Int) := by have := UInt8.lt_iff_toNat_lt.1 hba; omega
      go_wp2_with fail
      exact ⟨rfl, HW5.out.2.2, .inr ⟨4, i, by rw [HI.out.2, if_pos hba], rfl⟩⟩
    · have z : (a.toNat : Int) ≤ (b.toNat : Int) := by have := UInt8.le_iff_toNat_le.1 (UInt8.not_lt.1 hba); omega
      have HI2 : Hid (PrAt w5 base g p k5 o ∧ itemM (sb p) i = .inl (a, b, k5)) := ⟨HI.out.1, by rw [HI.out.2, if_neg hba]⟩
      clear HI hba
      go_wp2_with fail
      go_loopw [8] (fun bv wr => ∃ (k : Nat), a.toNat ≤ k ∧ k ≤ b.toNat + 1 ∧ bv = .int .i64 k ∧ SetAt wr w.heap.size w.heap.size (fun c => f c || (decide (a ≤ c) && decide (c.toNat < k))) ∧ SetAt wr w.heap.size (w.heap.size + 1) (fun _ => false) ∧ PrAt wr base g p k5 o ∧ Chg (fun k => k = g) w wr) (fun bv _ => 256 - (intOf bv).toNat)
      case atStart =>
        refine ⟨a.toNat, Nat.le_refl _, by omega, congrArg (Value.int .i64) (wrap64_u8 a), SetAt.ext HW5.out.1 (fun c => ?_), HW5.out.2.1, HI2.out.1, HW5.out.2.2⟩
        by_cases q : a ≤ c
        · have := UInt8.le_iff_toNat_le.1 q
          rw [decide_eq_false (show ¬ c.toNat < a.toNat by omega)]; simp
        · rw [decide_eq_false q]; simp
      case round =>
        obtain ⟨k, hk0, hk1, rfl, h1, h2, h3, h4⟩ := hrel
        have HR : Hid (SetAt wr w.heap.size w.heap.size (fun c => f c || (decide (a ≤ c) && decide (c.toNat < k))) ∧ SetAt wr w.heap.size (w.heap.size + 1) (fun _ => false) ∧ PrAt wr base g p k5 o ∧ Chg (fun k => k = g) w wr) := ⟨h1, h2, h3, h4⟩
        clear h1 h2 h3 h4 HW5
        have hb256 := UInt8.toNat_lt b
        by_cases hlt : k ≤ b.toNat
        · have z2 : (k : Int) ≤ (b.toNat : Int) := by omega
          have z3 : (k : Int) < 256 := by omega
          obtain ⟨v, hv⟩ : ∃ v, (setA (fun c => f c || (decide (a ≤ c) && decide (c.toNat < k)))).toList[k]? = some v := ⟨_, setA_get _ k (by omega)⟩
          have d0 := HR.out.1.cell hv
          have f0 := HR.out.1.frozen k
          have HN : Hid (SetAt (wr.setCell ⟨w.heap.size, k, none⟩ (.bool true)) w.heap.size w.heap.size (fun c => f c || (decide (a ≤ c) && decide (c.toNat < k + 1))) ∧ SetAt (wr.setCell ⟨w.heap.size, k, none⟩ (.bool true)) w.heap.size (w.heap.size + 1) (fun _ => false) ∧ PrAt (wr.setCell ⟨w.heap.size, k, none⟩ (.bool true)) base g p k5 o ∧ Chg (fun k => k = g) w (wr.setCell ⟨w.heap.size, k, none⟩ (.bool true))) := by
            refine ⟨?_, BoxAt.beside HR.out.2.1 (by omega) k _, BoxAt.beside HR.out.2.2.1 (by omega) k _, HR.out.2.2.2.absorb (Chg.of_set wr w.heap.size k _ (S := fun q => q = w.heap.size) rfl) (fun j q => .inr (by omega))⟩
            have h5 := HR.out.1.set k (.bool true)
            rw [setA_set _ k true (by omega)] at h5
            have hn : (UInt8.ofNat k).toNat = k := by rw [UInt8.toNat_ofNat']; omega
            refine SetAt.ext h5 (fun c => ?_)
            by_cases hc : c = UInt8.ofNat k
            · have h6 : a ≤ c := UInt8.le_iff_toNat_le.2 (by rw [hc, hn]; exact hk0)
              rw [if_pos hc, decide_eq_true h6, decide_eq_true (show c.toNat < k + 1 by rw [hc, hn]; omega)]; simp
            · rw [if_neg hc]
              have h6 : ¬ c.toNat = k := fun q => hc (UInt8.toNat_inj.1 (by rw [hn]; exact q))
              rw [show decide (c.toNat < k + 1) = decide (c.toNat < k) from decide_eq_decide.2 ⟨fun q => by omega, fun q => by omega⟩]
          clear hv HR
          go_wp2_with fail
          go_roundw
          case rel => exact ⟨k + 1, by omega, by omega, by go_num, HN.out.1, HN.out.2.1, HN.out.2.2.1, HN.out.2.2.2⟩
          case measure => simp [intOf]; omega
        · obtain rfl : k = b.toNat + 1 := by omega
          have z2 : ¬ ((b.toNat : Int) + 1) ≤ (b.toNat : Int) := by omega
          have h0 := SetAt.heap (SetAt.ext HR.out.1 (f' := wider f a b) (fun c => by
            unfold wider
            rw [show decide (c.toNat < b.toNat + 1) = decide (c ≤ b) from decide_eq_decide.2 ⟨fun q => UInt8.le_iff_toNat_le.2 (by omega), fun q => by have := UInt8.le_iff_toNat_le.1 q; omega⟩]))
          have h1 := SetAt.heap HR.out.2.1
          have HC : Hid (Chg (fun k => k = g) w (wr.setRow (w.heap.size + 1) (setA (wider f a b))) ∧ PrAt (wr.setRow (w.heap.size + 1) (setA (wider f a b))) base g p k5 o) := by
            have hc := chg_setRow wr (w.heap.size + 1) (setA (wider f a b))
            exact ⟨HR.out.2.2.2.absorb hc (fun j q => .inr (by omega)), BoxAt.chg HR.out.2.2.1 hc (by omega)⟩
          have hi : (Try.prog.info? 102).map (·.size) = some 256 := (zero_of_info info_set).2
          clear HR
          go_upto_region 12 with fail
          apply wp_region_list
          refine wpList_load_row rfl 102 _ rfl w.heap.size rfl 102 (setA (wider f a b)) (0, 0) _ h0 Try.underlying102 rfl (by rw [setA_size]; exact hi) ?_
          refine wpList_store_row rfl 102 _ _ rfl (w.heap.size + 1) (setA (wider f a b)) rfl rfl 102 (setA (fun _ => false)) h1 (by rw [setA_size]; exact hi) (by rw [setA_size, setA_size]) (setA_one _) ?_
          have hr := setRow_heap _ _ _ (setA (wider f a b)) _ _ h1
          obtain ⟨W2, hW2⟩ : ∃ W2, W2 = wr.setRow (w.heap.size + 1) (setA (wider f a b)) := ⟨_, rfl⟩
          rw [← hW2] at HC hr ⊢
          clear hW2 h0 h1
          apply wpList_nil
          go_wp2_with fail
          refine bodyPost_ret (v := .agg (setA (wider f a b))) (results_cell_row rfl _ _ (w.heap.size + 1) _ _ _ _ rfl hr Try.underlying102 rfl (by rw [setA_size]; exact hi)) rfl ⟨HC.out.1, .inl ⟨a, b, k5, HI2.out.2, rfl, HC.out.2⟩⟩
  case inr =>
    clear HK1 hk1p
    go_wp2_with fail
    go_loopw [8] (fun bv wr => ∃ (k : Nat), a.toNat ≤ k ∧ k ≤ a.toNat + 1 ∧ bv = .int .i64 k ∧ SetAt wr w.heap.size w.heap.size (fun c => f c || (decide (a ≤ c) && decide (c.toNat < k))) ∧ SetAt wr w.heap.size (w.heap.size + 1) (fun _ => false) ∧ PrAt wr base g p k5 o ∧ Chg (fun k => k = g) w wr) (fun bv _ => 256 - (intOf bv).toNat)
    case atStart =>
      refine ⟨a.toNat, Nat.le_refl _, by omega, congrArg (Value.int .i64) (wrap64_u8 a), SetAt.ext HW5.out.1 (fun c => ?_), HW5.out.2.1, HI2.out.1, HW5.out.2.2⟩
      by_cases q : a ≤ c
      · have := UInt8.le_iff_toNat_le.1 q
        rw [decide_eq_false (show ¬ c.toNat < a.toNat by omega)]; simp
      · rw [decide_eq_false q]; simp
    case round =>
      obtain ⟨k, hk0, hk1, rfl, h1, h2, h3, h4⟩ := hrel
      have HR : Hid (SetAt wr w.heap.size w.heap.size (fun c => f c || (decide (a ≤ c) && decide (c.toNat < k))) ∧ SetAt wr w.heap.size (w.heap.size + 1) (fun _ => false) ∧ PrAt wr base g p k5 o ∧ Chg (fun k => k = g) w wr) := ⟨h1, h2, h3, h4⟩
      clear h1 h2 h3 h4 HW5
      have hb256 := UInt8.toNat_lt a
      by_cases hlt : k ≤ a.toNat
      · have z2 : (k : Int) ≤ (a.toNat : Int) := by omega
        have z3 : (k : Int) < 256 := by omega
        obtain ⟨v, hv⟩ : ∃ v, (setA (fun c => f c || (decide (a ≤ c) && decide (c.toNat < k)))).toList[k]? = some v := ⟨_, setA_get _ k (by omega)⟩
        have d0 := HR.out.1.cell hv
        have f0 := HR.out.1.frozen k
        have HN : Hid (SetAt (wr.setCell ⟨w.heap.size, k, none⟩ (.bool true)) w.heap.size w.heap.size (fun c => f c || (decide (a ≤ c) && decide (c.toNat < k + 1))) ∧ SetAt (wr.setCell ⟨w.heap.size, k, none⟩ (.bool true)) w.heap.size (w.heap.size + 1) (fun _ => false) ∧ PrAt (wr.setCell ⟨w.heap.size, k, none⟩ (.bool true)) base g p k5 o ∧ Chg (fun k => k = g) w (wr.setCell ⟨w.heap.size, k, none⟩ (.bool true))) := by
          refine ⟨?_, BoxAt.beside HR.out.2.1 (by omega) k _, BoxAt.beside HR.out.2.2.1 (by omega) k _, HR.out.2.2.2.absorb (Chg.of_set wr w.heap.size k _ (S := fun q => q = w.heap.size) rfl) (fun j q => .inr (by omega))⟩
          have h5 := HR.out.1.set k (.bool true)
          rw [setA_set _ k true (by omega)] at h5
          have hn : (UInt8.ofNat k).toNat = k := by rw [UInt8.toNat_ofNat']; omega
          refine SetAt.ext h5 (fun c => ?_)
          by_cases hc : c = UInt8.ofNat k
          · have h6 : a ≤ c := UInt8.le_iff_toNat_le.2 (by rw [hc, hn]; exact hk0)
            rw [if_pos hc, decide_eq_true h6, decide_eq_true (show c.toNat < k + 1 by rw [hc, hn]; omega)]; simp
          · rw [if_neg hc]
            have h6 : ¬ c.toNat = k := fun q => hc (UInt8.toNat_inj.1 (by rw [hn]; exact q))
            rw [show decide (c.toNat < k + 1) = decide (c.toNat < k) from decide_eq_decide.2 ⟨fun q => by omega, fun q => by omega⟩]
        clear hv HR
        go_wp2_with fail
        go_roundw
        case rel => exact ⟨k + 1, by omega, by omega, by go_num, HN.out.1, HN.out.2.1, HN.out.2.2.1, HN.out.2.2.2⟩
        case measure => simp [intOf]; omega
      · obtain rfl : k = a.toNat + 1 := by omega
        have z2 : ¬ ((a.toNat : Int) + 1) ≤ (a.toNat : Int) := by omega
        have h0 := SetAt.heap (SetAt.ext HR.out.1 (f' := wider f a a) (fun c => by
          unfold wider
          rw [show decide (c.toNat < a.toNat + 1) = decide (c ≤ a) from decide_eq_decide.2 ⟨fun q => UInt8.le_iff_toNat_le.2 (by omega), fun q => by have := UInt8.le_iff_toNat_le.1 q; omega⟩]))
        have h1 := SetAt.heap HR.out.2.1
        have HC : Hid (Chg (fun k => k = g) w (wr.setRow (w.heap.size + 1) (setA (wider f a a))) ∧ PrAt (wr.setRow (w.heap.size + 1) (setA (wider f a a))) base g p k5 o) := by
          have hc := chg_setRow wr (w.heap.size + 1) (setA (wider f a a))
          exact ⟨HR.out.2.2.2.absorb hc (fun j q => .inr (by omega)), BoxAt.chg HR.out.2.2.1 hc (by omega)⟩
        have hi : (Try.prog.info? 102).map (·.size) = some 256 := (zero_of_info info_set).2
        clear HR
        go_upto_region 12 with fail
        apply wp_region_list
        refine wpList_load_row rfl 102 _ rfl w.heap.size rfl 102 (setA (wider f a a)) (0, 0) _ h0 Try.underlying102 rfl (by rw [setA_size]; exact hi) ?_
        refine wpList_store_row rfl 102 _ _ rfl (w.heap.size + 1) (setA (wider f a a)) rfl rfl 102 (setA (fun _ => false)) h1 (by rw [setA_size]; exact hi) (by rw [setA_size, setA_size]) (setA_one _) ?_
        have hr := setRow_heap _ _ _ (setA (wider f a a)) _ _ h1
        obtain ⟨W2, hW2⟩ : ∃ W2, W2 = wr.setRow (w.heap.size + 1) (setA (wider f a a)) := ⟨_, rfl⟩
        rw [← hW2] at HC hr ⊢
        clear hW2 h0 h1
        apply wpList_nil
        go_wp2_with fail
        refine bodyPost_ret (v := .agg (setA (wider f a a))) (results_cell_row rfl _ _ (w.heap.size + 1) _ _ _ _ rfl hr Try.underlying102 rfl (by rw [setA_size]; exact hi)) rfl ⟨HC.out.1, .inl ⟨a, a, k5, HI2.out.2, rfl, HC.out.2⟩⟩
end Go.Proofs.Ytnncedndlhfdkaa

/-
  (*impl.patternReader).class.
-/
namespace Go.Proofs.Ytnncedndlhfdkaa
open Go.ChangeShapes Go.WideShapes Go.ChangeAt Go.RowKit Go.Deep
set_option linter.unusedVariables false
set_option linter.unusedSimpArgs false
set_option maxRecDepth 100000

theorem cls_first {p : List UInt8} {j : Nat} {f : UInt8 → Bool} (hj : j ≤ p.length) : clsM p j false f = match itemM p j with | .inr e => .inr e | .inl (a, b, k) => clsM p k true (wider f a b) := by
  by_cases h : j < p.length
  · rw [clsM, dif_pos h, if_neg (by simp)]
    split <;> (next hc => (rw [hc]; first | done | rfl))
  · rw [clsM, dif_neg h]
    have h0 : j = p.length := by omega
    have : itemM p j = .inr (2, p.length) := by
      unfold itemM
      rw [chM_end (List.getElem?_eq_none (by omega)), h0]
    rw [this]
theorem cls_shut {p : List UInt8} {j : Nat} {f : UInt8 → Bool} (h : p[j]? = some 93) : clsM p j true f = .inl (f, j + 1) := by
  rw [clsM, dif_pos (lt_of_at h), if_pos ⟨h, rfl⟩]
theorem cls_more {p : List UInt8} {j : Nat} {f : UInt8 → Bool} (hj : j ≤ p.length) (h : ¬ p[j]? = some 93) : clsM p j true f = match itemM p j with | .inr e => .inr e | .inl (a, b, k) => clsM p k true (wider f a b) := by
  by_cases h1 : j < p.length
  · rw [clsM, dif_pos h1, if_neg (fun q => h q.1)]
    split <;> (next hc => (rw [hc]; first | done | rfl))
  · rw [clsM, dif_neg h1]
    have h0 : j = p.length := by omega
    have : itemM p j = .inr (2, p.length) := by
      unfold itemM
      rw [chM_end (List.getElem?_eq_none (by omega)), h0]
    rw [this]
noncomputable abbrev clsV (f : UInt8 → Bool) : Value := .iface 105 (.agg (setA f))
theorem info_cls : (Try.prog.info? 105).map (fun i => (i.zero, i.size)) = some (some (.agg (Array.replicate 256 (.bool false))), 256) := by kernel_rfl
theorem places_cls : (match Try.prog.underlying 105 with | some (.struct fs) => fs.toList.mapM (fun f => (Try.prog.info? f.type).map fun i => (f.offset, i.size)) | _ => none) = some [(0, 256)] := by kernel_rfl
theorem built_set : Try.prog.built 102 [] = some (setA (fun _ => false)) := by rw [setA_none]; kernel_rfl
theorem fold_fillP : ∀ (l : List Value) (k : Nat) (z : List Value), k + l.length ≤ z.length → (l.zipIdx k).foldl (fun (cs : Array Value) (p : Value × Nat) => cs.setIfInBounds (0 + p.2) p.1) z.toArray = (z.take k ++ l ++ z.drop (k + l.length)).toArray
  | [], k, z, h => by simp
  | x :: l, k, z, h => by
    simp only [List.zipIdx_cons, List.foldl_cons, Nat.zero_add, List.setIfInBounds_toArray]
    have h2 := fold_fillP l (k + 1) (z.set k x) (by simp at h ⊢; omega)
    simp only [Nat.zero_add] at h2
    rw [h2]
    congr 1
    have hk : k < z.length := by simp at h; omega
    rw [List.take_add_one, List.take_set_of_le (Nat.le_refl _), List.getElem?_set_self hk]
    have h3 : (z.set k x).drop (k + 1 + l.length) = z.drop (k + (x :: l).length) := by
      rw [List.drop_set_of_lt (by omega)]
      congr 1
      simp; omega
    rw [h3]
    simp
theorem built_cls (c : Array Value) (hc : c.size = 256) : Try.prog.built 105 [(0, .agg c)] = some c := by
  have hp := places_cls
  cases hi : Try.prog.info? 105 with
  | none => have := info_cls; rw [hi] at this; cases this
  | some it =>
    have h1 := info_cls
    rw [hi] at h1
    simp only [Option.map_some, Option.some.injEq, Prod.mk.injEq] at h1
    cases hu : Try.prog.underlying 105 with
    | none => rw [hu] at hp; cases hp
    | some d =>
      rw [hu] at hp
      cases d <;> try (cases hp; done)
      case struct fs =>
        simp only [] at hp
        unfold Program.built
        rw [hi, hu]
        simp only []
        rw [h1.1, hp]
        simp only []
        show Instr.fill _ (Array.replicate 256 (.bool false)) [(0, .agg c)] = _
        unfold Instr.fill
        have hv : (Value.agg c).cells = c := rfl
        simp only [List.getElem?_toArray, List.getElem?_cons_zero, hv, hc]
        have hz : (Array.replicate 256 (Value.bool false)).size = 256 := by simp
        rw [if_neg (by simp [hz])]
        unfold Instr.fill
        congr 1
        have h3 := fold_fillP c.toList 0 (Array.replicate 256 (Value.bool false)).toList (by simp [hc])
        rw [← Array.foldl_toList, Array.toList_zipIdx]
        have h4 : (Array.replicate 256 (Value.bool false)).toList.toArray = Array.replicate 256 (Value.bool false) := Array.toArray_toList
        rw [h4] at h3
        refine Eq.trans h3 ?_
        have h5 : (Array.replicate 256 (Value.bool false)).toList.drop (0 + c.toList.length) = [] := by
          simp [hc]
        rw [h5]
        apply Array.ext'
        simp

theorem wpList_build_cells {ops : Array Oper} {rest : List Oper} {o : Oper} {a : Act} {w : World} {Q : Exit → Act → World → Prop} (hg : o.guard = none) (t : TypeId) (parts : Array (Nat × Operand)) (ho : o.op = .build t parts) (cells : Array Value)
    (hb : Try.prog.built t (parts.map fun (i, x) => (i, a.eval x)).toList = some cells) (h : wpList Try.prog ops Q rest (a.put o.dst (.agg cells)) w) : wpList Try.prog ops Q (o :: rest) a w := by
  refine wpList_build hg t parts ho (by rw [hb]; rfl) ?_
  rw [hb]
  exact h
theorem wpList_call_of {ops : Array Oper} {rest : List Oper} {o : Oper} {a : Act} {w : World} {Q : Exit → Act → World → Prop} (hgd : o.guard = none) (F : FuncId) (vals : Array Value) (hrun : (execOp a.eval o).run Try.prog w = .ok (.enter F vals) w)
    (h : Calls Try.prog F vals w fun e w' => match e with | .returned v => wpList Try.prog ops Q rest (a.put o.dst v) w' | .panicked chain => Q (.panic chain) a w' | .outgrown => False) : wpList Try.prog ops Q (o :: rest) a w := by
  refine wpList_plain hgd fun K hK => ?_
  unfold Oper.wp
  rw [hrun, Oper.upon_enter]
  refine h.mono ?_
  intro e w' he
  cases e with
  | returned v => exact hK _ _ he
  | panicked chain => exact he
  | outgrown => exact he.elim
theorem wpList_moveS {ops : Array Oper} {rest : List Oper} {o : Oper} {a : Act} {w : World} {Q : Exit → Act → World → Prop} (hg : o.guard = none) (x : Operand) (ho : o.op = .move x) (h : wpList Try.prog ops Q rest (a.put o.dst (a.eval x)) w) : wpList Try.prog ops Q (o :: rest) a w := by
  refine wpList_plain hg fun K hK => ?_
  unfold Oper.wp execOp
  simp only [ho, Sem.run_pure]
  exact hK _ _ h
/-- What a class comes to, seen from within. -/
def ClsEq (p : List UInt8) (i : Nat) (ng : Bool) (k : Nat) (b : Bool) (f : UInt8 → Bool) : Prop := classM p i = (match clsM p k b f with | .inl (f, k) => .inl ((if ng = true then fun c => !f c else f), k) | .inr e => .inr e)
theorem ClsEq.eq {p : List UInt8} {i : Nat} {ng : Bool} {k : Nat} {b : Bool} {f : UInt8 → Bool} (h : ClsEq p i ng k b f) : classM p i = (match clsM p k b f with | .inl (f, k) => .inl ((if ng = true then fun c => !f c else f), k) | .inr e => .inr e) := h
/-- The place at which a reader stands. -/
def atOf (w : World) (g : Nat) : Nat := match w.cell? ⟨g, 1, none⟩ with | some v => (intOf v).toNat | none => 0
theorem atOf_pr {w : World} {base g i o : Nat} {p : ByteArray} (h : PrAt w base g p i o) : atOf w g = i := by
  unfold atOf; rw [h.cell (j := 1) rfl]; simp [intOf]

set_option maxHeartbeats 8000000 in
theorem class_core {base g i o : Nat} {p : ByteArray} {w : World} (h : PrAt w base g p i o) (hp : p.size ≤ 200) (hi : i ≤ p.size) :
    Calls Try.prog 62 #[.pointer (some ⟨g, 0, none⟩)] w fun e w' => Chg (fun k => k = g) w w' ∧
      ((∃ (f : UInt8 → Bool) (k : Nat), classM (sb p) i = .inl (f, k) ∧ e = .returned (clsV f) ∧ PrAt w' base g p k o) ∨ (∃ (c : Int) (k : Nat), classM (sb p) i = .inr (c, k) ∧ e = Pf c k)) := by
  have hgl := h.lt.2
  have HP : Hid (PrAt w base g p i o) := h
  clear h
  go_enter Try.func62, Try.ntmps62
  go_wp2_with fail
  refine (pskip_core 94 HP.out hp).mono ?_
  rintro e w1 ⟨hC1, h1⟩
  obtain ⟨ng, j, rfl, hj, hP1, hM⟩ : ∃ (ng : Bool) (j : Nat), e = .returned (.bool ng) ∧ j ≤ p.size ∧ PrAt w1 base g p j o ∧ ClsEq (sb p) i ng j false (fun _ => false) := by
    rcases h1 with ⟨hx, rfl, hP⟩ | ⟨hx, rfl, hP⟩
    · refine ⟨true, i + 1, rfl, by have := (List.getElem?_eq_some_iff.1 hx).1; rw [sb_len] at this; omega, hP, ?_⟩
      unfold ClsEq classM; rw [if_pos hx]; rfl
    · refine ⟨false, i, rfl, hi, hP, ?_⟩
      unfold ClsEq classM; rw [if_neg hx]
      generalize clsM (sb p) i false (fun _ => false) = r
      cases r <;> rfl
  have HW1 : Hid (PrAt w1 base g p j o ∧ Chg (fun k => k = g) w w1 ∧ ClsEq (sb p) i ng j false (fun _ => false)) := ⟨hP1, hC1, hM⟩
  clear h1 hC1 hP1 hM HP
  go_upto_region 2 with fail
  apply wp_region_list
  refine wpList_moveS rfl _ rfl ?_
  refine wpList_build_cells rfl _ _ rfl (setA (fun _ => false)) (by simp; exact built_set) ?_
  simp only [Act.put, Act.eval, List.setIfInBounds_toArray, List.set_cons_succ, List.set_cons_zero]
  refine wpList_call_of rfl 64 #[.pointer (some ⟨g, 0, none⟩), .agg (setA (fun _ => false))] (by simp [execOp, go_sem, Act.eval, Try.func64]) ?_
  refine (item_core (fun _ => false) HW1.out.1 hp hj).mono ?_
  rintro e w2 ⟨hC2, (⟨a, b, k, hk, rfl, hP2⟩ | ⟨c, k, hk, rfl⟩)⟩
  case inr =>
    refine ⟨rfl, HW1.out.2.1.trans hC2, .inr ⟨c, k, ?_, rfl⟩⟩
    rw [HW1.out.2.2.eq, cls_first (by rw [sb_len]; exact hj), hk]
  obtain ⟨fs, hfs⟩ : ∃ fs, fs = wider (fun _ => false) a b := ⟨_, rfl⟩
  have hkp : k ≤ p.size := by have := (itemM_gt hk).2.1; rw [sb_len] at this; exact this
  have HW2 : Hid (PrAt w2 base g p k o ∧ Chg (fun k => k = g) w w2 ∧ ClsEq (sb p) i ng k true fs) := by
    refine ⟨hP2, HW1.out.2.1.trans hC2, ?_⟩
    unfold ClsEq
    rw [HW1.out.2.2.eq, cls_first (by rw [sb_len]; exact hj), hk, hfs]
  rw [← hfs]
  clear hC2 hk hP2 HW1 hfs
  simp only [Act.put, List.setIfInBounds_toArray, List.set_cons_succ, List.set_cons_zero]
  have hs2 := HW2.out.2.1.size
  have hzv := (zero_of_info info_set).1
  have hsz := setA_size fs
  have hsc := run_storeCells_new (P := Try.prog) w2 102 (Array.replicate 256 (.bool false)) (setA fs) (by rw [setA_size]; exact (zero_of_info info_set).2) (by rw [setA_size]; simp) (setA_one fs)
  obtain ⟨W3, hW3⟩ : ∃ W3, W3 = w2.alloc (.cells (setA fs) 102) := ⟨_, rfl⟩
  have HW3 : Hid (PrAt W3 base g p k o ∧ Chg (fun k => k = g) w W3 ∧ SetAt W3 w.heap.size w2.heap.size fs ∧ w.heap.size ≤ w2.heap.size) := by
    rw [hW3]
    have hb : Below w2.heap.size w2 (w2.alloc (.cells (setA fs) 102)) := (Below.refl _ _).alloc (Nat.le_refl _) _
    exact ⟨BoxAt.below HW2.out.1 hb, HW2.out.2.1.trans (Chg.of_below hb), BoxAt.ofHeap (heap_alloc_last w2 _) hs2 (setA_size fs), hs2⟩
  have HM : Hid (ClsEq (sb p) i ng k true fs) := HW2.out.2.2
  go_wp2_with fail
  rw [← hW3]
  obtain ⟨SB, hSB⟩ : ∃ SB, SB = w2.heap.size := ⟨_, rfl⟩
  rw [← hSB] at HW3
  rw [← hSB]
  have hsbl : w.heap.size ≤ SB := by omega
  clear hW3 hsc hzv hsz HW2 hSB hs2
  have hgsb : ¬ g = SB := by omega
  go_loopw [] (fun wr => ∃ (k : Nat) (f : UInt8 → Bool), k ≤ p.size ∧ PrAt wr base g p k o ∧ Chg (fun k => k = g) w wr ∧ SetAt wr w.heap.size SB f ∧ ClsEq (sb p) i ng k true f) (fun wr => p.size - atOf wr g)
  case atStart => exact ⟨k, fs, hkp, HW3.out.1, HW3.out.2.1, HW3.out.2.2.1, HM.out⟩
  case round =>
    clear HW3 HM
    obtain ⟨k, f, hk, h1, h2, h3, h4⟩ := hrel
    have HR : Hid (PrAt wr base g p k o ∧ Chg (fun k => k = g) w wr ∧ SetAt wr w.heap.size SB f ∧ ClsEq (sb p) i ng k true f) := ⟨h1, h2, h3, h4⟩
    have HA : Hid (atOf wr g = k) := atOf_pr h1
    clear h1 h2 h3 h4 hkp
    go_wp2_with fail
    refine (pskip_core 93 HR.out.1 hp).mono ?_
    rintro e w5 ⟨hC5, (⟨hx, rfl, hP5⟩ | ⟨hx, rfl, hP5⟩)⟩
    · -- the class ends
      have HF : Hid (PrAt w5 base g p (k + 1) o ∧ Chg (fun k => k = g) w w5 ∧ SetAt w5 w.heap.size SB f ∧ classM (sb p) i = .inl ((if ng = true then fun c => !f c else f), k + 1)) := by
        refine ⟨hP5, HR.out.2.1.trans hC5, BoxAt.chg HR.out.2.2.1 hC5 (by omega), ?_⟩
        rw [HR.out.2.2.2.eq, cls_shut hx]
      clear hC5 hx hP5 HR HA
      have hi2 : (Try.prog.info? 102).map (·.size) = some 256 := (zero_of_info info_set).2
      cases ng
      · have h0 := SetAt.heap HF.out.2.2.1
        go_upto_region 7 with fail
        apply wp_region_list
        refine wpList_load_row rfl 102 _ rfl SB rfl 102 (setA f) (0, 0) _ h0 Try.underlying102 rfl (by rw [setA_size]; exact hi2) ?_
        simp only [Act.put, Act.eval, List.setIfInBounds_toArray, List.set_cons_succ, List.set_cons_zero]
        refine wpList_build_cells rfl _ _ rfl (setA f) (by simp [Act.eval]; exact built_cls _ (setA_size f)) ?_
        simp only [Act.put, Act.eval, List.setIfInBounds_toArray, List.set_cons_succ, List.set_cons_zero]
        clear h0
        go_wp2_with fail
        go_ret
        exact ⟨HF.out.2.1, .inl ⟨f, k + 1, HF.out.2.2.2, rfl, HF.out.1⟩⟩
      · have h0 := SetAt.heap HF.out.2.2.1
        go_upto_region 6 with fail
        apply wp_region_list
        refine wpList_load_row rfl 102 _ rfl SB rfl 102 (setA f) (0, 0) _ h0 Try.underlying102 rfl (by rw [setA_size]; exact hi2) ?_
        simp only [Act.put, Act.eval, List.setIfInBounds_toArray, List.set_cons_succ, List.set_cons_zero]
        refine wpList_call_of rfl 60 #[.agg (setA f)] (by simp [execOp, go_sem, Act.eval, Try.func60]) ?_
        refine (opposite_core f w5).mono ?_
        rintro e w6 ⟨rfl, hb6⟩
        simp only [Act.put, Act.eval, List.setIfInBounds_toArray, List.set_cons_succ, List.set_cons_zero]
        have HF6 : Hid (PrAt w6 base g p (k + 1) o ∧ Chg (fun k => k = g) w w6 ∧ SetAt w6 w.heap.size SB f) := ⟨BoxAt.below HF.out.1 hb6, HF.out.2.1.trans (Chg.of_below hb6), BoxAt.below HF.out.2.2.1 hb6⟩
        have h6 := SetAt.heap HF6.out.2.2
        refine wpList_store_row rfl 102 _ _ rfl SB (setA (fun c => !f c)) rfl rfl 102 (setA f) h6 (by rw [setA_size]; exact hi2) (by rw [setA_size, setA_size]) (setA_one _) ?_
        have h7 := setRow_heap _ _ _ (setA (fun c => !f c)) _ _ h6
        obtain ⟨W7, hW7⟩ : ∃ W7, W7 = w6.setRow SB (setA (fun c => !f c)) := ⟨_, rfl⟩
        have HF7 : Hid (PrAt W7 base g p (k + 1) o ∧ Chg (fun k => k = g) w W7) := by
          have hc := chg_setRow w6 SB (setA (fun c => !f c))
          rw [hW7]
          exact ⟨BoxAt.chg HF6.out.1 hc (by omega), HF6.out.2.1.absorb hc (fun j q => .inr (by omega))⟩
        rw [← hW7] at h7 ⊢
        clear hW7 h6 h0 hb6
        apply wpList_nil
        go_upto_region 7 with fail
        apply wp_region_list
        refine wpList_load_row rfl 102 _ rfl SB rfl 102 (setA (fun c => !f c)) (0, 0) _ h7 Try.underlying102 rfl (by rw [setA_size]; exact hi2) ?_
        simp only [Act.put, Act.eval, List.setIfInBounds_toArray, List.set_cons_succ, List.set_cons_zero]
        refine wpList_build_cells rfl _ _ rfl (setA (fun c => !f c)) (by simp [Act.eval]; exact built_cls _ (setA_size _)) ?_
        simp only [Act.put, Act.eval, List.setIfInBounds_toArray, List.set_cons_succ, List.set_cons_zero]
        clear h7
        go_wp2_with fail
        go_ret
        exact ⟨HF7.out.2, .inl ⟨fun c => !f c, k + 1, HF.out.2.2.2, rfl, HF7.out.1⟩⟩
    · have HF : Hid (PrAt w5 base g p k o ∧ Chg (fun k => k = g) w w5 ∧ SetAt w5 w.heap.size SB f ∧ ¬ (sb p)[k]? = some 93) := ⟨hP5, HR.out.2.1.trans hC5, BoxAt.chg HR.out.2.2.1 hC5 (by omega), hx⟩
      have HM : Hid (ClsEq (sb p) i ng k true f) := HR.out.2.2.2
      clear hC5 hx hP5 HR
      have hi2 : (Try.prog.info? 102).map (·.size) = some 256 := (zero_of_info info_set).2
      have h0 := SetAt.heap HF.out.2.2.1
      go_upto_region 4 with fail
      apply wp_region_list
      refine wpList_moveS rfl _ rfl ?_
      refine wpList_load_row rfl 102 _ rfl SB rfl 102 (setA f) (0, 0) _ h0 Try.underlying102 rfl (by rw [setA_size]; exact hi2) ?_
      simp only [Act.put, Act.eval, List.setIfInBounds_toArray, List.set_cons_succ, List.set_cons_zero]
      refine wpList_call_of rfl 64 #[.pointer (some ⟨g, 0, none⟩), .agg (setA f)] (by simp [execOp, go_sem, Act.eval, Try.func64]) ?_
      refine (item_core f HF.out.1 hp hk).mono ?_
      rintro e w6 ⟨hC6, (⟨a, b, k6, hk6, rfl, hP6⟩ | ⟨c, k6, hk6, rfl⟩)⟩
      case inr =>
        refine ⟨rfl, HF.out.2.1.trans hC6, .inr ⟨c, k6, ?_, rfl⟩⟩
        rw [HM.out.eq, cls_more (by rw [sb_len]; exact hk) HF.out.2.2.2, hk6]
      have HF6 : Hid (PrAt w6 base g p k6 o ∧ Chg (fun k => k = g) w w6 ∧ SetAt w6 w.heap.size SB f) := ⟨hP6, HF.out.2.1.trans hC6, BoxAt.chg HF.out.2.2.1 hC6 (by omega)⟩
      have hgt := itemM_gt hk6
      rw [sb_len] at hgt
      have HM6 : Hid (ClsEq (sb p) i ng k6 true (wider f a b)) := by
        show ClsEq _ _ _ _ _ _
        unfold ClsEq
        rw [HM.out.eq, cls_more (by rw [sb_len]; exact hk) HF.out.2.2.2, hk6]
      clear hC6 hk6 hP6 h0 HM HF
      simp only [Act.put, Act.eval, List.setIfInBounds_toArray, List.set_cons_succ, List.set_cons_zero]
      have h6 := SetAt.heap HF6.out.2.2
      refine wpList_store_row rfl 102 _ _ rfl SB (setA (wider f a b)) rfl rfl 102 (setA f) h6 (by rw [setA_size]; exact hi2) (by rw [setA_size, setA_size]) (setA_one _) ?_
      have h7 := setRow_heap _ _ _ (setA (wider f a b)) _ _ h6
      obtain ⟨W7, hW7⟩ : ∃ W7, W7 = w6.setRow SB (setA (wider f a b)) := ⟨_, rfl⟩
      have HF7 : Hid (PrAt W7 base g p k6 o ∧ Chg (fun k => k = g) w W7 ∧ SetAt W7 w.heap.size SB (wider f a b)) := by
        have hc := chg_setRow w6 SB (setA (wider f a b))
        rw [← hW7] at h7
        refine ⟨?_, ?_, BoxAt.ofHeap h7 hsbl (setA_size _)⟩
        · rw [hW7]; exact BoxAt.chg HF6.out.1 hc (by omega)
        · rw [hW7]; exact HF6.out.2.1.absorb hc (fun j q => .inr (by omega))
      rw [← hW7]
      clear hW7 h6 h7
      apply wpList_nil
      go_wp2_with fail
      go_roundw
      case rel =>
        exact ⟨_, _, _, _, _, _, ⟨k6, wider f a b, hgt.2.1, HF7.out.1, HF7.out.2.1, HF7.out.2.2, HM6.out⟩, rfl⟩
      case measure => rw [HA.out, atOf_pr HF7.out.1]; omega
end Go.Proofs.Ytnncedndlhfdkaa

/-
  spec.l4Ch, l4Op, l4Class, CheckRegex.
-/
namespace Go.Proofs.Ytnncedndlhfdkaa
open Go.ChangeShapes Go.WideShapes Go.ChangeAt Go.RowKit Go.Deep
set_option linter.unusedVariables false
set_option linter.unusedSimpArgs false
set_option maxRecDepth 100000

theorem ne_u8 {x c : UInt8} (h : ¬ x = c) : ¬ (x.toNat : Int) = (c.toNat : Int) := fun q => h (UInt8.toNat_inj.1 (by omega))
set_option maxHeartbeats 2000000 in
theorem l4Ch_core (p : ByteArray) (i : Nat) (w : World) (hp : p.size ≤ 200) (hi : i ≤ 300) (c : UInt8) (k : Nat) (b : Bool) (h : chM (sb p) i = (c, k, b)) :
    Calls Try.prog 43 #[.string p, .int .i64 (i : Int)] w fun e w' => e = .returned (.tuple #[.int .u8 (c.toNat : Int), .int .i64 (k : Int), .bool b]) ∧ w' = w := by
  have HM : Hid (chM (sb p) i = (c, k, b)) := h
  clear h
  by_cases hlt : i < p.size
  · obtain ⟨x, hx⟩ : ∃ x, (sb p)[i]? = some x := ⟨_, List.getElem?_eq_getElem (by rw [sb_len]; exact hlt)⟩
    obtain ⟨_, gx⟩ := sb_get hx
    have z1 : (i : Int) < (p.size : Int) := by omega
    have hle : ¬ p.size ≤ i := by omega
    have HX : Hid ((sb p)[i]? = some x) := hx
    clear hx
    by_cases hend : x = 93 ∨ x = 45
    · have HF : c = 0 ∧ k = i ∧ b = false := by
        have h1 : chM (sb p) i = (0, i, false) := by unfold chM; rw [HX.out]; simp only []; rw [if_pos hend]
        rw [HM.out] at h1
        simpa using h1
      obtain ⟨rfl, rfl, rfl⟩ := HF
      rcases hend with rfl | rfl
      all_goals go_enter Try.func43, Try.ntmps43
      all_goals go_wp2_with fail
      all_goals refine bodyPost_ret (v := .tuple #[.int .u8 0, .int .i64 (k : Int), .bool false]) (by simp [results, Try.results43, go_sem]) rfl ⟨rfl, rfl⟩
    have h93 : ((x.toNat : Int) == 93) = false := beq_eq_false_iff_ne.2 (ne_u8 (c := 93) (fun q => hend (.inl q)))
    have h45 : ((x.toNat : Int) == 45) = false := beq_eq_false_iff_ne.2 (ne_u8 (c := 45) (fun q => hend (.inr q)))
    by_cases h92 : x = 92
    · subst h92
      by_cases hl2 : i + 1 < p.size
      · obtain ⟨y, hy⟩ : ∃ y, (sb p)[i + 1]? = some y := ⟨_, List.getElem?_eq_getElem (by rw [sb_len]; exact hl2)⟩
        obtain ⟨_, gy⟩ := sb_get hy
        have HF : c = y ∧ k = i + 2 ∧ b = true := by
          have h1 : chM (sb p) i = (y, i + 2, true) := by rw [chM_esc HX.out, hy]
          rw [HM.out] at h1
          simpa using h1
        obtain ⟨rfl, rfl, rfl⟩ := HF
        have z2 : (i : Int) + 1 < (p.size : Int) := by omega
        clear hy
        go_enter Try.func43, Try.ntmps43
        go_wp2_with fail
        refine bodyPost_ret (v := .tuple #[.int .u8 (c.toNat : Int), .int .i64 ((i + 2 : Nat) : Int), .bool true]) (by simp [results, Try.results43, go_sem]) rfl ⟨rfl, rfl⟩
      · have HF : c = 0 ∧ k = i + 1 ∧ b = false := by
          have h1 : chM (sb p) i = (0, i + 1, false) := by rw [chM_esc HX.out, List.getElem?_eq_none (by rw [sb_len]; omega)]
          rw [HM.out] at h1
          simpa using h1
        obtain ⟨rfl, rfl, rfl⟩ := HF
        have z2 : ¬ (i : Int) + 1 < (p.size : Int) := by omega
        go_enter Try.func43, Try.ntmps43
        go_wp2_with fail
        refine bodyPost_ret (v := .tuple #[.int .u8 0, .int .i64 ((i + 1 : Nat) : Int), .bool false]) (by simp [results, Try.results43, go_sem]) rfl ⟨rfl, rfl⟩
    · have z92 : ((x.toNat : Int) == 92) = false := beq_eq_false_iff_ne.2 (ne_u8 (c := 92) h92)
      have HF : c = x ∧ k = i + 1 ∧ b = true := by
        have h1 : chM (sb p) i = (x, i + 1, true) := by unfold chM; rw [HX.out]; simp only []; rw [if_neg hend, if_neg h92]
        rw [HM.out] at h1
        simpa using h1
      obtain ⟨rfl, rfl, rfl⟩ := HF
      go_enter Try.func43, Try.ntmps43
      go_wp2_with fail
      refine bodyPost_ret (v := .tuple #[.int .u8 (c.toNat : Int), .int .i64 ((i + 1 : Nat) : Int), .bool true]) (by simp [results, Try.results43, go_sem]) rfl ⟨rfl, rfl⟩
  · have HF : c = 0 ∧ k = i ∧ b = false := by
      have h1 : chM (sb p) i = (0, i, false) := chM_end (List.getElem?_eq_none (by rw [sb_len]; omega))
      rw [HM.out] at h1
      simpa using h1
    obtain ⟨rfl, rfl, rfl⟩ := HF
    have z1 : ¬ (k : Int) < (p.size : Int) := by omega
    have z2 : (p.size : Int) ≤ (k : Int) := by omega
    go_enter Try.func43, Try.ntmps43
    go_wp2_with fail
    refine bodyPost_ret (v := .tuple #[.int .u8 0, .int .i64 (k : Int), .bool false]) (by simp [results, Try.results43, go_sem]) rfl ⟨rfl, rfl⟩

set_option maxHeartbeats 1000000 in
theorem l4Op_core (c : UInt8) (w : World) : Calls Try.prog 34 #[.int .u8 (c.toNat : Int)] w fun e w' => e = .returned (.bool (decide (isOp c))) ∧ w' = w := by
  by_cases h42 : c = 42
  · subst h42
    go_enter Try.func34, Try.ntmps34
    go_wp2_with fail
    go_ret
    exact ⟨rfl, rfl⟩
  by_cases h43 : c = 43
  · subst h43
    go_enter Try.func34, Try.ntmps34
    go_wp2_with fail
    go_ret
    exact ⟨rfl, rfl⟩
  by_cases h63 : c = 63
  · subst h63
    go_enter Try.func34, Try.ntmps34
    go_wp2_with fail
    go_ret
    exact ⟨rfl, rfl⟩
  have z1 : ((c.toNat : Int) == 42) = false := beq_eq_false_iff_ne.2 (ne_u8 (c := 42) h42)
  have z2 : ((c.toNat : Int) == 43) = false := beq_eq_false_iff_ne.2 (ne_u8 (c := 43) h43)
  have z3 : ((c.toNat : Int) == 63) = false := beq_eq_false_iff_ne.2 (ne_u8 (c := 63) h63)
  have H : Hid (decide (isOp c) = false) := decide_eq_false (fun q => q.elim h42 (fun q => q.elim h43 h63))
  go_enter Try.func34, Try.ntmps34
  go_wp2_with fail
  go_ret
  exact ⟨by rw [H.out]; (first | rfl | simp [z3]), rfl⟩
end Go.Proofs.Ytnncedndlhfdkaa

