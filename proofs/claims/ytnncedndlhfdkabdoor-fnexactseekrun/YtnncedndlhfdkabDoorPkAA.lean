import Derived.Test.YtnncedndlhfdkabDoorRows
import Derived.WalkKit
import Derived.ProofKit
import Derived.OpenShut
import Derived.ShutString
import Derived.ChangeOld
import Derived.Below
import Derived.WalkSpells
import Derived.WalkLawsBesides
import Derived.Outline
import Derived.Deep.Light
import Derived.Lib.SmallJoins
import Derived.OwnWalk
import Derived.Deep.MidRow
import Derived.Deep.DeepCutAuto
import Derived.Deep.RegionWith
import Derived.Maps.AppendAt
import Derived.Lib.ConvBytes
import Derived.Deep.QuietTactic
import Derived.BigQuiet

/-
  Entries by value: the contracts of szEntry, toEntry, spec.ValidEntry, impl.ValidEntry.
-/
namespace Go.Proofs.YtnncedndlhfdkabDoor
open Go.ChangeShapes Go.WideShapes Go.ChangeAt Go.RowKit
open Go.ChangeMaps (open_string shut_string)

/-- An entry as Lean has it. -/
structure Ent where
  row : ByteArray
  fam : ByteArray
  qual : ByteArray
  ts : Int
  kind : Int
  val : ByteArray

abbrev Ent.v (e : Ent) : Value := .agg #[.string e.row, .string e.fam, .string e.qual, .int .u64 e.ts, .int .i64 e.kind, .string e.val]
/-- It fits its types. -/
structure Ent.ok (e : Ent) : Prop where
  row : e.row.size ≤ maxLen
  fam : e.fam.size ≤ maxLen
  qual : e.qual.size ≤ maxLen
  val : e.val.size ≤ maxLen
  ts : (Lit.int .u64 e.ts).wf = true
  kind : (Lit.int .i64 e.kind).wf = true

def Ent.bulk (e : Ent) : Int := e.row.size + e.fam.size + e.qual.size + e.val.size

theorem ret_bool {a b : Bool} (h : a = b) : Ending.returned (.bool a) = .returned (.bool b) := by rw [h]

theorem isE (v : ByteArray) : v.toList.isEmpty = decide (v.size = 0) := by
  rw [ByteArray.toList_eq, Bool.eq_iff_iff]
  simp [← ByteArray.size_data]

theorem orE (k : Int) (v : ByteArray) (h : ¬ k = 0) : (k == 0 || v.toList.isEmpty) = decide (v.size = 0) := by
  rw [isE]; simp [h]

def vE (r f q : ByteArray) (k : Int) (v : ByteArray) : Bool :=
  decide (1 ≤ r.size ∧ r.size ≤ 64 ∧ 1 ≤ f.size ∧ f.size ≤ 16 ∧ q.size ≤ 64 ∧ v.size ≤ 200 ∧ 0 ≤ k ∧ k ≤ 2 ∧ (k = 0 ∨ v.size = 0))

set_option maxHeartbeats 400000 in
theorem specValid_core (r f q v : ByteArray) (t k : Int) (w : World) (hr : r.size ≤ maxLen) (hf : f.size ≤ maxLen) (hq : q.size ≤ maxLen) (hv : v.size ≤ maxLen) :
    Calls Tryd.prog 24 #[.agg #[.string r, .string f, .string q, .int .u64 t, .int .i64 k, .string v]] w fun e w' =>
      e = .returned (.bool (vE r f q k v)) ∧ Below w.heap.size w w' := by
  unfold maxLen at hr hf hq hv
  go_enter Tryd.func24, Tryd.ntmps24
  go_wp2
  all_goals go_ret
  all_goals refine ⟨ret_bool ?_, (Below.refl _ _).alloc (Nat.le_refl _) _⟩
  all_goals unfold vE
  all_goals go_light
  all_goals first
    | (refine (decide_eq_true ?_).symm; omega)
    | (refine (decide_eq_false ?_).symm; omega)
    | (rw [orE _ _ ‹¬ k = 0›]; refine decide_eq_decide.2 ⟨fun h => ?_, fun h => ?_⟩ <;> omega)

set_option maxHeartbeats 400000 in
theorem implValid_core (r f q v : ByteArray) (t k : Int) (w : World) (hr : r.size ≤ maxLen) (hf : f.size ≤ maxLen) (hq : q.size ≤ maxLen) (hv : v.size ≤ maxLen) :
    Calls Tryd.prog 41 #[.agg #[.string r, .string f, .string q, .int .u64 t, .int .i64 k, .string v]] w fun e w' =>
      e = .returned (.bool (vE r f q k v)) ∧ Below w.heap.size w w' := by
  unfold maxLen at hr hf hq hv
  go_enter Tryd.func41, Tryd.ntmps41
  go_wp2
  all_goals go_ret
  all_goals refine ⟨ret_bool ?_, (Below.refl _ _).alloc (Nat.le_refl _) _⟩
  all_goals unfold vE
  all_goals go_light
  all_goals (try simp only [beq_iff_eq, beq_eq_false_iff_ne, ne_eq] at *)
  all_goals first
    | (refine (decide_eq_true ?_).symm; omega)
    | (refine (decide_eq_false ?_).symm; omega)
    | (rw [isE]; refine decide_eq_decide.2 ⟨fun h => ?_, fun h => ?_⟩ <;> omega)
end Go.Proofs.YtnncedndlhfdkabDoor

/-
  Arguments opened: an entry that can be read is six plain values.
-/
namespace Go.Proofs.YtnncedndlhfdkabDoor
open Go.ChangeShapes Go.WideShapes Go.ChangeAt Go.RowKit Go.Deep

theorem Tryd.cellsStr : Tryd.prog.cellsOf 9 = 1 := by kernel_rfl
theorem Tryd.cellsU64 : Tryd.prog.cellsOf 23 = 1 := by kernel_rfl
theorem Tryd.cellsI64 : Tryd.prog.cellsOf 2 = 1 := by kernel_rfl
theorem Tryd.cellsBool : Tryd.prog.cellsOf 4 = 1 := by kernel_rfl

theorem bcell {W w1 : World} (hb : Below W.heap.size W w1) : (∀ b o, b < W.heap.size → w1.cell? ⟨b, o, none⟩ = W.cell? ⟨b, o, none⟩) ∧ (∀ b o, b < W.heap.size → w1.frozen? ⟨b, o, none⟩ = W.frozen? ⟨b, o, none⟩) :=
  ⟨fun b o h => hb.cell (p := ⟨b, o, none⟩) h, fun b o h => hb.frozen (p := ⟨b, o, none⟩) h⟩

theorem list6 {α : Type} {cs : List α} (h : cs.length = 6) : ∃ c0 c1 c2 c3 c4 c5, cs = [c0, c1, c2, c3, c4, c5] := by
  match cs, h with
  | [c0, c1, c2, c3, c4, c5], _ => exact ⟨c0, c1, c2, c3, c4, c5, rfl⟩
theorem array6 {α : Type} {cs : Array α} (h : cs.size = 6) : ∃ c0 c1 c2 c3 c4 c5, cs = #[c0, c1, c2, c3, c4, c5] := by
  obtain ⟨l⟩ := cs
  obtain ⟨c0, c1, c2, c3, c4, c5, rfl⟩ := list6 h
  exact ⟨c0, c1, c2, c3, c4, c5, rfl⟩

end Go.Proofs.YtnncedndlhfdkabDoor

/-
  Entries in memory, one behind another.
-/
namespace Go.Proofs.YtnncedndlhfdkabDoor
open Go.ChangeShapes Go.WideShapes Go.ChangeAt Go.RowKit Go.Deep
set_option linter.unusedVariables false

abbrev Ent.cells (e : Ent) : List Value := [.string e.row, .string e.fam, .string e.qual, .int .u64 e.ts, .int .i64 e.kind, .string e.val]
def cellsE (es : List Ent) : List Value := es.flatMap Ent.cells
theorem cellsE_nil : cellsE [] = [] := rfl
theorem cellsE_cons (e : Ent) (es : List Ent) : cellsE (e :: es) = e.cells ++ cellsE es := by simp [cellsE]
theorem cellsE_append (es fs : List Ent) : cellsE (es ++ fs) = cellsE es ++ cellsE fs := by simp [cellsE]
theorem length_cellsE (es : List Ent) : (cellsE es).length = es.length * 6 := by
  induction es with
  | nil => rfl
  | cons e es ih => rw [cellsE_cons, List.length_append, ih]; simp; omega
theorem cellsE_get (es : List Ent) : ∀ (k : Nat) (e : Ent), es[k]? = some e → ∀ j, j < 6 → (cellsE es)[k * 6 + j]? = e.cells[j]? := by
  induction es with
  | nil => intro k e h; simp at h
  | cons f es ih =>
    intro k e h j hj
    rw [cellsE_cons]
    cases k with
    | zero =>
      simp at h; subst h
      rw [List.getElem?_append_left (by show 0 * 6 + j < 6; omega)]
      simp
    | succ k =>
      simp at h
      rw [List.getElem?_append_right (by show 6 ≤ (k + 1) * 6 + j; omega)]
      have : (k + 1) * 6 + j - f.cells.length = k * 6 + j := by show (k + 1) * 6 + j - 6 = _; omega
      rw [this]; exact ih k e h j hj
theorem cellsE_set (es : List Ent) : ∀ (k : Nat) (e e' : Ent) (u : Value) (j : Nat), es[k]? = some e → j < 6 → e'.cells = e.cells.set j u → (cellsE es).set (k * 6 + j) u = cellsE (es.set k e') := by
  induction es with
  | nil => intro k e e' u j h; simp at h
  | cons f es ih =>
    intro k e e' u j h hj hc
    rw [cellsE_cons]
    cases k with
    | zero =>
      simp at h; subst h
      rw [List.set_append_left _ _ (by show 0 * 6 + j < 6; omega), List.set_cons_zero, cellsE_cons, hc]
      simp
    | succ k =>
      simp at h
      rw [List.set_append_right _ _ (by show 6 ≤ (k + 1) * 6 + j; omega), List.set_cons_succ, cellsE_cons]
      have : (k + 1) * 6 + j - f.cells.length = k * 6 + j := by show (k + 1) * 6 + j - 6 = _; omega
      rw [this, ih k e e' u j h hj hc]

/-- The entries 'es' lie at ⟨b, off⟩, six cells each. -/
def EntsAt (w : World) (b off : Nat) (es : List Ent) : Prop :=
  ∀ i e, es[i]? = some e → w.cell? ⟨b, off + i * 6, none⟩ = some (.string e.row) ∧ w.cell? ⟨b, off + i * 6 + 1, none⟩ = some (.string e.fam) ∧ w.cell? ⟨b, off + i * 6 + 2, none⟩ = some (.string e.qual) ∧
    w.cell? ⟨b, off + i * 6 + 3, none⟩ = some (.int .u64 e.ts) ∧ w.cell? ⟨b, off + i * 6 + 4, none⟩ = some (.int .i64 e.kind) ∧ w.cell? ⟨b, off + i * 6 + 5, none⟩ = some (.string e.val)

theorem EntsAt.below {B : Nat} {w w' : World} {b off : Nat} {es : List Ent} (h : EntsAt w b off es) (hb : Below B w w') (hlt : b < B) : EntsAt w' b off es := by
  intro i e he
  have := h i e he
  refine ⟨?_, ?_, ?_, ?_, ?_, ?_⟩
  all_goals rw [hb.cell (by exact hlt)]
  · exact this.1
  · exact this.2.1
  · exact this.2.2.1
  · exact this.2.2.2.1
  · exact this.2.2.2.2.1
  · exact this.2.2.2.2.2

/-- A row of the call's own holds the entries 'es'. -/
def OwnE (w : World) (base g cap : Nat) (es : List Ent) : Prop := w.ownsRow base 25 6 (.slice (some ⟨g, 0, none⟩) es.length cap) es.length (cellsE es)

theorem OwnE.at {w : World} {base g cap : Nat} {es : List Ent} (h : OwnE w base g cap es) : EntsAt w g 0 es := by
  intro i e he
  have hi : i < es.length := (List.getElem?_eq_some_iff.1 he).1
  have c := fun j (hj : j < 6) => (World.ownsRow.cellAt h (i * 6 + j) (by omega)).trans (cellsE_get es i e he j hj)
  refine ⟨?_, ?_, ?_, ?_, ?_, ?_⟩
  · simpa using c 0 (by omega)
  · simpa using c 1 (by omega)
  · simpa using c 2 (by omega)
  · simpa using c 3 (by omega)
  · simpa using c 4 (by omega)
  · simpa using c 5 (by omega)
theorem OwnE.lt {w : World} {base g cap : Nat} {es : List Ent} (h : OwnE w base g cap es) : base ≤ g ∧ g < w.heap.size := World.ownsRow.lt h g rfl
theorem OwnE.below {B : Nat} {w w' : World} {base g cap : Nat} {es : List Ent} (h : OwnE w base g cap es) (hb : Below B w w') (hg : g < B) : OwnE w' base g cap es := by
  refine ⟨h.1, ?_⟩
  rcases h.2 with hn | ⟨g', cap', cur, hv, h1, h2, rest⟩
  · exact .inl hn
  · simp only [Value.slice.injEq, Option.some.injEq, Addr.mk.injEq, and_true, true_and] at hv
    obtain ⟨rfl, rfl⟩ := hv
    exact .inr ⟨g, cap, cur, rfl, h1, by rw [hb.block g hg]; exact h2, rest⟩
theorem OwnE.set {w : World} {base g cap : Nat} {es : List Ent} (h : OwnE w base g cap es) (k j : Nat) (e e' : Ent) (u : Value) (hk : es[k]? = some e) (hj : j < 6) (hc : e'.cells = e.cells.set j u) :
    OwnE (w.setCell ⟨g, k * 6 + j, none⟩ u) base g cap (es.set k e') := by
  have := (World.ownsRow.stored h (k * 6 + j) u).1
  rw [cellsE_set es k e e' u j hk hj hc] at this
  unfold OwnE
  rw [List.length_set]
  exact this

theorem OwnE.put {w : World} {base g cap : Nat} {es : List Ent} (h : OwnE w base g cap es) (k : Nat) (f e : Ent) (hk : es[k]? = some f) :
    OwnE ((((((w.setCell ⟨g, k * 6, none⟩ (.string e.row)).setCell ⟨g, k * 6 + 1, none⟩ (.string e.fam)).setCell ⟨g, k * 6 + 2, none⟩ (.string e.qual)).setCell ⟨g, k * 6 + 3, none⟩ (.int .u64 e.ts)).setCell ⟨g, k * 6 + 4, none⟩ (.int .i64 e.kind)).setCell ⟨g, k * 6 + 5, none⟩ (.string e.val)) base g cap (es.set k e) := by
  have hlt : k < es.length := (List.getElem?_eq_some_iff.1 hk).1
  have g1 := h.set k 0 f { f with row := e.row } (.string e.row) hk (by omega) rfl
  have g2 := g1.set k 1 { f with row := e.row } { f with row := e.row, fam := e.fam } (.string e.fam) (by simp [hlt]) (by omega) rfl
  have g3 := g2.set k 2 { f with row := e.row, fam := e.fam } { f with row := e.row, fam := e.fam, qual := e.qual } (.string e.qual) (by simp [hlt]) (by omega) rfl
  have g4 := g3.set k 3 { f with row := e.row, fam := e.fam, qual := e.qual } { f with row := e.row, fam := e.fam, qual := e.qual, ts := e.ts } (.int .u64 e.ts) (by simp [hlt]) (by omega) rfl
  have g5 := g4.set k 4 { f with row := e.row, fam := e.fam, qual := e.qual, ts := e.ts } { f with row := e.row, fam := e.fam, qual := e.qual, ts := e.ts, kind := e.kind } (.int .i64 e.kind) (by simp [hlt]) (by omega) rfl
  have g6 := g5.set k 5 { f with row := e.row, fam := e.fam, qual := e.qual, ts := e.ts, kind := e.kind } e (.string e.val) (by simp [hlt]) (by omega) rfl
  simpa only [List.set_set, Nat.add_zero] using g6
theorem below_put {B : Nat} {a w : World} (h : Below B a w) {g : Nat} (hg : B ≤ g) (o0 o1 o2 o3 o4 o5 : Nat) (v0 v1 v2 v3 v4 v5 : Value) :
    Below B a ((((((w.setCell ⟨g, o0, none⟩ v0).setCell ⟨g, o1, none⟩ v1).setCell ⟨g, o2, none⟩ v2).setCell ⟨g, o3, none⟩ v3).setCell ⟨g, o4, none⟩ v4).setCell ⟨g, o5, none⟩ v5) :=
  (((((h.setCell hg _).setCell hg _).setCell hg _).setCell hg _).setCell hg _).setCell hg _
theorem take_set_succ {es fs : List Ent} {k : Nat} {e : Ent} (h : fs.take k = es.take k) (hl : fs.length = es.length) (he : es[k]? = some e) : (fs.set k e).take (k + 1) = es.take (k + 1) := by
  have hlt : k < es.length := (List.getElem?_eq_some_iff.1 he).1
  apply List.ext_getElem?
  intro j
  have hj := congrArg (fun l => l[j]?) h
  simp only [List.getElem?_take] at hj ⊢
  rw [List.getElem?_set]
  by_cases h1 : j < k
  · have h2 : j < k + 1 := by omega
    have h3 : ¬ k = j := by omega
    simp only [h1, h2, h3, if_true, if_false] at hj ⊢
    exact hj
  · by_cases h2 : k = j
    · subst h2
      have h3 : k < k + 1 := by omega
      have h4 : k < fs.length := by omega
      simp only [h3, h4, if_true, he]
    · have h3 : ¬ j < k + 1 := by omega
      simp only [h3, if_false]

theorem Tryd.infoEnt : (Tryd.prog.info? 25).map (fun i => (i.zero, i.size, i.bytes)) = some (some (.agg #[.string ⟨#[]⟩, .string ⟨#[]⟩, .string ⟨#[]⟩, .int .u64 0, .int .i64 0, .string ⟨#[]⟩]), 6, 80) := by kernel_rfl

def zeroE : Ent := ⟨⟨#[]⟩, ⟨#[]⟩, ⟨#[]⟩, 0, 0, ⟨#[]⟩⟩
theorem made_zero (n : Nat) : (madeCells #[.string ⟨#[]⟩, .string ⟨#[]⟩, .string ⟨#[]⟩, .int .u64 0, .int .i64 0, .string ⟨#[]⟩] (n * 6)).toList = cellsE (List.replicate n zeroE) := by
  apply List.ext_getElem?
  intro j
  by_cases hj : j < n * 6
  · have h := cellsE_get (List.replicate n zeroE) (j / 6) zeroE (by rw [List.getElem?_replicate, if_pos (by omega)]) (j % 6) (Nat.mod_lt _ (by omega))
    rw [show j / 6 * 6 + j % 6 = j by omega] at h
    rw [h]
    have h6 : j % 6 < 6 := Nat.mod_lt _ (by omega)
    simp [madeCells, hj]
    generalize j % 6 = m at *
    match m, h6 with
    | 0, _ => rfl
    | 1, _ => rfl
    | 2, _ => rfl
    | 3, _ => rfl
    | 4, _ => rfl
    | 5, _ => rfl
  · have h1 : (cellsE (List.replicate n zeroE)).length ≤ j := by rw [length_cellsE, List.length_replicate]; omega
    rw [List.getElem?_eq_none h1]
    simp [madeCells, hj]

end Go.Proofs.YtnncedndlhfdkabDoor

/-
  Rows held against each other; rows of no entries; runs by value.
-/
namespace Go.Proofs.YtnncedndlhfdkabDoor
open Go.ChangeShapes Go.WideShapes Go.ChangeAt Go.RowKit Go.Deep
set_option linter.unusedVariables false

set_option maxHeartbeats 400000 in
theorem eqEntry_same (a : Ent) (w : World) :
    Calls Tryd.prog 18 #[a.v, a.v] w fun e w' => e = .returned (.bool true) ∧ Below w.heap.size w w' := by
  unfold Ent.v
  go_enter Tryd.func18, Tryd.ntmps18
  go_wp2
  go_ret
  exact ⟨rfl, ((Below.refl _ _).alloc (Nat.le_refl _) _).alloc (by simp) _⟩

/-! ### Rows of no entries -/

/-! ### A slice of entries, whatever its make -/

/-- What is read of a slice of entries that came in. -/
def InEnts (w : World) (v : Value) (es : List Ent) : Prop :=
  (∃ a cap, v = .slice a 0 cap ∧ es = []) ∨
  ∃ b off cap, v = .slice (some ⟨b, off, none⟩) es.length cap ∧ EntsAt w b off es ∧ b < w.heap.size ∧ es.length ≤ cap ∧ cap ≤ maxLen
theorem InEnts.below {B : Nat} {w w' : World} {v : Value} {es : List Ent} (h : InEnts w v es) (hb : Below B w w') (hB : w.heap.size ≤ B) : InEnts w' v es := by
  rcases h with h | ⟨b, off, cap, hv, hE, hlt, h1, h2⟩
  · exact .inl h
  · exact .inr ⟨b, off, cap, hv, hE.below hb (by omega), by have := hb.size; omega, h1, h2⟩
theorem InEnts.own {w : World} {base g cap : Nat} {es : List Ent} (h : OwnE w base g cap es) (h1 : es.length ≤ cap) (h2 : cap ≤ maxLen) : InEnts w (.slice (some ⟨g, 0, none⟩) es.length cap) es :=
  .inr ⟨g, 0, cap, rfl, h.at, h.lt.2, h1, h2⟩

end Go.Proofs.YtnncedndlhfdkabDoor

/-
  Slices of entries and runs that come in, opened.
-/
namespace Go.Proofs.YtnncedndlhfdkabDoor
open Go.ChangeShapes Go.WideShapes Go.ChangeAt Go.RowKit Go.Deep
set_option linter.unusedVariables false

theorem list_of_forall {α : Type} {P : Nat → α → Prop} : ∀ n, (∀ i, i < n → ∃ x, P i x) → ∃ l : List α, l.length = n ∧ ∀ i x, l[i]? = some x → P i x
  | 0, _ => ⟨[], rfl, fun i x h => by simp at h⟩
  | n + 1, h => by
    obtain ⟨l, hl, hp⟩ := list_of_forall n (fun i hi => h i (by omega))
    obtain ⟨x, hx⟩ := h n (by omega)
    refine ⟨l ++ [x], by simp [hl], fun i y hy => ?_⟩
    by_cases hi : i < l.length
    · rw [List.getElem?_append_left hi] at hy; exact hp i y hy
    · rw [List.getElem?_append_right (by omega)] at hy
      have : i - l.length = 0 := by
        have := (List.getElem?_eq_some_iff.1 hy).1
        simp at this; omega
      rw [this] at hy
      simp at hy
      subst hy
      rw [show i = n by omega]; exact hx

/-! ### Runs by value -/

theorem OwnE.mono {w : World} {base base' g cap : Nat} {es : List Ent} (h : OwnE w base g cap es) (hb : base' ≤ base) : OwnE w base' g cap es := by
  refine ⟨h.1, ?_⟩
  rcases h.2 with hn | ⟨g', cap', cur, hv, h1, rest⟩
  · exact .inl hn
  · exact .inr ⟨g', cap', cur, hv, Nat.le_trans hb h1, rest⟩

end Go.Proofs.YtnncedndlhfdkabDoor

/-
  The marks that a law lays into rows and looks for.
-/
namespace Go.Proofs.YtnncedndlhfdkabDoor
open Go.ChangeShapes Go.WideShapes Go.ChangeAt Go.RowKit Go.Deep
set_option linter.unusedVariables false

def digF : Nat → Nat → List UInt8
  | 0, _ => []
  | f + 1, k => if k = 0 then [] else digF f (k / 10) ++ [UInt8.ofNat (48 + k % 10)]
theorem digF_zero (f : Nat) : digF f 0 = [] := by cases f <;> simp [digF]
theorem digF_more : ∀ (f k : Nat), k ≤ f → digF f k = digF k k
  | 0, k, h => by rw [show k = 0 by omega]
  | f + 1, k, h => by
    by_cases h0 : k = 0
    · subst h0; rw [digF_zero, digF_zero]
    · obtain ⟨j, rfl⟩ : ∃ j, k = j + 1 := ⟨k - 1, by omega⟩
      have h1 : (j + 1) / 10 ≤ j := by omega
      unfold digF
      rw [if_neg h0, if_neg h0, digF_more f _ (by omega), digF_more j _ h1]
def dig (k : Nat) : List UInt8 := digF k k
theorem dig_step {k : Nat} (h : 0 < k) : dig k = dig (k / 10) ++ [UInt8.ofNat (48 + k % 10)] := by
  obtain ⟨j, rfl⟩ : ∃ j, k = j + 1 := ⟨k - 1, by omega⟩
  show digF (j + 1) (j + 1) = _
  rw [digF, if_neg (by omega), digF_more j _ (by omega)]; rfl
/-- The mark's text. -/
def mText (k : Nat) : ByteArray := ⟨(109 :: dig k).toArray⟩

theorem mText_eq {k : Nat} {out : ByteArray} (h : dig k = out.data.toList) : mText k = ⟨#[109]⟩ ++ out := by
  obtain ⟨a⟩ := out
  unfold mText
  rw [ByteArray.mk_append_mk, h]
  simp

/-- The entry that the marks from 'k' on make. -/
def mEnt (k : Int) : Ent := ⟨mText k.toNat, mText (k + 1).toNat, mText (k + 1 + 1).toNat, k + 1 + 1 + 1, k + 1 + 1 + 1 + 1, mText (k + 1 + 1 + 1 + 1 + 1).toNat⟩
/-- The first 'i' of the entries are marked, from 'k' on. -/
def marked (k : Int) (es : List Ent) (i : Nat) : Prop := ∀ j : Nat, j < i → es[j]? = some (mEnt (k + j * 6))

theorem grown_of_below {w w' : World} (h : Below w.heap.size w w') (r : Option Nat) : w.grownBy w' r := ⟨h.os, h.tape, h.output, h.size, fun k hk _ => h.block k hk⟩
theorem grown_set (w : World) (g o : Nat) (u : Value) : w.grownBy (w.setCell ⟨g, o, none⟩ u) (some g) := by
  have h : Below g w (w.setCell ⟨g, o, none⟩ u) := (Below.refl g w).setCell (Nat.le_refl _) u
  exact ⟨h.os, h.tape, h.output, h.size, fun k hk hne => Below.heap_setCell w ⟨g, o, none⟩ u k (fun e => hne (by rw [e]))⟩
theorem OwnE.upd {w : World} {base g cap m j : Nat} {fs : List Ent} {f f' : Ent} {u : Value} (h : OwnE w base g cap (fs.set m f)) (hm : m < fs.length) (hj : j < 6) (hc : f'.cells = f.cells.set j u) :
    OwnE (w.setCell ⟨g, m * 6 + j, none⟩ u) base g cap (fs.set m f') := by
  have := h.set m j f f' u (by simp [hm]) hj hc
  rwa [List.set_set] at this
theorem marked_set {k : Int} {fs : List Ent} {m : Nat} (h : marked k fs m) (hm : m < fs.length) : marked k (fs.set m (mEnt (k + m * 6))) (m + 1) := by
  intro j hj
  by_cases e : j = m
  · subst e; simp [hm]
  · rw [List.getElem?_set_ne (by omega)]; exact h j (by omega)

end Go.Proofs.YtnncedndlhfdkabDoor

/-
  The marks, looked for.
-/
namespace Go.Proofs.YtnncedndlhfdkabDoor
open Go.ChangeShapes Go.WideShapes Go.ChangeAt Go.RowKit Go.Deep
set_option linter.unusedVariables false

end Go.Proofs.YtnncedndlhfdkabDoor

/-
  A run that came back: of the call's own, or nil; its marks.
-/
namespace Go.Proofs.YtnncedndlhfdkabDoor
open Go.ChangeShapes Go.WideShapes Go.ChangeAt Go.RowKit Go.Deep
set_option linter.unusedVariables false
set_option maxRecDepth 100000

/-- A slice of the call's own, or nil. -/
def OwnU (w : World) (base : Nat) (u : Value) (R : List Ent) : Prop := (u = .slice none 0 0 ∧ R = []) ∨ ∃ g cp, u = .slice (some ⟨g, 0, none⟩) R.length cp ∧ OwnE w base g cp R
theorem OwnE.caps {w : World} {base g cp : Nat} {R : List Ent} (h : OwnE w base g cp R) : R.length ≤ cp ∧ cp ≤ maxLen := by
  rcases h.2 with ⟨h0, _⟩ | ⟨g', cap', cur, hv, _, _, hn, hcap, _, _⟩
  · cases h0
  · simp only [Value.slice.injEq, Option.some.injEq, Addr.mk.injEq, and_true, true_and] at hv
    obtain ⟨rfl, rfl⟩ := hv
    exact ⟨hn, hcap⟩
theorem OwnU.ins {w : World} {base : Nat} {u : Value} {R : List Ent} (h : OwnU w base u R) : InEnts w u R := by
  rcases h with ⟨rfl, rfl⟩ | ⟨g, cp, rfl, hO⟩
  · exact .inl ⟨_, _, rfl, rfl⟩
  · exact InEnts.own hO hO.caps.1 hO.caps.2
theorem OwnU.kept {w w' : World} {base : Nat} {u : Value} {R : List Ent} {row : Option Nat} (h : OwnU w base u R) (hg : w.grownBy w' row) (hne : ∀ g, row = some g → g < base) : OwnU w' base u R := by
  rcases h with h | ⟨g, cp, rfl, hO⟩
  · exact .inl h
  · exact .inr ⟨g, cp, rfl, World.ownsRow.kept hO hg (.inr (fun q => by have := hne g q.symm; have := hO.lt.1; omega))⟩
theorem OwnU.row {w : World} {base : Nat} {u : Value} {R : List Ent} (h : OwnU w base u R) : ∀ g, u.ownBlock = some g → base ≤ g ∧ g < w.heap.size := by
  intro g hg
  rcases h with ⟨rfl, _⟩ | ⟨g', cp, rfl, hO⟩
  · cases hg
  · have : g' = g := Option.some.inj hg
    subst this
    exact hO.lt
theorem OwnU.keptNe {w w' : World} {base : Nat} {u : Value} {R : List Ent} {row : Option Nat} (h : OwnU w base u R) (hg : w.grownBy w' row) (hne : ∀ g, u.ownBlock = some g → row ≠ some g) : OwnU w' base u R := by
  rcases h with h | ⟨g, cp, rfl, hO⟩
  · exact .inl h
  · exact .inr ⟨g, cp, rfl, World.ownsRow.kept hO hg (.inr (fun q => hne g rfl q.symm))⟩
theorem OwnU.ownCells {w : World} {base : Nat} {u : Value} {R : List Ent} (h : OwnU w base u R) : u.cells = #[u] := by
  rcases h with ⟨rfl, _⟩ | ⟨g, cp, rfl, _⟩ <;> rfl

end Go.Proofs.YtnncedndlhfdkabDoor

/-
  Bytes of a run's file: numbers, strings, fixed numbers, as lists (mathematics).
-/
namespace Go.Proofs.YtnncedndlhfdkabDoor
set_option linter.unusedVariables false
set_option linter.unusedSimpArgs false

/-- The byte of a number. -/
def byt (n : Nat) : UInt8 := UInt8.ofNat n
theorem byt_nat {n : Nat} (h : n < 256) : (byt n).toNat = n := by
  unfold byt
  rw [UInt8.toNat_ofNat']
  exact Nat.mod_eq_of_lt h
theorem byt_self (x : UInt8) : byt x.toNat = x := by
  apply UInt8.toNat_inj.1
  rw [byt_nat (UInt8.toNat_lt x)]
theorem u8lt (x : UInt8) : x.toNat < 256 := UInt8.toNat_lt x

/-- A number, seven bits a byte, the last byte below 128. -/
def num (n : Nat) : List UInt8 := if n < 128 then [byt n] else byt (128 + n % 128) :: num (n / 128)
termination_by n
decreasing_by omega
theorem num_small {n : Nat} (h : n < 128) : num n = [byt n] := by rw [num, if_pos h]
theorem num_large {n : Nat} (h : ¬ n < 128) : num n = byt (128 + n % 128) :: num (n / 128) := by rw [num, if_neg h]
theorem num_ne (n : Nat) : num n ≠ [] := by
  by_cases h : n < 128
  · rw [num_small h]; simp
  · rw [num_large h]; simp
theorem num_pos (n : Nat) : 0 < (num n).length := List.length_pos_iff.2 (num_ne n)
theorem num_len : ∀ (k n : Nat), n < 128 ^ (k + 1) → (num n).length ≤ k + 1
  | 0, n, h => by rw [num_small (by simpa using h)]; simp
  | k + 1, n, h => by
    by_cases hs : n < 128
    · rw [num_small hs]; simp
    · rw [num_large hs]
      have := num_len k (n / 128) (by rw [Nat.div_lt_iff_lt_mul (by omega), ← Nat.pow_succ]; exact h)
      simp; omega
theorem num_len64 {n : Nat} (h : n < 2 ^ 64) : (num n).length ≤ 10 := num_len 9 n (Nat.lt_trans h (by decide))

/-- A number read off, of whatever size; none where the bytes end or the form is not the shortest. -/
def getAny : List UInt8 → Option (Nat × List UInt8)
  | [] => none
  | x :: t => if x.toNat < 128 then some (x.toNat, t) else
    match getAny t with
    | none => none
    | some (n, u) => if n = 0 then none else some (x.toNat - 128 + 128 * n, u)
theorem getAny_num : ∀ (n : Nat) (t : List UInt8), getAny (num n ++ t) = some (n, t) := by
  intro n
  induction n using Nat.strongRecOn with
  | ind n ih =>
    intro t
    by_cases h : n < 128
    · rw [num_small h, List.singleton_append, getAny, if_pos (by rw [byt_nat (by omega)]; exact h), byt_nat (by omega)]
    · rw [num_large h, List.cons_append, getAny, if_neg (by rw [byt_nat (by omega)]; omega), ih (n / 128) (by omega) t]
      simp only []
      rw [if_neg (by omega), byt_nat (by omega)]
      congr 2
      omega
theorem getAny_iff {xs t : List UInt8} {n : Nat} : getAny xs = some (n, t) ↔ xs = num n ++ t := by
  constructor
  · induction xs generalizing n t with
    | nil => intro h; cases h
    | cons x l ih =>
      intro h
      rw [getAny] at h
      by_cases hx : x.toNat < 128
      · rw [if_pos hx] at h
        simp only [Option.some.injEq, Prod.mk.injEq] at h
        obtain ⟨rfl, rfl⟩ := h
        rw [num_small hx, byt_self]; rfl
      · rw [if_neg hx] at h
        cases hg : getAny l with
        | none => rw [hg] at h; cases h
        | some p =>
          obtain ⟨m, u⟩ := p
          rw [hg] at h
          simp only [] at h
          by_cases hm : m = 0
          · rw [if_pos hm] at h; cases h
          · rw [if_neg hm] at h
            simp only [Option.some.injEq, Prod.mk.injEq] at h
            obtain ⟨rfl, rfl⟩ := h
            have hx2 := u8lt x
            rw [num_large (by omega), show (x.toNat - 128 + 128 * m) / 128 = m by omega, show 128 + (x.toNat - 128 + 128 * m) % 128 = x.toNat by omega, byt_self, ih hg]
            rfl
  · rintro rfl
    exact getAny_num n t
/-- A number below 2^64 read off. -/
def getNum (xs : List UInt8) : Option (Nat × List UInt8) :=
  match getAny xs with
  | none => none
  | some (n, t) => if n < 2 ^ 64 then some (n, t) else none
theorem getNum_iff {xs t : List UInt8} {n : Nat} : getNum xs = some (n, t) ↔ n < 2 ^ 64 ∧ xs = num n ++ t := by
  unfold getNum
  cases hg : getAny xs with
  | none =>
    simp only []
    constructor
    · intro h; cases h
    · rintro ⟨_, h⟩
      rw [getAny_iff.2 h] at hg; cases hg
  | some p =>
    obtain ⟨m, u⟩ := p
    have h1 := getAny_iff.1 hg
    simp only []
    constructor
    · intro h
      split at h
      · simp only [Option.some.injEq, Prod.mk.injEq] at h
        obtain ⟨rfl, rfl⟩ := h
        exact ⟨by assumption, h1⟩
      · cases h
    · rintro ⟨h2, h3⟩
      rw [getAny_iff.2 h3] at hg
      simp only [Option.some.injEq, Prod.mk.injEq] at hg
      obtain ⟨rfl, rfl⟩ := hg
      rw [if_pos h2]
theorem getNum_num {n : Nat} (h : n < 2 ^ 64) (t : List UInt8) : getNum (num n ++ t) = some (n, t) := getNum_iff.2 ⟨h, rfl⟩
theorem num_split {n m : Nat} {s t : List UInt8} (h : num n ++ s = num m ++ t) : n = m ∧ s = t := by
  have h1 := getAny_num n s
  rw [h, getAny_num m t] at h1
  simp only [Option.some.injEq, Prod.mk.injEq] at h1
  exact ⟨h1.1.symm, h1.2.symm⟩

/-- A string with its length ahead. -/
def strB (s : List UInt8) : List UInt8 := num s.length ++ s
def getStr (xs : List UInt8) : Option (List UInt8 × List UInt8) :=
  match getNum xs with
  | none => none
  | some (n, t) => if n ≤ t.length then some (t.take n, t.drop n) else none
theorem getStr_iff {xs s t : List UInt8} : getStr xs = some (s, t) ↔ s.length < 2 ^ 64 ∧ xs = strB s ++ t := by
  unfold getStr strB
  cases hg : getNum xs with
  | none =>
    simp only []
    constructor
    · intro h; cases h
    · rintro ⟨h1, h⟩
      rw [List.append_assoc] at h
      rw [getNum_iff.2 ⟨h1, h⟩] at hg; cases hg
  | some p =>
    obtain ⟨m, u⟩ := p
    obtain ⟨h1, h2⟩ := getNum_iff.1 hg
    simp only []
    constructor
    · intro h
      split at h
      · next hm =>
        simp only [Option.some.injEq, Prod.mk.injEq] at h
        obtain ⟨rfl, rfl⟩ := h
        rw [List.length_take, Nat.min_eq_left hm]
        exact ⟨h1, by rw [List.append_assoc, List.take_append_drop]; exact h2⟩
      · cases h
    · rintro ⟨h3, h4⟩
      rw [List.append_assoc] at h4
      rw [getNum_iff.2 ⟨h3, h4⟩] at hg
      simp only [Option.some.injEq, Prod.mk.injEq] at hg
      obtain ⟨rfl, rfl⟩ := hg
      rw [if_pos (by simp)]
      simp
theorem getStr_str {s : List UInt8} (h : s.length < 2 ^ 64) (t : List UInt8) : getStr (strB s ++ t) = some (s, t) := getStr_iff.2 ⟨h, rfl⟩

/-- A number in four bytes, the least first. -/
def fixed (n : Nat) : List UInt8 := [byt (n % 256), byt (n / 256 % 256), byt (n / 65536 % 256), byt (n / 16777216 % 256)]
theorem fixed_len (n : Nat) : (fixed n).length = 4 := rfl
def fix4 (a b c d : UInt8) : Nat := a.toNat + 256 * b.toNat + 65536 * c.toNat + 16777216 * d.toNat
theorem fix4_lt (a b c d : UInt8) : fix4 a b c d < 2 ^ 32 := by
  have := u8lt a; have := u8lt b; have := u8lt c; have := u8lt d
  unfold fix4; omega
theorem fix4_fixed {n : Nat} (h : n < 2 ^ 32) : fix4 (byt (n % 256)) (byt (n / 256 % 256)) (byt (n / 65536 % 256)) (byt (n / 16777216 % 256)) = n := by
  unfold fix4
  rw [byt_nat (by omega), byt_nat (by omega), byt_nat (by omega), byt_nat (by omega)]
  omega
theorem fixed_fix4 (a b c d : UInt8) : fixed (fix4 a b c d) = [a, b, c, d] := by
  have ha := u8lt a; have hb := u8lt b; have hc := u8lt c; have hd := u8lt d
  unfold fixed fix4
  rw [show (a.toNat + 256 * b.toNat + 65536 * c.toNat + 16777216 * d.toNat) % 256 = a.toNat by omega,
    show (a.toNat + 256 * b.toNat + 65536 * c.toNat + 16777216 * d.toNat) / 256 % 256 = b.toNat by omega,
    show (a.toNat + 256 * b.toNat + 65536 * c.toNat + 16777216 * d.toNat) / 65536 % 256 = c.toNat by omega,
    show (a.toNat + 256 * b.toNat + 65536 * c.toNat + 16777216 * d.toNat) / 16777216 % 256 = d.toNat by omega]
  simp only [byt_self]
/-- The four bytes at a place, as a number. -/
def fixAt (xs : List UInt8) (i : Nat) : Nat := fix4 (xs.getD i 0) (xs.getD (i + 1) 0) (xs.getD (i + 2) 0) (xs.getD (i + 3) 0)
theorem fixAt_lt (xs : List UInt8) (i : Nat) : fixAt xs i < 2 ^ 32 := fix4_lt _ _ _ _
theorem fixAt_fixed {n : Nat} (h : n < 2 ^ 32) (xs t : List UInt8) : fixAt (xs ++ (fixed n ++ t)) xs.length = n := by
  unfold fixAt fixed
  simp only [List.getD_eq_getElem?_getD, List.getElem?_append_right (Nat.le_refl _), List.getElem?_append_right (show xs.length ≤ xs.length + 1 by omega), List.getElem?_append_right (show xs.length ≤ xs.length + 2 by omega), List.getElem?_append_right (show xs.length ≤ xs.length + 3 by omega), Nat.sub_self, Nat.add_sub_cancel_left]
  exact fix4_fixed h

/-- How many bytes two strings have in common at their beginning. -/
def shared : List UInt8 → List UInt8 → Nat
  | x :: s, y :: t => if x = y then shared s t + 1 else 0
  | _, _ => 0
theorem shared_le : ∀ (s t : List UInt8), shared s t ≤ s.length ∧ shared s t ≤ t.length
  | [], _ => by simp [shared]
  | _ :: _, [] => by simp [shared]
  | x :: s, y :: t => by
    have := shared_le s t
    unfold shared
    split <;> simp <;> omega
theorem shared_take : ∀ (s t : List UInt8), s.take (shared s t) = t.take (shared s t)
  | [], _ => by simp [shared]
  | _ :: _, [] => by simp [shared]
  | x :: s, y :: t => by
    unfold shared
    split
    · next h => rw [List.take_succ_cons, List.take_succ_cons, shared_take s t, h]
    · rfl
/-- The loop's own words: one more in common. -/
theorem shared_iff : ∀ (s t : List UInt8) (n : Nat), n ≤ s.length → n ≤ t.length → s.take n = t.take n → (n = s.length ∨ n = t.length ∨ s[n]? ≠ t[n]?) → shared s t = n
  | [], t, n, h1, _, _, _ => by simp at h1; subst h1; simp [shared]
  | x :: s, [], n, _, h2, _, _ => by simp at h2; subst h2; simp [shared]
  | x :: s, y :: t, 0, _, _, _, h4 => by
    unfold shared
    rw [if_neg]
    rintro rfl
    simp at h4
  | x :: s, y :: t, n + 1, h1, h2, h3, h4 => by
    rw [List.take_succ_cons, List.take_succ_cons] at h3
    obtain ⟨rfl, h5⟩ := List.cons.inj h3
    unfold shared
    rw [if_pos rfl, shared_iff s t n (by simpa using h1) (by simpa using h2) h5 (by simpa using h4)]
end Go.Proofs.YtnncedndlhfdkabDoor

/-
  The checksum of a list of bytes (mathematics).
-/
namespace Go.Proofs.YtnncedndlhfdkabDoor
set_option linter.unusedVariables false
set_option linter.unusedSimpArgs false

/-- One bit. -/
def sh (c : BitVec 32) : BitVec 32 := if c.toNat % 2 = 1 then (c >>> 1) ^^^ 3988292384#32 else c >>> 1
def shN : Nat → BitVec 32 → BitVec 32
  | 0, c => c
  | k + 1, c => sh (shN k c)
/-- One byte. -/
def crcB (c : BitVec 32) (x : UInt8) : BitVec 32 := shN 8 (c ^^^ BitVec.ofNat 32 x.toNat)
def crcTo (c : BitVec 32) (xs : List UInt8) : BitVec 32 := xs.foldl crcB c
def crc (xs : List UInt8) : BitVec 32 := crcTo 4294967295#32 xs ^^^ 4294967295#32
theorem crcTo_snoc (c : BitVec 32) (xs : List UInt8) (x : UInt8) : crcTo c (xs ++ [x]) = crcB (crcTo c xs) x := by simp [crcTo]
theorem crcTo_append (c : BitVec 32) (xs ys : List UInt8) : crcTo c (xs ++ ys) = crcTo (crcTo c xs) ys := by simp [crcTo]

theorem bit0 (c : BitVec 32) : c.getLsbD 0 = decide (c.toNat % 2 = 1) := by
  unfold BitVec.getLsbD
  exact Nat.testBit_zero _
theorem sh_inj {a b : BitVec 32} (h : sh a = sh b) : a = b := by
  have top : ∀ c : BitVec 32, (sh c).getLsbD 31 = c.getLsbD 0 := by
    intro c
    unfold sh
    by_cases h : c.toNat % 2 = 1
    · rw [if_pos h, BitVec.getLsbD_xor, BitVec.getLsbD_ushiftRight, BitVec.getLsbD_of_ge c (1 + 31) (by omega)]
      have : c.getLsbD 0 = true := by rw [bit0]; simp [h]
      rw [this]; decide
    · rw [if_neg h, BitVec.getLsbD_ushiftRight, BitVec.getLsbD_of_ge c (1 + 31) (by omega)]
      have : c.getLsbD 0 = false := by rw [bit0]; simp [h]
      rw [this]
  have low : a.getLsbD 0 = b.getLsbD 0 := by rw [← top a, ← top b, h]
  have par : (a.toNat % 2 = 1) ↔ (b.toNat % 2 = 1) := by
    rw [bit0, bit0] at low
    exact decide_eq_decide.1 low
  have hs : a >>> 1 = b >>> 1 := by
    unfold sh at h
    by_cases q : a.toNat % 2 = 1
    · rw [if_pos q, if_pos (par.1 q)] at h
      exact (BitVec.xor_left_inj _).1 h
    · rw [if_neg q, if_neg (fun r => q (par.2 r))] at h
      exact h
  apply BitVec.eq_of_getLsbD_eq
  intro i hi
  cases i with
  | zero => exact low
  | succ i =>
    have := congrArg (fun x => x.getLsbD i) hs
    simp only [BitVec.getLsbD_ushiftRight] at this
    rw [Nat.add_comm]; exact this
theorem shN_inj : ∀ (k : Nat) {a b : BitVec 32}, shN k a = shN k b → a = b
  | 0, _, _, h => h
  | k + 1, _, _, h => shN_inj k (sh_inj h)
theorem crcB_inj {a b : BitVec 32} {x : UInt8} (h : crcB a x = crcB b x) : a = b := (BitVec.xor_left_inj _).1 (shN_inj 8 h)
theorem crcTo_inj : ∀ (xs : List UInt8) {a b : BitVec 32}, crcTo a xs = crcTo b xs → a = b
  | [], _, _, h => h
  | x :: xs, a, b, h => crcB_inj (crcTo_inj xs (show crcTo (crcB a x) xs = crcTo (crcB b x) xs from h))
/-- One byte changed: another checksum. -/
theorem crc_one {xs ys : List UInt8} {a b : UInt8} (hab : ¬ a = b) : ¬ crc (xs ++ a :: ys) = crc (xs ++ b :: ys) := by
  intro h
  have h1 := (BitVec.xor_left_inj _).1 h
  rw [crcTo_append, crcTo_append] at h1
  have h2 : crcB (crcTo 4294967295#32 xs) a = crcB (crcTo 4294967295#32 xs) b := crcTo_inj ys h1
  have h3 := (BitVec.xor_right_inj _).1 (shN_inj 8 h2)
  apply hab
  apply UInt8.toNat_inj.1
  have h4 := congrArg BitVec.toNat h3
  have ha := u8lt a
  have hb := u8lt b
  rw [BitVec.toNat_ofNat, BitVec.toNat_ofNat, Nat.mod_eq_of_lt (by omega), Nat.mod_eq_of_lt (by omega)] at h4
  exact h4
end Go.Proofs.YtnncedndlhfdkabDoor

/-
  Bytes in memory.
-/
namespace Go.Proofs.YtnncedndlhfdkabDoor
open Go.ChangeShapes Go.WideShapes Go.ChangeAt Go.RowKit Go.Deep
set_option linter.unusedVariables false
set_option linter.unusedSimpArgs false
set_option maxRecDepth 100000

abbrev ub (x : UInt8) : Value := .int .u8 (x.toNat : Int)
/-- The bytes lie there. -/
def BysAt (w : World) (b off : Nat) (xs : List UInt8) : Prop := ∀ i x, xs[i]? = some x → w.cell? ⟨b, off + i, none⟩ = some (ub x)
theorem BysAt.below {B : Nat} {w w' : World} {b off : Nat} {xs : List UInt8} (h : BysAt w b off xs) (hb : Below B w w') (hlt : b < B) : BysAt w' b off xs := by
  intro i x hx
  rw [hb.cell (p := ⟨b, off + i, none⟩) hlt]
  exact h i x hx

theorem xor32 (s t : BitVec 32) {x : Int} (hx : x = (t.toNat : Int)) : bits .xor .u32 (s.toNat : Int) x = ((s ^^^ t).toNat : Int) := by
  subst hx
  have h1 : BitVec.ofInt 32 (s.toNat : Int) = s := by simp
  have h2 : BitVec.ofInt 32 (t.toNat : Int) = t := by simp
  show IntKind.wrap .u32 ((BitVec.ofInt 32 (s.toNat : Int) ^^^ BitVec.ofInt 32 (t.toNat : Int)).toNat : Int) = _
  rw [h1, h2]
  have := (s ^^^ t).isLt
  simp only [IntKind.wrap, IntKind.bits, IntKind.signed, Bool.false_and, Bool.false_eq_true, if_false]
  omega
set_option maxHeartbeats 2000000 in
theorem specCrc_core (b off cap : Nat) (xs : List UInt8) (w : World) (hE : BysAt w b off xs) (hlen : xs.length ≤ maxLen) :
    Calls Tryd.prog 20 #[.slice (some ⟨b, off, none⟩) xs.length cap] w fun e w' => e = .returned (.int .u32 ((crc xs).toNat : Int)) ∧ w' = w := by
  have HE : Hid (BysAt w b off xs) := hE
  clear hE
  unfold maxLen at hlen
  go_enter Tryd.func20, Tryd.ntmps20
  go_wp2_with fail
  go_loopw [3, 4] (fun c i wr => ∃ (k : Nat), k ≤ xs.length ∧ c = .int .u32 ((crcTo 4294967295#32 (xs.take k)).toNat : Int) ∧ i = .int .i64 k ∧ wr = w) (fun _ i _ => xs.length - (intOf i).toNat)
  case atStart => exact ⟨0, Nat.zero_le _, rfl, rfl, rfl⟩
  case round =>
    obtain ⟨k, hk, rfl, rfl, rfl⟩ := hrel
    by_cases hlt : k < xs.length
    · obtain ⟨x, hx⟩ : ∃ x, xs[k]? = some x := ⟨_, List.getElem?_eq_getElem hlt⟩
      have c0 := HE.out k x hx
      obtain ⟨s, hs⟩ : ∃ s, s = crcTo 4294967295#32 (xs.take k) := ⟨_, rfl⟩
      rw [← hs]
      have HS : Hid (crcTo 4294967295#32 (xs.take (k + 1)) = crcB s x) := by
        show crcTo 4294967295#32 (xs.take (k + 1)) = crcB s x
        rw [List.take_add_one, hx, hs]; exact crcTo_snoc _ _ _
      clear hx hs
      go_wp2_with fail
      obtain ⟨t, ht⟩ : ∃ t, t = s ^^^ BitVec.ofNat 32 x.toNat := ⟨_, rfl⟩
      have HT : Hid (bits .xor .u32 (s.toNat : Int) ((x.toNat : Int) % 4294967296) = (t.toNat : Int)) := by
        show bits .xor .u32 (s.toNat : Int) ((x.toNat : Int) % 4294967296) = (t.toNat : Int)
        rw [ht]
        refine xor32 s _ ?_
        have := u8lt x
        rw [BitVec.toNat_ofNat]
        omega
      rw [HT.out]
      have HS2 : Hid (crcTo 4294967295#32 (xs.take (k + 1)) = shN 8 t) := by rw [ht]; exact HS.out
      clear ht HS HT
      go_loopw [3, 5] (fun c j wr' => ∃ (q : Nat), q ≤ 8 ∧ c = .int .u32 ((shN q t).toNat : Int) ∧ j = .int .i64 q ∧ wr' = wr) (fun _ j _ => 8 - (intOf j).toNat)
      case atStart => exact ⟨0, Nat.zero_le _, rfl, rfl, rfl⟩
      case round =>
        obtain ⟨q, hq, rfl, rfl, rfl⟩ := hrel
        obtain ⟨c, hc⟩ : ∃ c, c = shN q t := ⟨_, rfl⟩
        have HQ : Hid (shN (q + 1) t = sh c) := by rw [hc]; exact rfl
        rw [← hc]
        by_cases h8 : q < 8
        · by_cases hp : c.toNat % 2 = 1
          · have hz : ((c.toNat : Int) % 2) = 1 := by omega
            clear hc
            go_wp2_with fail
            have hx : bits .xor .u32 ((c.toNat : Int) / 2) 3988292384 = ((sh c).toNat : Int) := by
              have e : (c.toNat : Int) / (2 : Int) = ((c >>> 1).toNat : Int) := by
                rw [BitVec.toNat_ushiftRight, Nat.shiftRight_eq_div_pow]
                omega
              unfold sh
              rw [if_pos hp, e]
              exact xor32 (c >>> 1) 3988292384#32 (by rfl)
            exact ⟨⟨q + 1, by omega, by rw [hx, HQ.out], by go_num, trivial⟩, by simp [intOf]; omega⟩
          · have hz : ¬ ((c.toNat : Int) % 2) = 1 := by omega
            clear hc
            go_wp2_with fail
            have hx : ((c.toNat : Int) / 2) = ((sh c).toNat : Int) := by
              unfold sh
              rw [if_neg hp, BitVec.toNat_ushiftRight, Nat.shiftRight_eq_div_pow]
              omega
            exact ⟨⟨q + 1, by omega, by rw [hx, HQ.out], by go_num, trivial⟩, by simp [intOf]; omega⟩
        · obtain rfl : q = 8 := by omega
          have HE8 : Hid (c = crcTo 4294967295#32 (xs.take (k + 1))) := by rw [hc]; exact HS2.out.symm
          clear hc HQ
          go_wp2_with fail
          exact ⟨⟨k + 1, by omega, by rw [HE8.out], by go_num, trivial⟩, by simp [intOf]; omega⟩
    · obtain rfl : k = xs.length := by omega
      have hx := xor32 (crcTo 4294967295#32 (xs.take xs.length)) 4294967295#32 (x := 4294967295) (by rfl)
      rw [List.take_of_length_le (Nat.le_refl _)] at hx ⊢
      have HX : Hid (bits .xor .u32 ((crcTo 4294967295#32 xs).toNat : Int) 4294967295 = ((crc xs).toNat : Int)) := hx
      clear hx
      go_wp2_with fail
      go_ret
      refine ⟨?_, rfl⟩
      show Ending.returned (Value.int .u32 (bits .xor .u32 ((crcTo 4294967295#32 xs).toNat : Int) 4294967295)) = _
      rw [HX.out]
end Go.Proofs.YtnncedndlhfdkabDoor

/-
  What has turned between two worlds.
-/
namespace Go.Proofs.YtnncedndlhfdkabDoor
open Go.ChangeShapes Go.WideShapes Go.ChangeAt Go.RowKit Go.Deep
set_option linter.unusedVariables false
set_option linter.unusedSimpArgs false

/-- From 'w' to 'w'': only what lies in blocks of 'S' has turned, and new blocks came. -/
structure Chg (S : Nat → Prop) (w w' : World) : Prop where
  os : w'.os = w.os
  tape : w'.tape = w.tape
  output : w'.output = w.output
  size : w.heap.size ≤ w'.heap.size
  block : ∀ k, k < w.heap.size → ¬ S k → w'.heap[k]? = w.heap[k]?
theorem Chg.refl (S : Nat → Prop) (w : World) : Chg S w w := ⟨rfl, rfl, rfl, Nat.le_refl _, fun _ _ _ => rfl⟩
theorem Chg.trans {S : Nat → Prop} {a b c : World} (h : Chg S a b) (k : Chg S b c) : Chg S a c :=
  ⟨k.os.trans h.os, k.tape.trans h.tape, k.output.trans h.output, Nat.le_trans h.size k.size, fun i hi hn => (k.block i (Nat.lt_of_lt_of_le hi h.size) hn).trans (h.block i hi hn)⟩
theorem Chg.mono {S T : Nat → Prop} {w w' : World} (h : Chg S w w') (hs : ∀ k, S k → T k) : Chg T w w' := ⟨h.os, h.tape, h.output, h.size, fun k hk hn => h.block k hk (fun q => hn (hs k q))⟩
theorem Chg.of_below {S : Nat → Prop} {w w' : World} (h : Below w.heap.size w w') : Chg S w w' := ⟨h.os, h.tape, h.output, h.size, fun k hk _ => h.block k hk⟩
theorem Chg.of_grown {S : Nat → Prop} {w w' : World} {row : Option Nat} (h : w.grownBy w' row) (hs : ∀ k, row = some k → S k) : Chg S w w' :=
  ⟨h.os, h.tape, h.output, h.size, fun k hk hn => h.block k hk (fun q => hn (hs k q.symm))⟩
theorem Chg.of_set {S : Nat → Prop} (w : World) (g o : Nat) (u : Value) (hs : S g) : Chg S w (w.setCell ⟨g, o, none⟩ u) := Chg.of_grown (grown_set w g o u) (fun k hk => by cases hk; exact hs)
theorem Chg.below {S : Nat → Prop} {B : Nat} {a w w' : World} (h : Below B a w) (k : Chg S w w') (hB : B ≤ w.heap.size) (hs : ∀ k, S k → B ≤ k) : Below B a w' :=
  h.trans ⟨k.os, k.tape, k.output, k.size, fun i hi => k.block i (by omega) (fun q => by have := hs i q; omega)⟩
theorem Chg.cell {S : Nat → Prop} {w w' : World} (h : Chg S w w') {p : Addr} (hp : p.block < w.heap.size) (hn : ¬ S p.block) : w'.cell? p = w.cell? p := World.cell?_of_block (w := w) (h.block p.block hp hn)
theorem Chg.frozen {S : Nat → Prop} {w w' : World} (h : Chg S w w') {p : Addr} (hp : p.block < w.heap.size) (hn : ¬ S p.block) : w'.frozen? p = w.frozen? p := World.frozen?_of_block (w := w) (h.block p.block hp hn)
theorem EntsAt.chg {S : Nat → Prop} {w w' : World} {b off : Nat} {es : List Ent} (h : EntsAt w b off es) (hb : Chg S w w') (hlt : b < w.heap.size) (hn : ¬ S b) : EntsAt w' b off es := by
  intro i e he
  have := h i e he
  refine ⟨?_, ?_, ?_, ?_, ?_, ?_⟩
  all_goals rw [hb.cell (by exact hlt) (by exact hn)]
  · exact this.1
  · exact this.2.1
  · exact this.2.2.1
  · exact this.2.2.2.1
  · exact this.2.2.2.2.1
  · exact this.2.2.2.2.2
theorem own_apart {w : World} {base e size : Nat} {v : Value} {n : Nat} {xs : List Value} {base' e' size' : Nat} {v' : Value} {n' : Nat} {xs' : List Value} (h : w.ownsRow base e size v n xs) (h' : w.ownsRow base' e' size' v' n' xs') (hne : e ≠ e') : ∀ k, v.ownBlock = some k → v'.ownBlock ≠ some k := by
  intro k hk hk'
  rcases h.2 with ⟨rfl, _⟩ | ⟨g1, cap1, cur, rfl, _, hc, _⟩
  · simp [Value.ownBlock] at hk
  · rcases h'.2 with ⟨rfl, _⟩ | ⟨g2, cap2, cur2, rfl, _, hc2, _⟩
    · simp [Value.ownBlock] at hk'
    · simp [Value.ownBlock] at hk hk'
      subst hk hk'
      rw [hc] at hc2
      simp at hc2
      exact hne hc2.2
theorem own_chg {S : Nat → Prop} {w w' : World} {base e size : Nat} {v : Value} {n : Nat} {xs : List Value} (h : w.ownsRow base e size v n xs) (hb : Chg S w w') (hn : ∀ k, v.ownBlock = some k → ¬ S k) : w'.ownsRow base e size v n xs := by
  refine ⟨h.1, ?_⟩
  rcases h.2 with hz | ⟨g, cap, cur, rfl, h1, hg, rest⟩
  · exact .inl hz
  · refine .inr ⟨g, cap, cur, rfl, h1, ?_, rest⟩
    have hlt : g < w.heap.size := by
      rcases Nat.lt_or_ge g w.heap.size with q | q
      · exact q
      · rw [Array.getElem?_eq_none q] at hg; cases hg
    rw [hb.block g hlt (hn g rfl)]; exact hg

end Go.Proofs.YtnncedndlhfdkabDoor

/-
  Bytes of the call's own; append; l2Num, l2Cat, l2Str, l2Fixed, l2Shared.
-/
namespace Go.Proofs.YtnncedndlhfdkabDoor
open Go.ChangeShapes Go.WideShapes Go.ChangeAt Go.RowKit Go.Deep
set_option linter.unusedVariables false
set_option linter.unusedSimpArgs false
set_option maxRecDepth 100000

/-- A row of bytes of the call's own. -/
def OwnY (w : World) (base g cp : Nat) (xs : List UInt8) : Prop := w.ownsRow base 5 1 (.slice (some ⟨g, 0, none⟩) xs.length cp) xs.length (xs.map ub)
theorem OwnY.lt {w : World} {base g cp : Nat} {xs : List UInt8} (h : OwnY w base g cp xs) : base ≤ g ∧ g < w.heap.size := World.ownsRow.lt h g rfl
theorem OwnY.chg {S : Nat → Prop} {w w' : World} {base g cp : Nat} {xs : List UInt8} (h : OwnY w base g cp xs) (hc : Chg S w w') (hn : ¬ S g) : OwnY w' base g cp xs := own_chg h hc (fun k q => by simp [Value.ownBlock] at q; subst q; exact hn)
theorem OwnY.below {w w' : World} {base g cp : Nat} {xs : List UInt8} (h : OwnY w base g cp xs) (hb : Below w.heap.size w w') : OwnY w' base g cp xs := h.chg (Chg.of_below hb) (S := fun _ => False) (fun q => q)
theorem OwnY.at {w : World} {base g cp : Nat} {xs : List UInt8} (h : OwnY w base g cp xs) : BysAt w g 0 xs := by
  intro k x hx
  have hk := (List.getElem?_eq_some_iff.1 hx).1
  rw [Nat.zero_add, World.ownsRow.cellAt h k (by omega), List.getElem?_map, hx]; rfl
theorem OwnY.caps {w : World} {base g cp : Nat} {xs : List UInt8} (h : OwnY w base g cp xs) : xs.length ≤ cp ∧ cp ≤ maxLen := by
  rcases h.2 with ⟨h0, _⟩ | ⟨g', cap', cur, hv, _, _, hn, hcap, _, _⟩
  · cases h0
  · simp only [Value.slice.injEq, Option.some.injEq, Addr.mk.injEq, and_true, true_and] at hv
    obtain ⟨rfl, rfl⟩ := hv
    exact ⟨hn, hcap⟩
theorem OwnY.mono {w : World} {base base' g cp : Nat} {xs : List UInt8} (h : OwnY w base g cp xs) (hb : base' ≤ base) : OwnY w base' g cp xs := by
  refine ⟨h.1, ?_⟩
  rcases h.2 with hn | ⟨g', cap', cur, hv, h1, rest⟩
  · exact .inl hn
  · exact .inr ⟨g', cap', cur, hv, Nat.le_trans hb h1, rest⟩
theorem ub_one (xs : List UInt8) : ∀ u ∈ xs.map ub, u.oneCell' = true := by
  intro u hu
  obtain ⟨r, _, rfl⟩ := List.mem_map.1 hu
  rfl
theorem Tryd.infoByte : (Tryd.prog.info? 5).map (fun i => (i.zero, i.size, i.bytes)) = some (some (.int .u8 0), 1, 1) := by kernel_rfl
/-- Bytes appended to a row of the call's own. -/
theorem wpList_append_bys {ops : Array Oper} {rest : List Oper} {o : Oper} {a : Act} {Q : Exit → Act → World → Prop} (w : World) (hgd : o.guard = none) (s x : Operand)
    (ho : o.op = .call { callee := .builtin .append, args := #[s, x], argTypes := #[22, 22] })
    (base g cp n b off m cx : Nat) (l k : List UInt8) (hs : a.eval s = .slice (some ⟨g, 0, none⟩) n cp) (hx : a.eval x = .slice (some ⟨b, off, none⟩) m cx) (hn : n = l.length) (hm : m = k.length) (hO : OwnY w base g cp l)
    (hc : BysAt w b off k) (hlen : l.length + k.length ≤ 2 ^ 30) (hbase : base ≤ w.heap.size)
    (h : ∀ g' cp' w', OwnY w' base g' cp' (l ++ k) → w.grownBy w' (some g) → (g' = g ∨ g' = w.heap.size) → wpList Tryd.prog ops Q rest (a.put o.dst (.slice (some ⟨g', 0, none⟩) (n + m) cp')) w') : wpList Tryd.prog ops Q (o :: rest) a w := by
  subst hn hm
  obtain ⟨i, hi, hz0, hz1, hz2⟩ := info_parts Tryd.infoByte
  refine wpList_append_own_at w hgd s x 22 ho base 5 i _ 1 1 Tryd.underlying22 hi hz0 hz1 hz2 rfl (by decide) (.slice (some ⟨g, 0, none⟩) l.length cp) l.length (l.map ub) hs hO ⟨b, off, none⟩ k.length cx (k.map ub) hx (by simp) ?_ (ub_one k) ?_ ?_ hbase ?_
  · intro j u hu
    rw [List.getElem?_map] at hu
    cases hk : k[j]? with
    | none => rw [hk] at hu; cases hu
    | some r =>
      rw [hk] at hu
      simp at hu
      rw [Addr.add_mid, hc j r hk, ← hu]
  · unfold maxLen; omega
  · omega
  · intro v' w' hO' hgr hnil hat
    rcases hO'.2 with ⟨h0, _⟩ | ⟨g', cap', cur, hv, _, _, hn, hcap, _, _⟩
    · have := (hnil.1 h0).1
      cases this
    · subst hv
      refine h g' cap' w' ?_ hgr ?_
      · unfold OwnY
        rw [List.length_append, List.map_append]
        exact hO'
      · simp [Value.ownBlock] at hat
        exact hat
theorem ownY_new (w : World) {base : Nat} (hb : base ≤ w.heap.size) : OwnY (w.alloc (Obj.cells #[] 5)) base w.heap.size 0 [] :=
  World.ownsRow_made w #[] 0 hb (Nat.zero_le _) (by simp)
theorem ownY_one (w : World) {base : Nat} (hb : base ≤ w.heap.size) (x : UInt8) {v : Int} (hv : v = (x.toNat : Int)) : OwnY (w.alloc (Obj.cells #[.int .u8 v] 5)) base w.heap.size 1 [x] := by
  subst hv
  exact World.ownsRow_lit w #[ub x] 1 hb (by decide) rfl

end Go.Proofs.YtnncedndlhfdkabDoor

/-
  laws.toByteS, laws.eqByteS.
-/
namespace Go.Proofs.YtnncedndlhfdkabDoor
open Go.ChangeShapes Go.WideShapes Go.ChangeAt Go.RowKit Go.Deep
set_option linter.unusedVariables false
set_option linter.unusedSimpArgs false
set_option maxRecDepth 100000

theorem OwnY.set {w : World} {base g cp : Nat} {xs : List UInt8} (h : OwnY w base g cp xs) (k : Nat) (x : UInt8) : OwnY (w.setCell ⟨g, k, none⟩ (ub x)) base g cp (xs.set k x) := by
  have := (World.ownsRow.stored h k (ub x)).1
  unfold OwnY
  rw [List.length_set, List.map_set]
  exact this
set_option maxHeartbeats 1000000 in
theorem eqByteS_same (b off cap b' off' cap' : Nat) (xs : List UInt8) (w : World) (h : BysAt w b off xs) (h' : BysAt w b' off' xs) (hb : b < w.heap.size) (hb' : b' < w.heap.size) (hlen : xs.length ≤ maxLen) :
    Calls Tryd.prog 8 #[.slice (some ⟨b, off, none⟩) xs.length cap, .slice (some ⟨b', off', none⟩) xs.length cap'] w fun e w' => e = .returned (.bool true) ∧ Below w.heap.size w w' := by
  have HE : Hid (BysAt w b off xs ∧ BysAt w b' off' xs) := ⟨h, h'⟩
  clear h h'
  unfold maxLen at hlen
  go_enter Tryd.func8, Tryd.ntmps8
  go_wp2_with fail
  go_loopw [5] (fun i wr => ∃ (k : Nat), k ≤ xs.length ∧ i = .int .i64 k ∧ Below w.heap.size w wr) (fun i _ => xs.length - (intOf i).toNat)
  case atStart => exact ⟨0, Nat.zero_le _, rfl, Below.refl _ _⟩
  case round =>
    obtain ⟨k, hk, rfl, hbr⟩ := hrel
    by_cases hlt : k < xs.length
    · obtain ⟨x, hx⟩ : ∃ x, xs[k]? = some x := ⟨_, List.getElem?_eq_getElem hlt⟩
      have c0 := (HE.out.1.below hbr hb) k x hx
      have c1 := (HE.out.2.below hbr hb') k x hx
      have z : (k : Int) < (xs.length : Int) := by omega
      clear hx
      go_upto_region 6 with fail
      go_cut [25] (fun s wx => s = .bool false ∧ Below w.heap.size w wx)
      case first =>
        go_region
        all_goals go_wp2_with fail
        all_goals go_meet
        all_goals exact ⟨by simp, hbr.drew⟩
      case rest =>
      obtain ⟨rfl, h3⟩ := hcut
      clear c0 c1
      go_wp2_with fail
      go_roundw
      case rel => exact ⟨k + 1, by omega, by go_num, h3⟩
      case measure => simp [intOf]; omega
    · have z : ¬ (k : Int) < (xs.length : Int) := by omega
      go_wp2_with fail
      go_ret
      exact ⟨rfl, hbr⟩

theorem made_zeroY (n : Nat) : (madeCells #[.int .u8 0] n).toList = (List.replicate n (0 : UInt8)).map ub := by
  apply List.ext_getElem?
  intro j
  by_cases hj : j < n
  · rw [List.getElem?_map, List.getElem?_replicate, if_pos hj]
    simp [madeCells, hj, Nat.mod_one]
  · rw [List.getElem?_map, List.getElem?_replicate, if_neg hj]
    simp [madeCells, hj]
set_option maxHeartbeats 1000000 in
theorem toByteS_core (b off cap : Nat) (xs : List UInt8) (w : World) (h : BysAt w b off xs) (hb : b < w.heap.size) (h1 : xs.length ≤ 1048576) :
    Calls Tryd.prog 5 #[.slice (some ⟨b, off, none⟩) xs.length cap] w fun e w' =>
      ∃ g, e = .returned (.slice (some ⟨g, 0, none⟩) xs.length xs.length) ∧ OwnY w' w.heap.size g xs.length xs ∧ Below w.heap.size w w' := by
  have HE : Hid (BysAt w b off xs) := h
  clear h
  obtain ⟨i, hi, hz0, hz1, hz2⟩ := info_parts Tryd.infoByte
  have HI : Hid (Tryd.prog.info? 5 = some i ∧ i.zero = some (.int .u8 0) ∧ i.size = 1 ∧ i.bytes = 1) := ⟨hi, hz0, hz1, hz2⟩
  clear hi hz0 hz1 hz2
  go_enter Tryd.func5, Tryd.ntmps5
  go_wp2_with (at_make; refine wpList_make_full _ rfl _ _ 22 rfl w.heap.size 5 i _ 1 Tryd.underlying22 HI.out.1 HI.out.2.1 HI.out.2.2.1 _ _ _ _ xs.length rfl rfl ?_ ?_ ?hb ?hm ?hs ?_)
  case hb => rw [HI.out.2.2.2]; omega
  case hm => unfold maxLen; omega
  case hs => exact Nat.le_refl _
  · rfl
  · rfl
  intro w1 hown hgrow
  rw [made_zeroY] at hown
  have hown1 : OwnY w1 w.heap.size w.heap.size xs.length (List.replicate xs.length 0) := by
    unfold OwnY; rw [List.length_replicate]; exact hown
  have HW : Hid (OwnY w1 w.heap.size w.heap.size xs.length (List.replicate xs.length 0)) := hown1
  have hb1 : Below w.heap.size w w1 := (Below.refl _ _).grown hgrow (Nat.le_refl _) (fun k hk => by cases hk)
  clear hown hown1 hgrow
  go_wp2_with fail
  go_loopw [4] (fun i wr => ∃ (k : Nat) (ys : List UInt8), k ≤ xs.length ∧ i = .int .i64 k ∧ ys.length = xs.length ∧ ys.take k = xs.take k ∧ OwnY wr w.heap.size w.heap.size xs.length ys ∧ Below w.heap.size w wr) (fun i _ => xs.length - (intOf i).toNat)
  case atStart => exact ⟨0, _, Nat.zero_le _, rfl, List.length_replicate .., rfl, HW.out, hb1⟩
  case round =>
    obtain ⟨k, ys, hk, rfl, hfl, hft, hO, hbr⟩ := hrel
    have HO : Hid (ys.length = xs.length ∧ ys.take k = xs.take k ∧ OwnY wr w.heap.size w.heap.size xs.length ys) := ⟨hfl, hft, hO⟩
    clear hfl hft hO
    by_cases hlt : k < xs.length
    · obtain ⟨x, hx⟩ : ∃ x, xs[k]? = some x := ⟨_, List.getElem?_eq_getElem hlt⟩
      obtain ⟨y, hy⟩ : ∃ y, ys[k]? = some y := ⟨_, List.getElem?_eq_getElem (by rw [HO.out.1]; exact hlt)⟩
      have c0 := (HE.out.below hbr hb) k x hx
      have d0 := HO.out.2.2.at k y hy
      rw [Nat.zero_add] at d0
      have fz : wr.frozen? ⟨w.heap.size, k, none⟩ = false := World.ownsRow.frozenAt HO.out.2.2 k
      have z : (k : Int) < (xs.length : Int) := by omega
      have HN : Hid (OwnY (wr.setCell ⟨w.heap.size, k, none⟩ (ub x)) w.heap.size w.heap.size xs.length (ys.set k x) ∧ (ys.set k x).take (k + 1) = xs.take (k + 1)) := by
        refine ⟨HO.out.2.2.set k x, ?_⟩
        have hk2 : k < ys.length := by rw [HO.out.1]; exact hlt
        rw [List.take_add_one, List.take_add_one, List.take_set_of_le (Nat.le_refl _), HO.out.2.1, hx, List.getElem?_set_self hk2]
      have hbn : Below w.heap.size w (wr.setCell ⟨w.heap.size, k, none⟩ (ub x)) := hbr.setCell (p := ⟨w.heap.size, k, none⟩) (Nat.le_refl _) _
      clear hx hy
      go_wp2_with fail
      go_roundw
      case rel => exact ⟨k + 1, ys.set k x, by omega, by go_num, by rw [List.length_set]; exact HO.out.1, HN.out.2, HN.out.1, hbn⟩
      case measure => simp [intOf]; omega
    · have z : ¬ (k : Int) < (xs.length : Int) := by omega
      have HF : Hid (ys = xs) := by
        have h2 := HO.out.2.1
        have h3 := HO.out.1
        rw [List.take_of_length_le (by omega), List.take_of_length_le (by omega)] at h2
        exact h2
      go_wp2_with fail
      go_ret
      exact ⟨w.heap.size, rfl, by rw [← HF.out]; rw [HF.out]; have := HO.out.2.2; rw [HF.out] at this; exact this, hbr⟩
end Go.Proofs.YtnncedndlhfdkabDoor

/-
  A text of bytes that comes in, opened.
-/
namespace Go.Proofs.YtnncedndlhfdkabDoor
open Go.ChangeShapes Go.WideShapes Go.ChangeAt Go.RowKit Go.Deep
set_option linter.unusedVariables false
set_option linter.unusedSimpArgs false
set_option maxRecDepth 100000

def BysIn (w : World) (v : Value) (xs : List UInt8) : Prop :=
  xs.length ≤ maxLen ∧ ((xs = [] ∧ ∃ a cap, v = .slice a 0 cap) ∨ ∃ b off cap, v = .slice (some ⟨b, off, none⟩) xs.length cap ∧ b < w.heap.size ∧ BysAt w b off xs)
theorem BysIn.slice {w : World} {v : Value} {xs : List UInt8} (h : BysIn w v xs) : ∃ a cap, v = .slice a xs.length cap := by
  rcases h.2 with ⟨rfl, a, cap, rfl⟩ | ⟨b, off, cap, rfl, _⟩
  · exact ⟨_, _, rfl⟩
  · exact ⟨_, _, rfl⟩
theorem BysIn.below {w w' : World} {v : Value} {xs : List UInt8} (h : BysIn w v xs) (hb : Below w.heap.size w w') : BysIn w' v xs := by
  refine ⟨h.1, ?_⟩
  rcases h.2 with k | ⟨b, off, cap, hv, hlt, hA⟩
  · exact .inl k
  · exact .inr ⟨b, off, cap, hv, Nat.lt_of_lt_of_le hlt hb.size, hA.below hb hlt⟩
theorem bysIn_of_trod {H : Type} {enc : TypeId × Value → H} {w : World} {fuel : Nat} {v : Value} {x : DataW H × List MemPlace}
    (h : DataW.trod enc Tryd.prog w 0 (fun _ => true) true fuel 22 [v] = some x) (hlt : ∀ p ∈ x.2, p.block < w.heap.size) : ∃ xs, BysIn w v xs := by
  have hc : Tryd.prog.cellsOf 5 = 1 := by kernel_rfl
  rcases open_ints Tryd.underlying22 Tryd.underlying5 hc h with ⟨hcs, hx⟩ | ⟨a, len, cap, zs, hcs, _, hl, hm, hz, hx, hcell, hwz⟩
  · simp only [List.cons.injEq, and_true] at hcs
    exact ⟨[], Nat.zero_le _, .inl ⟨rfl, none, 0, hcs⟩⟩
  · simp only [List.cons.injEq, and_true] at hcs
    simp only [if_true] at hz
    by_cases h0 : len = 0
    · subst h0; exact ⟨[], Nat.zero_le _, .inl ⟨rfl, some a, cap, hcs⟩⟩
    · obtain ⟨ab, ao, spot⟩ := a
      have hspot : spot = none := by simpa [Addr.add] using World.cell?_spot (hcell 0 (by omega))
      subst hspot
      have hlen : ((zs.take len).map fun z => UInt8.ofNat z.toNat).length = len := by
        rw [List.length_map, List.length_take]; omega
      refine ⟨(zs.take len).map fun z => UInt8.ofNat z.toNat, by rw [hlen]; omega, .inr ⟨ab, ao, cap, by rw [hlen]; exact hcs, ?_, ?_⟩⟩
      · rw [hx] at hlt
        exact hlt (.cell ab (ao + 0)) (by simp only [MemPlace.row, List.mem_map, List.mem_range]; exact ⟨0, by omega, rfl⟩)
      · intro k y hy
        have hk : k < len := by
          have := (List.getElem?_eq_some_iff.1 hy).1
          rw [hlen] at this
          exact this
        have h1 := hcell k (by omega)
        rw [Addr.add_lit] at h1
        have hb := range_u8 hwz k
        rw [List.getD_eq_getElem?_getD] at h1
        rw [h1]
        rw [List.getElem?_map, List.getElem?_take_of_lt hk] at hy
        cases hq : zs[k]? with
        | none => rw [hq] at hy; cases hy
        | some z =>
          rw [hq] at hy hb
          simp only [Option.getD_some, Option.map_some, Option.some.injEq] at hy hb ⊢
          rw [← hy]
          show Value.int .u8 z = Value.int .u8 ((UInt8.ofNat z.toNat).toNat : Int)
          congr 1
          rw [UInt8.toNat_ofNat']
          have : z.toNat % 2 ^ 8 = z.toNat := Nat.mod_eq_of_lt (by omega)
          rw [this]; omega

set_option maxHeartbeats 1000000 in
theorem toByteS_nil (a : Option Addr) (cap : Nat) (w : World) :
    Calls Tryd.prog 5 #[.slice a 0 cap] w fun e w' =>
      ∃ g, e = .returned (.slice (some ⟨g, 0, none⟩) 0 0) ∧ OwnY w' w.heap.size g 0 [] ∧ Below w.heap.size w w' := by
  obtain ⟨i, hi, hz0, hz1, hz2⟩ := info_parts Tryd.infoByte
  have HI : Hid (Tryd.prog.info? 5 = some i ∧ i.zero = some (.int .u8 0) ∧ i.size = 1 ∧ i.bytes = 1) := ⟨hi, hz0, hz1, hz2⟩
  clear hi hz0 hz1 hz2
  go_enter Tryd.func5, Tryd.ntmps5
  go_wp2_with (at_make; refine wpList_make_full _ rfl _ _ 22 rfl w.heap.size 5 i _ 1 Tryd.underlying22 HI.out.1 HI.out.2.1 HI.out.2.2.1 _ _ _ _ 0 rfl rfl ?_ ?_ ?hb ?hm ?hs ?_)
  case hb => rw [HI.out.2.2.2]; omega
  case hm => unfold maxLen; omega
  case hs => exact Nat.le_refl _
  · rfl
  · rfl
  intro w1 hown hgrow
  rw [made_zeroY] at hown
  have hb1 : Below w.heap.size w w1 := (Below.refl _ _).grown hgrow (Nat.le_refl _) (fun k hk => by cases hk)
  have HW : Hid (OwnY w1 w.heap.size w.heap.size 0 []) := hown
  clear hown hgrow
  go_wp2_with fail
  go_loopw [4] (fun i wr => i = .int .i64 0 ∧ wr = w1) (fun i _ => 0)
  case atStart => exact ⟨rfl, rfl⟩
  case round =>
    obtain ⟨rfl, rfl⟩ := hrel
    go_wp2_with fail
    go_ret
    exact ⟨w.heap.size, rfl, HW.out, hb1⟩
/-- A copy of bytes that came in. -/
theorem toByteS_in (v : Value) (xs : List UInt8) (w : World) (h : BysIn w v xs) (h1 : xs.length ≤ 1048576) :
    Calls Tryd.prog 5 #[v] w fun e w' =>
      ∃ g, e = .returned (.slice (some ⟨g, 0, none⟩) xs.length xs.length) ∧ OwnY w' w.heap.size g xs.length xs ∧ Below w.heap.size w w' := by
  rcases h.2 with ⟨rfl, a, cap, rfl⟩ | ⟨b, off, cap, rfl, hlt, hA⟩
  · exact toByteS_nil a cap w
  · exact toByteS_core b off cap xs w hA hlt h1
end Go.Proofs.YtnncedndlhfdkabDoor

/-
  laws' eqFileRes, markFileRes, heldFileRes, markByteS.
-/
namespace Go.Proofs.YtnncedndlhfdkabDoor
open Go.ChangeShapes Go.WideShapes Go.ChangeAt Go.RowKit Go.Deep
set_option linter.unusedVariables false
set_option linter.unusedSimpArgs false
set_option maxRecDepth 100000

theorem OwnU.slice {w : World} {base : Nat} {u : Value} {R : List Ent} (h : OwnU w base u R) : ∃ a n c, u = .slice a n c := by
  rcases h with ⟨rfl, _⟩ | ⟨g, cp, rfl, _⟩
  · exact ⟨_, _, _, rfl⟩
  · exact ⟨_, _, _, rfl⟩
theorem OwnU.below {w w' : World} {base : Nat} {u : Value} {R : List Ent} (h : OwnU w base u R) (hb : Below w.heap.size w w') : OwnU w' base u R := h.kept (grown_of_below hb none) (fun g q => by cases q)
end Go.Proofs.YtnncedndlhfdkabDoor

/-
  Variables of a struct's type that lie in memory, as rows of one element.
-/
namespace Go.Proofs.YtnncedndlhfdkabDoor
open Go.ChangeShapes Go.WideShapes Go.ChangeAt Go.RowKit Go.Deep
set_option linter.unusedVariables false

def BoxAt (w : World) (base t sz g : Nat) (vs : List Value) : Prop := w.ownsRow base t sz (.slice (some ⟨g, 0, none⟩) 1 1) 1 vs
theorem BoxAt.len {w : World} {base t sz g : Nat} {vs : List Value} (h : BoxAt w base t sz g vs) : vs.length = sz := by have := h.1; omega
theorem BoxAt.lt {w : World} {base t sz g : Nat} {vs : List Value} (h : BoxAt w base t sz g vs) : base ≤ g ∧ g < w.heap.size := World.ownsRow.lt h g rfl
theorem BoxAt.chg {S : Nat → Prop} {w w' : World} {base t sz g : Nat} {vs : List Value} (h : BoxAt w base t sz g vs) (hc : Chg S w w') (hn : ¬ S g) : BoxAt w' base t sz g vs := own_chg h hc (fun k q => by simp [Value.ownBlock] at q; subst q; exact hn)
theorem BoxAt.below {w w' : World} {base t sz g : Nat} {vs : List Value} (h : BoxAt w base t sz g vs) (hb : Below w.heap.size w w') : BoxAt w' base t sz g vs := h.chg (Chg.of_below hb) (S := fun _ => False) (fun q => q)
theorem BoxAt.cell {w : World} {base t sz g : Nat} {vs : List Value} (h : BoxAt w base t sz g vs) {j : Nat} {v : Value} (hv : vs[j]? = some v) : w.cell? ⟨g, j, none⟩ = some v := by
  have hj := (List.getElem?_eq_some_iff.1 hv).1
  rw [World.ownsRow.cellAt h j (by have := h.len; omega), hv]
theorem BoxAt.frozen {w : World} {base t sz g : Nat} {vs : List Value} (h : BoxAt w base t sz g vs) (j : Nat) : w.frozen? ⟨g, j, none⟩ = false := World.ownsRow.frozenAt h j
theorem BoxAt.set {w : World} {base t sz g : Nat} {vs : List Value} (h : BoxAt w base t sz g vs) (j : Nat) (u : Value) : BoxAt (w.setCell ⟨g, j, none⟩ u) base t sz g (vs.set j u) := (World.ownsRow.stored h j u).1
theorem BoxAt.beside {w : World} {base t sz g : Nat} {vs : List Value} (h : BoxAt w base t sz g vs) {k : Nat} (hk : ¬ g = k) (j : Nat) (u : Value) : BoxAt (w.setCell ⟨k, j, none⟩ u) base t sz g vs := h.chg (Chg.of_set w k j u (S := fun q => q = k) rfl) hk
theorem boxAt_new (w : World) {base t sz : Nat} (cs : Array Value) (hb : base ≤ w.heap.size) (hs : cs.size = sz) : BoxAt (w.alloc (.cells cs t)) base t sz w.heap.size cs.toList :=
  World.ownsRow_lit w cs 1 hb (by decide) (by omega)
/-- Three cells stored. -/
def set3 (w : World) (g : Nat) (a b c : Value) : World := ((w.setCell ⟨g, 0, none⟩ a).setCell ⟨g, 1, none⟩ b).setCell ⟨g, 2, none⟩ c
theorem BoxAt.set3 {w : World} {base t g : Nat} {vs : List Value} (h : BoxAt w base t 3 g vs) (a b c : Value) : BoxAt (set3 w g a b c) base t 3 g [a, b, c] := by
  have h1 := ((h.set 0 a).set 1 b).set 2 c
  have hl := h.len
  match vs, hl with
  | [x, y, z], _ => exact h1
theorem BoxAt.beside3 {w : World} {base t sz g : Nat} {vs : List Value} (h : BoxAt w base t sz g vs) {k : Nat} (hk : ¬ g = k) (a b c : Value) : BoxAt (Go.Proofs.YtnncedndlhfdkabDoor.set3 w k a b c) base t sz g vs :=
  ((h.beside hk 0 a).beside hk 1 b).beside hk 2 c
theorem below_set {B : Nat} {a w : World} (h : Below B a w) {k : Nat} (hk : B ≤ k) (j : Nat) (u : Value) : Below B a (w.setCell ⟨k, j, none⟩ u) := h.setCell (p := ⟨k, j, none⟩) hk u
theorem below_set3 {B : Nat} {a w : World} (h : Below B a w) {k : Nat} (hk : B ≤ k) (x y z : Value) : Below B a (set3 w k x y z) := below_set (below_set (below_set h hk 0 x) hk 1 y) hk 2 z
theorem size_set (w : World) (k j : Nat) (u : Value) : (w.setCell ⟨k, j, none⟩ u).heap.size = w.heap.size := by
  simp [World.setCell]
end Go.Proofs.YtnncedndlhfdkabDoor

/-
  Reading a number byte by byte (mathematics).
-/
namespace Go.Proofs.YtnncedndlhfdkabDoor
set_option linter.unusedVariables false
set_option linter.unusedSimpArgs false

/-- What 'k' bytes read, of the value 'acc', make of the number that follows. -/
def cont (k acc : Nat) (o : Option (Nat × List UInt8)) : Option (Nat × List UInt8) :=
  match o with
  | none => none
  | some (m, t) => if 0 < k ∧ m = 0 then none else some (acc + 128 ^ k * m, t)
theorem cont_zero (o : Option (Nat × List UInt8)) : cont 0 0 o = o := by
  cases o with
  | none => rfl
  | some p => obtain ⟨m, t⟩ := p; simp [cont]
theorem cont_more {k acc : Nat} {x : UInt8} {t : List UInt8} (hx : ¬ x.toNat < 128) : cont k acc (getAny (x :: t)) = cont (k + 1) (acc + x.toNat % 128 * 128 ^ k) (getAny t) := by
  rw [getAny, if_neg hx]
  cases hg : getAny t with
  | none => rfl
  | some p =>
    obtain ⟨m, u⟩ := p
    have h2 := u8lt x
    by_cases hm : m = 0
    · subst hm
      simp [cont]
    · simp only [cont]
      rw [if_neg hm]
      simp only []
      rw [if_neg (by omega), if_neg (by omega)]
      have h1 : x.toNat % 128 = x.toNat - 128 := by omega
      rw [h1, Nat.mul_add, Nat.pow_succ, Nat.mul_comm (x.toNat - 128), Nat.mul_assoc]
      simp [Nat.add_assoc]
/-- The number read so far and what follows. -/
structure NumTo (ys : List UInt8) (k acc : Nat) : Prop where
  eq : getAny ys = cont k acc (getAny (ys.drop k))
  lt : acc < 128 ^ k
  len : k ≤ ys.length
theorem numTo_zero (ys : List UInt8) : NumTo ys 0 0 := ⟨by rw [cont_zero]; rfl, by simp, Nat.zero_le _⟩
theorem NumTo.more {ys : List UInt8} {k acc : Nat} {x : UInt8} (h : NumTo ys k acc) (hx : ys[k]? = some x) (h8 : ¬ x.toNat < 128) : NumTo ys (k + 1) (acc + x.toNat % 128 * 128 ^ k) := by
  have hk := (List.getElem?_eq_some_iff.1 hx).1
  have hd : ys.drop k = x :: ys.drop (k + 1) := by rw [List.drop_eq_getElem_cons hk, (List.getElem?_eq_some_iff.1 hx).2]
  have h1 := h.lt
  refine ⟨?_, ?_, hk⟩
  · rw [h.eq, hd, cont_more h8]
  · have h2 : x.toNat % 128 ≤ 127 := by omega
    have h3 : x.toNat % 128 * 128 ^ k ≤ 127 * 128 ^ k := Nat.mul_le_mul_right _ h2
    rw [Nat.pow_succ]
    omega
theorem pow9 {k : Nat} (h : k ≤ 9) : 128 ^ k ≤ 9223372036854775808 := by
  have := Nat.pow_le_pow_right (n := 128) (by omega) h
  exact Nat.le_trans this (by decide)
theorem pow8 {k : Nat} (h : k ≤ 8) : 128 ^ k ≤ 72057594037927936 := by
  have := Nat.pow_le_pow_right (n := 128) (by omega) h
  exact Nat.le_trans this (by decide)
/-- Nothing follows. -/
theorem NumTo.none {ys : List UInt8} {k acc : Nat} (h : NumTo ys k acc) (hk : ys.length ≤ k) : getNum ys = Option.none := by
  unfold getNum
  rw [h.eq, List.drop_of_length_le hk]
  rfl
/-- The tenth byte is too great. -/
theorem NumTo.great {ys : List UInt8} {acc : Nat} {x : UInt8} (h : NumTo ys 9 acc) (hx : ys[9]? = some x) (h1 : 1 < x.toNat) : getNum ys = Option.none := by
  have hk := (List.getElem?_eq_some_iff.1 hx).1
  have hd : ys.drop 9 = x :: ys.drop (9 + 1) := by rw [List.drop_eq_getElem_cons hk, (List.getElem?_eq_some_iff.1 hx).2]
  unfold getNum
  rw [h.eq, hd]
  by_cases h8 : x.toNat < 128
  · rw [getAny, if_pos h8]
    simp only [cont]
    rw [if_neg (by omega)]
    simp only []
    rw [if_neg (by omega)]
  · rw [cont_more h8]
    cases hg : getAny (ys.drop (9 + 1)) with
    | none => rfl
    | some p =>
      obtain ⟨m, u⟩ := p
      simp only [cont]
      by_cases hm : m = 0
      · rw [if_pos ⟨by omega, hm⟩]
      · rw [if_neg (by omega)]
        simp only []
        rw [if_neg (by omega)]
theorem NumTo.bound {ys : List UInt8} {k acc y : Nat} (h : NumTo ys k acc) (hk9 : k ≤ 9) (h9 : k = 9 → y ≤ 1) : acc + y % 128 * 128 ^ k < 2 ^ 64 := by
  have hlt := h.lt
  by_cases q : k = 9
  · subst q
    have := h9 rfl
    have : y % 128 * 128 ^ 9 ≤ 1 * 128 ^ 9 := Nat.mul_le_mul_right _ (by omega)
    omega
  · have h1 := pow8 (k := k) (by omega)
    have h2 : y % 128 * 128 ^ k ≤ 127 * 72057594037927936 := Nat.mul_le_mul (by omega) h1
    omega
/-- The last byte. -/
theorem NumTo.last {ys : List UInt8} {k acc : Nat} {x : UInt8} (h : NumTo ys k acc) (hx : ys[k]? = some x) (h8 : x.toNat < 128) (hk9 : k ≤ 9) (h9 : k = 9 → x.toNat ≤ 1) :
    (0 < k ∧ x.toNat = 0 → getNum ys = Option.none) ∧ (¬ (0 < k ∧ x.toNat = 0) → getNum ys = some (acc + x.toNat % 128 * 128 ^ k, ys.drop (k + 1)) ∧ acc + x.toNat % 128 * 128 ^ k < 2 ^ 64) := by
  have hk := (List.getElem?_eq_some_iff.1 hx).1
  have hd : ys.drop k = x :: ys.drop (k + 1) := by rw [List.drop_eq_getElem_cons hk, (List.getElem?_eq_some_iff.1 hx).2]
  have he : getAny ys = cont k acc (some (x.toNat, ys.drop (k + 1))) := by rw [h.eq, hd, getAny, if_pos h8]
  have hlt := h.lt
  have hb : acc + x.toNat % 128 * 128 ^ k < 2 ^ 64 := by
    by_cases q : k = 9
    · subst q
      have := h9 rfl
      have : x.toNat % 128 * 128 ^ 9 ≤ 1 * 128 ^ 9 := Nat.mul_le_mul_right _ (by omega)
      omega
    · have h1 := pow8 (k := k) (by omega)
      have h2 : x.toNat % 128 * 128 ^ k ≤ 127 * 72057594037927936 := Nat.mul_le_mul (by omega) h1
      omega
  unfold getNum
  rw [he]
  simp only [cont]
  constructor
  · intro q
    rw [if_pos q]
  · intro q
    rw [if_neg q]
    simp only []
    rw [Nat.mod_eq_of_lt h8, Nat.mul_comm] at hb
    rw [if_pos hb, Nat.mod_eq_of_lt h8, Nat.mul_comm x.toNat]
    exact ⟨rfl, hb⟩
end Go.Proofs.YtnncedndlhfdkabDoor

/-
  A region that draws its order and in which an operation, a call, ends in a panic: one walk in the order of the text. That operation and those behind it are taken out by
  stand-ins that leave a mark; the values of its operands, as they are when all has come up, are those that it finds.
-/
namespace Go.Proofs.YtnncedndlhfdkabDoor
open Go.ChangeShapes Go.WideShapes Go.ChangeAt Go.RowKit Go.Deep
set_option linter.unusedVariables false
set_option linter.unusedSimpArgs false

variable {P : Program} {C : World → Prop}
/-- The stand-in. -/
def fk (m : Value) (o : Oper) : Oper := { o with op := .move (.const m) }
/-- Every operation that lays a slot that 'o' reads is waited for by it; its own slot is nobody else's; what stands behind it waits for it. -/
def waitsB (pre : List Oper) (o : Oper) (tl : List Oper) (d : Tmp) (sl : List Tmp) : Bool :=
  sl.all (fun s => s != d && ((List.range pre.length).all (fun i => match pre[i]? with
    | some oi => oi.dst != some s || o.after.any (fun e => Region.binds .any e && e.on == i)
    | none => true) && tl.all (fun oi => oi.dst != some s))) && pre.all (fun oi => oi.dst != some d) && tl.all (fun oi => oi.dst != some d && oi.after.any (fun e => Region.binds .any e && Nat.ble pre.length e.on))
theorem get_part (pre tl : List Oper) (i : Nat) : (pre ++ tl).toArray[i]? = if i < pre.length then pre[i]? else tl[i - pre.length]? := by
  rw [List.getElem?_toArray]
  by_cases h : i < pre.length
  · rw [if_pos h, List.getElem?_append_left h]
  · rw [if_neg h, List.getElem?_append_right (by omega)]
theorem ready_fk (m : Value) (pre tl : List Oper) (listed : Array Bool) : Region.ready .any (pre ++ tl.map (fk m)).toArray listed = Region.ready .any (pre ++ tl).toArray listed := by
  unfold Region.ready
  have hz : (pre ++ tl.map (fk m)).toArray.size = (pre ++ tl).toArray.size := by simp
  rw [hz]
  congr 1
  funext i
  rw [get_part, get_part]
  by_cases h : i < pre.length
  · rw [if_pos h, if_pos h]
  · rw [if_neg h, if_neg h, List.getElem?_map]
    cases tl[i - pre.length]? <;> rfl
theorem yielded_fk (m : Value) (pre tl : List Oper) (tmps : Array Value) : yielded (pre ++ tl.map (fk m)).toArray tmps = yielded (pre ++ tl).toArray tmps := by
  funext j
  unfold yielded
  rw [get_part, get_part]
  by_cases h : j < pre.length
  · rw [if_pos h, if_pos h]
  · rw [if_neg h, if_neg h, List.getElem?_map]
    cases tl[j - pre.length]? <;> rfl
theorem put_getD (a : Act) (dst : Option Tmp) (v : Value) (s : Tmp) (h : dst ≠ some s) : (a.put dst v).tmps.getD s undef = a.tmps.getD s undef := by
  cases dst with
  | none => rfl
  | some t =>
    have hts : t ≠ s := fun q => h (by rw [q])
    show (a.tmps.setIfInBounds t v).getD s undef = _
    rw [Array.getD_eq_getD_getElem?, Array.getD_eq_getD_getElem?, Array.getElem?_setIfInBounds_ne hts]
theorem put_defers (a : Act) (dst : Option Tmp) (v : Value) : (a.put dst v).defers = a.defers := by cases dst <;> rfl
theorem listed_set (listed : Array Bool) (i j : Nat) (d : Bool) (h : listed.getD j d = true) : (listed.setIfInBounds i true).getD j d = true := by
  rw [Array.getD_eq_getD_getElem?] at h ⊢
  by_cases q : i = j
  · subst q
    rw [Array.getElem?_setIfInBounds_self]
    split
    · rfl
    · next hl => rw [Array.getElem?_eq_none (by omega)] at h; exact h
  · rw [Array.getElem?_setIfInBounds_ne q]; exact h
/-- A slot that nobody lays any more holds what it holds at the end. -/
theorem slot_end {ops : Array Oper} {Q : Act → Prop} (s : Tmp) (x : Value) (hQ : ∀ a, Q a → a.tmps.getD s undef = x) : ∀ (fuel : Nat) (listed : Array Bool) (a : Act), wpAnyQ P .any ops C Q fuel listed a →
    (∀ i oi, ops[i]? = some oi → oi.dst = some s → listed.getD i true = true) → a.tmps.getD s undef = x
  | 0, listed, a, h, _ => hQ a h.2
  | fuel + 1, listed, a, h, hl => by
    cases hr : Region.ready .any ops listed with
    | nil => exact hQ a (h.1 hr)
    | cons i rest =>
      have hi : i ∈ Region.ready .any ops listed := by rw [hr]; simp
      have hq := h.2 i hi
      obtain ⟨hun, oi, hoi, _⟩ := mem_ready.1 hi
      have hd : oi.dst ≠ some s := fun e => by
        have := hl i oi hoi e
        rw [hun] at this; cases this
      have hl' : ∀ j oj, ops[j]? = some oj → oj.dst = some s → (listed.setIfInBounds i true).getD j true = true := fun j oj hj e => listed_set _ _ _ _ (hl j oj hj e)
      unfold qOp at hq
      simp only [hoi] at hq
      split at hq
      · obtain ⟨v, _, h2⟩ := hq
        have := slot_end s x hQ fuel _ _ h2 hl'
        rwa [put_getD _ _ _ _ hd] at this
      · have := slot_end s x hQ fuel _ _ hq hl'
        rwa [put_getD _ _ _ _ hd] at this
theorem any_of_fk {m : Value} {Q : Exit → Act → World → Prop} {pre tl : List Oper} {o : Oper} {D : List Deferred} (d : Tmp) (sl : List (Tmp × Value)) (hB2 : waitsB pre o tl d (sl.map (·.1)) = true) (hdst : o.dst = some d) (hg : o.guard = none)
    (hop : ∀ (a' : Act) (w' : World) (K : Act → World → Prop), C w' → a'.defers = D → (∀ p ∈ sl, a'.tmps.getD p.1 undef = p.2) → o.wp P a' w' K Q) :
    ∀ (fuel : Nat) (listed : Array Bool) (a : Act) (w : World), wpAnyQ P .any (pre ++ (o :: tl).map (fk m)).toArray C (fun a' => a'.tmps.getD d undef = m ∧ ∀ p ∈ sl, a'.tmps.getD p.1 undef = p.2) fuel listed a → C w →
      a.tmps.getD d undef ≠ m → a.defers = D → (∀ j, pre.length ≤ j → listed.getD j false = false) → wpAny P .any (pre ++ o :: tl).toArray Q fuel listed a w
  | 0, listed, a, w, h, _, hm, _, _ => absurd h.2.1 hm
  | fuel + 1, listed, a, w, h, hw, hm, hD, hJ => by
    have hB3 := hB2
    simp only [waitsB, Bool.and_eq_true, List.all_eq_true] at hB2
    obtain ⟨⟨hS, hP⟩, hT⟩ := hB2
    refine ⟨fun hr => absurd (h.1 (by rw [ready_fk]; exact hr)).1 hm, fun i hi => ?_⟩
    have hq := h.2 i (by rw [ready_fk]; exact hi)
    obtain ⟨hun, oi, hoi, hdep⟩ := mem_ready.1 hi
    rw [get_part] at hoi
    unfold wpOp
    unfold qOp at hq
    rw [get_part] at hq ⊢
    by_cases hlt : i < pre.length
    · rw [if_pos hlt] at hoi hq ⊢
      have hne : oi.dst ≠ some d := by
        have := hP oi (List.mem_of_getElem? hoi)
        simpa using this
      have hJ' : ∀ j, pre.length ≤ j → (listed.setIfInBounds i true).getD j false = false := by
        intro j hj
        have := hJ j hj
        rw [Array.getD_eq_getD_getElem?] at this ⊢
        rw [Array.getElem?_setIfInBounds_ne (by omega)]
        exact this
      simp only [hoi] at hq ⊢
      rw [yielded_fk] at hq
      split
      · next hwt =>
        rw [if_pos hwt] at hq
        obtain ⟨v, h1, h2⟩ := hq
        refine .inl (Oper.wp_of_quiet (K := fun a' => wpAnyQ P .any (pre ++ (o :: tl).map (fk m)).toArray C (fun a' => a'.tmps.getD d undef = m ∧ ∀ p ∈ sl, a'.tmps.getD p.1 undef = p.2) fuel (listed.setIfInBounds i true) a' ∧ a'.tmps.getD d undef ≠ m ∧ a'.defers = D) hw ?_ ⟨v, h1, h2, by rw [put_getD _ _ _ _ hne]; exact hm, by rw [put_defers]; exact hD⟩)
        intro a' w' hw' hk
        exact any_of_fk d sl hB3 hdst hg hop fuel _ a' w' hk.1 hw' hk.2.1 hk.2.2 hJ'
      · next hwt =>
        rw [if_neg hwt] at hq
        exact any_of_fk d sl hB3 hdst hg hop fuel _ _ w hq hw (by rw [put_getD _ _ _ _ hne]; exact hm) (by rw [put_defers]; exact hD) hJ'
    · rw [if_neg hlt] at hoi hq ⊢
      by_cases hn : i = pre.length
      · rw [hn, Nat.sub_self] at hoi hq ⊢
        simp only [List.getElem?_cons_zero, List.map_cons, Option.some.injEq] at hoi hq ⊢
        have hw1 : ∀ y, Region.wanted o y = true := fun y => by unfold Region.wanted; rw [hg]
        have hw2 : ∀ y, Region.wanted (fk m o) y = true := fun y => by unfold Region.wanted; show (match o.guard with | none => true | some (j, want) => y j == some want) = true; rw [hg]
        simp only [hw1, hw2, if_true] at hq ⊢
        obtain ⟨v, _, h2⟩ := hq
        refine .inl (hop a w _ hw hD fun p hp => ?_)
        have hps := hS p.1 (List.mem_map.2 ⟨p, hp, rfl⟩)
        have hpd : (some d : Option Tmp) ≠ some p.1 := by
          have := hps.1
          intro q
          cases q
          simp at this
        have h3 := slot_end (C := C) p.1 p.2 (fun a' h => h.2 p hp) fuel _ _ h2 (by
          intro j oj hj e
          rw [get_part] at hj
          by_cases hjl : j < pre.length
          · rw [if_pos hjl] at hj
            have h4 := hps.2.1 j (List.mem_range.2 hjl)
            simp only [hj, Bool.or_eq_true] at h4
            rcases h4 with h4 | h4
            · rw [e] at h4; simp at h4
            · rw [Array.any_eq_true'] at h4
              obtain ⟨ed, hed, h5⟩ := h4
              simp only [Bool.and_eq_true, beq_iff_eq] at h5
              have h6 := hdep ed (by rw [← hoi]; exact hed) h5.1
              rw [h5.2] at h6
              refine listed_set _ _ _ _ ?_
              rw [Array.getD_eq_getD_getElem?] at h6 ⊢
              cases hx : listed[j]? with
              | none => rfl
              | some y => rw [hx] at h6; exact h6
          · rw [if_neg hjl] at hj
            obtain ⟨k, hk⟩ : ∃ k, j - pre.length = k := ⟨_, rfl⟩
            rw [hk, ← List.map_cons, List.getElem?_map] at hj
            cases k with
            | zero =>
              simp only [List.getElem?_cons_zero, Option.map_some, Option.some.injEq] at hj
              rw [← hj] at e
              exact absurd (hdst.symm.trans e) hpd
            | succ k =>
              simp only [List.getElem?_cons_succ] at hj
              cases ht : tl[k]? with
              | none => rw [ht] at hj; cases hj
              | some ot =>
                rw [ht] at hj
                simp only [Option.map_some, Option.some.injEq] at hj
                have h7 := hps.2.2 ot (List.mem_of_getElem? ht)
                rw [← hj] at e
                have e2 : ot.dst = some p.1 := e
                rw [e2] at h7
                simp at h7)
        have hfd : (fk m o).dst = some d := hdst
        rwa [hfd, put_getD _ _ _ _ hpd] at h3
      · exfalso
        obtain ⟨k, hk⟩ : ∃ k, i - pre.length = k + 1 := ⟨i - pre.length - 1, by omega⟩
        rw [hk] at hoi
        simp only [List.getElem?_cons_succ] at hoi
        have h8 := hT oi (List.mem_of_getElem? hoi)
        rw [Array.any_eq_true'] at h8
        obtain ⟨ed, hed, h9⟩ := h8.2
        simp only [Bool.and_eq_true] at h9
        have h10 := hdep ed hed h9.1
        rw [hJ ed.on (Nat.le_of_ble_eq_true h9.2)] at h10
        cases h10
/-- The region. -/
theorem wp_region_dies {id : Nat} {Q : Exit → Act → World → Prop} {a : Act} {w : World} (pre : List Oper) (o : Oper) (tl : List Oper) (d : Tmp) (sl : List (Tmp × Value)) (l : List Oper) (hl : l = pre ++ o :: tl) (hm : P.follows .mixedOrders = true) (hB : ∀ m, Region.lexB .any (pre ++ (o :: tl).map (fk m)).toArray = true)
    (hB2 : waitsB pre o tl d (sl.map (·.1)) = true) (hdst : o.dst = some d) (hg : o.guard = none) (hC : C { w with drawn := w.drawn + 1 })
    (h : ∀ m, wpQuiet P (pre ++ (o :: tl).map (fk m)).toArray C (fun a' => a'.tmps.getD d undef = m ∧ ∀ p ∈ sl, a'.tmps.getD p.1 undef = p.2) (pre ++ (o :: tl).map (fk m)) a)
    (hop : ∀ (a' : Act) (w' : World) (K : Act → World → Prop), C w' → a'.defers = a.defers → (∀ p ∈ sl, a'.tmps.getD p.1 undef = p.2) → o.wp P a' w' K Q) : (Code.region id l.toArray true).wp P Q a w := by
  subst hl
  obtain ⟨m, h0⟩ : ∃ m, a.tmps.getD d undef ≠ m := by
    by_cases q : a.tmps.getD d undef = .bool true
    · exact ⟨.bool false, by rw [q]; intro e; cases e⟩
    · exact ⟨.bool true, q⟩
  have hBm := hB m
  simp only [Region.lexB, Bool.and_eq_true] at hBm
  refine wp_region_any hm ?_
  have h1 := wpAnyQ_lex (C := C) (md := .any) hBm.1 (pre ++ (o :: tl).map (fk m)) 0 (Array.replicate (pre ++ (o :: tl).map (fk m)).toArray.size false) a (by simp) (by simpa using hBm.2) (h m)
  have hz : (pre ++ o :: tl).toArray.size = (pre ++ (o :: tl).map (fk m)).length := by simp
  rw [hz]
  have hz2 : (pre ++ (o :: tl).map (fk m)).toArray.size = (pre ++ (o :: tl).map (fk m)).length := by simp
  rw [hz2] at h1
  refine any_of_fk d sl hB2 hdst hg hop _ _ _ _ h1 hC h0 rfl ?_
  intro j _
  rw [Array.getD_eq_getD_getElem?, Array.getElem?_replicate]
  split <;> rfl
end Go.Proofs.YtnncedndlhfdkabDoor

/-
  A region that draws its order, whose operations read and whose callees leave alone what lay there: one walk.
-/
namespace Go.Proofs.YtnncedndlhfdkabDoor
open Go.ChangeShapes Go.WideShapes Go.ChangeAt Go.RowKit Go.Deep
set_option linter.unusedVariables false

/-- A world that has grown out of 'w'. -/
structure Out (w : World) where
  u : World
  out : Below w.heap.size w u

theorem wp_region_out {id : Nat} {Q : Exit → Act → World → Prop} {a : Act} {w : World} {l : List Oper} (hm : Tryd.prog.follows .mixedOrders = true) (hB : Region.lexB .any l.toArray = true)
    (h : wpQuiet Tryd.prog l.toArray (fun w' => ∃ n : Out w, w' = n.u) (fun a' => ∀ w', (∃ n : Out w, w' = n.u) → Q .normal a' w') l a) : (Code.region id l.toArray true).wp Tryd.prog Q a w :=
  wp_region_quiet (C := fun w' => ∃ n : Out w, w' = n.u) hm hB ⟨⟨_, (Below.refl _ _).drew⟩, rfl⟩ (by simpa using h)
theorem Calls.out_of {f : FuncId} {args : Array Value} {w : World} {n : Out w} {v : Value}
    (h : Calls Tryd.prog f args n.u fun e w' => e = .returned v ∧ Below n.u.heap.size n.u w') : Calls Tryd.prog f args n.u fun e w'' => e = .returned v ∧ ∃ m : Out w, w'' = m.u :=
  h.mono fun _ w' ⟨he, hb⟩ => ⟨he, ⟨w', n.out.trans (hb.mono n.out.size)⟩, rfl⟩
theorem ents_out {w : World} {b off j : Nat} {L : List Ent} {x : Ent} (h : EntsAt w b off L) (hb : b < w.heap.size) (hx : L[j]? = some x) :
    (∀ n : Out w, n.u.cell? ⟨b, off + j * 6, none⟩ = some (.string x.row)) ∧ (∀ n : Out w, n.u.cell? ⟨b, off + j * 6 + 1, none⟩ = some (.string x.fam)) ∧ (∀ n : Out w, n.u.cell? ⟨b, off + j * 6 + 2, none⟩ = some (.string x.qual)) ∧
    (∀ n : Out w, n.u.cell? ⟨b, off + j * 6 + 3, none⟩ = some (.int .u64 x.ts)) ∧ (∀ n : Out w, n.u.cell? ⟨b, off + j * 6 + 4, none⟩ = some (.int .i64 x.kind)) ∧ (∀ n : Out w, n.u.cell? ⟨b, off + j * 6 + 5, none⟩ = some (.string x.val)) :=
  ⟨fun n => (h.below n.out hb j x hx).1, fun n => (h.below n.out hb j x hx).2.1, fun n => (h.below n.out hb j x hx).2.2.1, fun n => (h.below n.out hb j x hx).2.2.2.1, fun n => (h.below n.out hb j x hx).2.2.2.2.1, fun n => (h.below n.out hb j x hx).2.2.2.2.2⟩
end Go.Proofs.YtnncedndlhfdkabDoor

