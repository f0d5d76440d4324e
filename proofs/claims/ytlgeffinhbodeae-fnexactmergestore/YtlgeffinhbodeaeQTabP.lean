/-
  A row of tablets of the call's own.
-/
import Derived.Test.YtlgeffinhbodeaeQTabs
namespace Go.Proofs.Ytlgeffinhbodeae
open Go.ChangeShapes Go.WideShapes Go.ChangeAt Go.RowKit Go.Deep
set_option linter.unusedVariables false
set_option linter.unusedSimpArgs false
set_option maxRecDepth 100000

abbrev Pr := ByteArray × Value
def cellsP (xs : List Pr) : List Value := xs.flatMap fun p => [.string p.1, p.2]
theorem cellsP_nil : cellsP [] = [] := rfl
theorem cellsP_cons (e : Pr) (es : List Pr) : cellsP (e :: es) = [.string e.1, e.2] ++ cellsP es := by simp [cellsP]
theorem cellsP_append (es fs : List Pr) : cellsP (es ++ fs) = cellsP es ++ cellsP fs := by simp [cellsP]
theorem length_cellsP (es : List Pr) : (cellsP es).length = es.length * 2 := by
  induction es with
  | nil => rfl
  | cons e es ih => rw [cellsP_cons, List.length_append, ih]; simp; omega
theorem cellsP_get (es : List Pr) : ∀ (k : Nat) (e : Pr), es[k]? = some e → ∀ j, j < 2 → (cellsP es)[k * 2 + j]? = [Value.string e.1, e.2][j]? := by
  induction es with
  | nil => intro k e h; simp at h
  | cons f es ih =>
    intro k e h j hj
    rw [cellsP_cons]
    cases k with
    | zero =>
      simp at h; subst h
      rw [List.getElem?_append_left (by show 0 * 2 + j < 2; omega)]
      simp
    | succ k =>
      simp at h
      rw [List.getElem?_append_right (by show 2 ≤ (k + 1) * 2 + j; omega)]
      have : (k + 1) * 2 + j - [Value.string f.1, f.2].length = k * 2 + j := by show (k + 1) * 2 + j - 2 = _; omega
      rw [this]; exact ih k e h j hj
theorem cellsP_set (es : List Pr) : ∀ (k : Nat) (e e' : Pr) (u : Value) (j : Nat), es[k]? = some e → j < 2 → [Value.string e'.1, e'.2] = [Value.string e.1, e.2].set j u → (cellsP es).set (k * 2 + j) u = cellsP (es.set k e') := by
  induction es with
  | nil => intro k e e' u j h; simp at h
  | cons f es ih =>
    intro k e e' u j h hj hc
    rw [cellsP_cons]
    cases k with
    | zero =>
      simp at h; subst h
      rw [List.set_append_left _ _ (by show 0 * 2 + j < 2; omega), List.set_cons_zero, cellsP_cons, hc]
      simp
    | succ k =>
      simp at h
      rw [List.set_append_right _ _ (by show 2 ≤ (k + 1) * 2 + j; omega), List.set_cons_succ, cellsP_cons]
      have : (k + 1) * 2 + j - [Value.string f.1, f.2].length = k * 2 + j := by show (k + 1) * 2 + j - 2 = _; omega
      rw [this, ih k e e' u j h hj hc]
/-- A row of the call's own holds tablets. -/
def OwnP (w : World) (base g cap : Nat) (xs : List Pr) : Prop := w.ownsRow base 133 2 (.slice (some ⟨g, 0, none⟩) xs.length cap) xs.length (cellsP xs)
theorem OwnP.cells {w : World} {base g cap : Nat} {xs : List Pr} (h : OwnP w base g cap xs) {i : Nat} {p : Pr} (hp : xs[i]? = some p) : w.cell? ⟨g, i * 2, none⟩ = some (.string p.1) ∧ w.cell? ⟨g, i * 2 + 1, none⟩ = some p.2 := by
  have hi : i < xs.length := (List.getElem?_eq_some_iff.1 hp).1
  have c := fun j (hj : j < 2) => (World.ownsRow.cellAt h (i * 2 + j) (by omega)).trans (cellsP_get xs i p hp j hj)
  refine ⟨?_, ?_⟩
  · simpa using c 0 (by omega)
  · simpa using c 1 (by omega)
theorem OwnP.lt {w : World} {base g cap : Nat} {xs : List Pr} (h : OwnP w base g cap xs) : base ≤ g ∧ g < w.heap.size := World.ownsRow.lt h g rfl
theorem OwnP.below {B : Nat} {w w' : World} {base g cap : Nat} {xs : List Pr} (h : OwnP w base g cap xs) (hb : Below B w w') (hg : g < B) : OwnP w' base g cap xs := by
  refine ⟨h.1, ?_⟩
  rcases h.2 with hn | ⟨g', cap', cur, hv, h1, h2, rest⟩
  · exact .inl hn
  · simp only [Value.slice.injEq, Option.some.injEq, Addr.mk.injEq, and_true, true_and] at hv
    obtain ⟨rfl, rfl⟩ := hv
    exact .inr ⟨g, cap, cur, rfl, h1, by rw [hb.block g hg]; exact h2, rest⟩
theorem OwnP.set {w : World} {base g cap : Nat} {xs : List Pr} (h : OwnP w base g cap xs) (k j : Nat) (e e' : Pr) (u : Value) (hk : xs[k]? = some e) (hj : j < 2) (hc : [Value.string e'.1, e'.2] = [Value.string e.1, e.2].set j u) :
    OwnP (w.setCell ⟨g, k * 2 + j, none⟩ u) base g cap (xs.set k e') := by
  have := (World.ownsRow.stored h (k * 2 + j) u).1
  rw [cellsP_set xs k e e' u j hk hj hc] at this
  unfold OwnP
  rw [List.length_set]
  exact this
theorem OwnP.put {w : World} {base g cap : Nat} {xs : List Pr} (h : OwnP w base g cap xs) (k : Nat) (f e : Pr) (hk : xs[k]? = some f) :
    OwnP ((w.setCell ⟨g, k * 2, none⟩ (.string e.1)).setCell ⟨g, k * 2 + 1, none⟩ e.2) base g cap (xs.set k e) := by
  have hlt : k < xs.length := (List.getElem?_eq_some_iff.1 hk).1
  have g1 := h.set k 0 f (e.1, f.2) (.string e.1) hk (by omega) rfl
  have g2 := g1.set k 1 (e.1, f.2) e e.2 (by simp [hlt]) (by omega) rfl
  simpa only [List.set_set, Nat.add_zero] using g2
theorem OwnP.mono {w : World} {base base' g cap : Nat} {xs : List Pr} (h : OwnP w base g cap xs) (hb : base' ≤ base) : OwnP w base' g cap xs := by
  refine ⟨h.1, ?_⟩
  rcases h.2 with hn | ⟨g', cap', cur, hv, h1, rest⟩
  · exact .inl hn
  · exact .inr ⟨g', cap', cur, hv, Nat.le_trans hb h1, rest⟩
theorem Try.infoTab : (Try.prog.info? 133).map (fun i => (i.zero, i.size, i.bytes)) = some (some (.agg #[.string ⟨#[]⟩, .slice none 0 0]), 2, 40) := by kernel_rfl
def zeroP : Pr := (⟨#[]⟩, .slice none 0 0)
theorem made_tabs (n : Nat) : (madeCells #[.string ⟨#[]⟩, .slice none 0 0] (n * 2)).toList = cellsP (List.replicate n zeroP) := by
  apply List.ext_getElem?
  intro j
  by_cases hj : j < n * 2
  · have h := cellsP_get (List.replicate n zeroP) (j / 2) zeroP (by rw [List.getElem?_replicate, if_pos (by omega)]) (j % 2) (Nat.mod_lt _ (by omega))
    rw [show j / 2 * 2 + j % 2 = j by omega] at h
    rw [h]
    have h6 : j % 2 < 2 := Nat.mod_lt _ (by omega)
    simp [madeCells, hj]
    generalize j % 2 = m at *
    match m, h6 with
    | 0, _ => rfl
    | 1, _ => rfl
  · have h1 : (cellsP (List.replicate n zeroP)).length ≤ j := by rw [length_cellsP, List.length_replicate]; omega
    rw [List.getElem?_eq_none h1]
    simp [madeCells, hj]
end Go.Proofs.Ytlgeffinhbodeae
