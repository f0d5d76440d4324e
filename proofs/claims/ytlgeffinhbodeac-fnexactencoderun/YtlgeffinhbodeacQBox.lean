/-
  Variables of a struct's type that lie in memory, as rows of one element.
-/
import Derived.Test.YtlgeffinhbodeacQChg
namespace Go.Proofs.Ytlgeffinhbodeac
open Go.ChangeShapes Go.WideShapes Go.ChangeAt Go.RowKit Go.Deep
set_option linter.unusedVariables false

def BoxAt (w : World) (base t sz g : Nat) (vs : List Value) : Prop := w.ownsRow base t sz (.slice (some ⟨g, 0, none⟩) 1 1) 1 vs
theorem BoxAt.len {w : World} {base t sz g : Nat} {vs : List Value} (h : BoxAt w base t sz g vs) : vs.length = sz := by have := h.1; omega
theorem BoxAt.lt {w : World} {base t sz g : Nat} {vs : List Value} (h : BoxAt w base t sz g vs) : base ≤ g ∧ g < w.heap.size := World.ownsRow.lt h g rfl
theorem BoxAt.chg {S : Nat → Prop} {w w' : World} {base t sz g : Nat} {vs : List Value} (h : BoxAt w base t sz g vs) (hc : Chg S w w') (hn : ¬ S g) : BoxAt w' base t sz g vs := own_chg h hc (fun k q => by simp [Value.ownBlock] at q; subst q; exact hn)
theorem BoxAt.below {w w' : World} {base t sz g : Nat} {vs : List Value} (h : BoxAt w base t sz g vs) (hb : Below w.heap.size w w') : BoxAt w' base t sz g vs := h.chg (Chg.of_below hb) (S := fun _ => False) (fun q => q)
theorem BoxAt.cell {w : World} {base t sz g : Nat} {vs : List Value} (h : BoxAt w base t sz g vs) {j : Nat} {v : Value} (hv : vs[j]? = some v) : w.cell? ⟨g, j, none⟩ = some v := by
  have hj := (List.getElem?_eq_some_iff.1 hv).1
  rw [World.ownsRow.cellAt h j (by have := h.len; omega), hv]
theorem BoxAt.frozen {w : World} {base t sz g : Nat} {vs : List Value} (h : BoxAt w base t sz g vs) (j : Nat) : w.frozen? ⟨g, j, none⟩ = false := World.ownsRow.frozenAt h j
theorem BoxAt.set {w : World} {base t sz g : Nat} {vs : List Value} (h : BoxAt w base t sz g vs) (j : Nat) (u : Value) : BoxAt (w.setCell ⟨g, j, none⟩ u) base t sz g (vs.set j u) := (World.ownsRow.stored h j u).1
theorem BoxAt.beside {w : World} {base t sz g : Nat} {vs : List Value} (h : BoxAt w base t sz g vs) {k : Nat} (hk : ¬ g = k) (j : Nat) (u : Value) : BoxAt (w.setCell ⟨k, j, none⟩ u) base t sz g vs := h.chg (Chg.of_set w k j u (S := fun q => q = k) rfl) hk
theorem boxAt_new (w : World) {base t sz : Nat} (cs : Array Value) (hb : base ≤ w.heap.size) (hs : cs.size = sz) : BoxAt (w.alloc (.cells cs t)) base t sz w.heap.size cs.toList :=
  World.ownsRow_lit w cs 1 hb (by decide) (by omega)
/-- Three cells stored. -/
def set3 (w : World) (g : Nat) (a b c : Value) : World := ((w.setCell ⟨g, 0, none⟩ a).setCell ⟨g, 1, none⟩ b).setCell ⟨g, 2, none⟩ c
theorem BoxAt.set3 {w : World} {base t g : Nat} {vs : List Value} (h : BoxAt w base t 3 g vs) (a b c : Value) : BoxAt (set3 w g a b c) base t 3 g [a, b, c] := by
  have h1 := ((h.set 0 a).set 1 b).set 2 c
  have hl := h.len
  match vs, hl with
  | [x, y, z], _ => exact h1
theorem BoxAt.beside3 {w : World} {base t sz g : Nat} {vs : List Value} (h : BoxAt w base t sz g vs) {k : Nat} (hk : ¬ g = k) (a b c : Value) : BoxAt (Go.Proofs.Ytlgeffinhbodeac.set3 w k a b c) base t sz g vs :=
  ((h.beside hk 0 a).beside hk 1 b).beside hk 2 c
theorem below_set {B : Nat} {a w : World} (h : Below B a w) {k : Nat} (hk : B ≤ k) (j : Nat) (u : Value) : Below B a (w.setCell ⟨k, j, none⟩ u) := h.setCell (p := ⟨k, j, none⟩) hk u
theorem below_set3 {B : Nat} {a w : World} (h : Below B a w) {k : Nat} (hk : B ≤ k) (x y z : Value) : Below B a (set3 w k x y z) := below_set (below_set (below_set h hk 0 x) hk 1 y) hk 2 z
theorem size_set (w : World) (k j : Nat) (u : Value) : (w.setCell ⟨k, j, none⟩ u).heap.size = w.heap.size := by
  simp [World.setCell]
end Go.Proofs.Ytlgeffinhbodeac
