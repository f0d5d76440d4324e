/-
  Stores as lists: when one is valid; what of a run lies in a range.
-/
import Derived.Test.YtlgeffinhbodeaeQEIn
namespace Go.Proofs.Ytlgeffinhbodeae
open Go.ChangeShapes Go.WideShapes Go.ChangeAt Go.RowKit Go.Deep
set_option linter.unusedVariables false
set_option linter.unusedSimpArgs false

/-- A tablet: its first row, and its runs. -/
structure Tb where
  lo : ByteArray
  rs : List (List Ent)
/-- Whether a tablet has a next one, and that one's first row. -/
def hasN (ts : List Tb) (i : Nat) : Bool := decide (i + 1 < ts.length)
def hiN (ts : List Tb) (i : Nat) : ByteArray := match ts[i + 1]? with | some t => t.lo | none => ⟨#[]⟩
/-- The runs of a tablet are in its range. -/
def RowsIn (lo : ByteArray) (hh : Bool) (hi : ByteArray) (rs : List (List Ent)) : Prop := ∀ es ∈ rs, es ≠ [] ∧ ∀ e ∈ es, inR lo hh hi e.row = true
structure GoodT (ts : List Tb) (i : Nat) (t : Tb) : Prop where
  size : t.lo.size ≤ 64
  up : ∀ p, 0 < i → ts[i - 1]? = some p → Op.bytesLess p.lo.toList t.lo.toList = true
  runs : GoodRs t.rs
  rows : RowsIn t.lo (hasN ts i) (hiN ts i) t.rs
structure GoodS (ts : List Tb) : Prop where
  ne : 1 ≤ ts.length
  le : ts.length ≤ 100
  first : ∀ t, ts[0]? = some t → t.lo.size = 0
  tabs : ∀ i t, ts[i]? = some t → GoodT ts i t

theorem partOf_filter {r p : Rm} {lo hi : ByteArray} {hh : Bool} (h : PartOf r p lo hh hi) (hg : GoodR r.es) : p.es = r.es.filter (fun x => inR lo hh hi x.row) :=
  ord_ext h.ord ((ord_of_good hg).filter _) (fun x => by rw [h.mem x, List.mem_filter])
theorem partOf_all {r p : Rm} {lo hi : ByteArray} {hh : Bool} (h : PartOf r p lo hh hi) (hg : GoodR r.es) : r.es.length ≤ p.es.length ↔ ∀ e ∈ r.es, inR lo hh hi e.row = true := by
  rw [partOf_filter h hg]
  constructor
  · intro hl
    have := List.length_filter_le (fun x => inR lo hh hi x.row) r.es
    exact List.length_filter_eq_length_iff.1 (by omega)
  · intro hl
    rw [List.filter_eq_self.2 hl]
    exact Nat.le_refl _
end Go.Proofs.Ytlgeffinhbodeae
