/-
  spec.l3Says.
-/
import Derived.Test.YtlgeffinhbodeacRms
import Derived.Test.YtlgeffinhbodeacRepM
namespace Go.Proofs.Ytlgeffinhbodeac
open Go.ChangeShapes Go.WideShapes Go.ChangeAt Go.RowKit Go.Deep
set_option linter.unusedVariables false
set_option linter.unusedSimpArgs false

theorem ent_box (w : World) (e : Ent) : EntsAt (w.alloc (Obj.cells #[.string e.row, .string e.fam, .string e.qual, .int .u64 e.ts, .int .i64 e.kind, .string e.val] 73)) w.heap.size 0 [e] := by
  intro j y hy
  obtain rfl : j = 0 := by
    have := (List.getElem?_eq_some_iff.1 hy).1
    simpa using this
  simp at hy
  subst hy
  simp

theorem saysF_cons (e d : Ent) (r : List Ent) (h : Int) : saysF e (d :: r) h = if sameCol d e = true then
      (if (d.kind == 0) = true ∧ (d.ts == e.ts) = true then (1, d.val) else if (d.kind == 1) = true ∧ (d.ts == e.ts) = true then (2, ⟨#[]⟩) else if (d.kind == 2) = true ∧ e.ts ≤ d.ts then saysF e r 2 else saysF e r h)
    else saysF e r h := rfl

end Go.Proofs.Ytlgeffinhbodeac
