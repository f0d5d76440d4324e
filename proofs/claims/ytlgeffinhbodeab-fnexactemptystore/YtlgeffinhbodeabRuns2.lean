/-
  toRunS, eqRunS, markRunS.
-/
import Derived.Test.YtlgeffinhbodeabRuns
namespace Go.Proofs.Ytlgeffinhbodeab
open Go.ChangeShapes Go.WideShapes Go.ChangeAt Go.RowKit Go.Deep
set_option linter.unusedVariables false
set_option linter.unusedSimpArgs false
set_option maxRecDepth 100000

theorem esOf_take {rs : List Rn} {k : Nat} {r : Rn} (h : rs[k]? = some r) : esOf (rs.take (k + 1)) = esOf (rs.take k) ++ [r.es] := by
  unfold esOf
  rw [List.take_add_one, h]; simp
theorem usOf_append (l : List (Nat × List Ent)) (p : Nat × List Ent) : usOf (l ++ [p]) = usOf l ++ [.slice (some ⟨p.1, 0, none⟩) p.2.length p.2.length] := by simp [usOf]
theorem usOf_set {l : List (Nat × List Ent)} {p : Nat × List Ent} {n k : Nat} (hk : l.length = k) (hn : k < n) :
    (usOf l ++ List.replicate (n - k) (Value.slice none 0 0)).set k (.slice (some ⟨p.1, 0, none⟩) p.2.length p.2.length) = usOf (l ++ [p]) ++ List.replicate (n - (k + 1)) (Value.slice none 0 0) := by
  rw [usOf_append, List.set_append_right _ _ (by simp [usOf, hk])]
  have : n - k = (n - (k + 1)) + 1 := by omega
  rw [this, List.replicate_succ]
  simp [usOf, hk]

end Go.Proofs.Ytlgeffinhbodeab
