/-
  MergeStore as lists.
-/
import Derived.Test.YtlgeffinhbodeaeQHol
namespace Go.Proofs.Ytlgeffinhbodeae
open Go.ChangeShapes Go.WideShapes Go.ChangeAt Go.RowKit Go.Deep
set_option linter.unusedVariables false

/-- What MergeStore makes of a store. -/
structure MrgT (ts : List Tb) (row : ByteArray) (out : List Tb) : Prop where
  bad : ¬ GoodS ts → out = ts
  last : GoodS ts → ∀ i, HoldAt ts row i → i + 1 = ts.length → out = ts
  full : GoodS ts → ∀ i a b, HoldAt ts row i → ts[i]? = some a → ts[i + 1]? = some b → 50 < a.rs.length + b.rs.length → out = ts
  done : GoodS ts → ∀ i a b, HoldAt ts row i → ts[i]? = some a → ts[i + 1]? = some b → a.rs.length + b.rs.length ≤ 50 → out = ts.take i ++ [⟨a.lo, a.rs ++ b.rs⟩] ++ ts.drop (i + 2)
theorem mrgT_uniq {ts : List Tb} {row : ByteArray} {o1 o2 : List Tb} (h : MrgT ts row o1) (k : MrgT ts row o2) : o1 = o2 := by
  by_cases hg : GoodS ts
  · obtain ⟨i, hi⟩ := hold_ex hg row
    by_cases hl : i + 1 = ts.length
    · rw [h.last hg i hi hl, k.last hg i hi hl]
    · have ha := List.getElem?_eq_getElem hi.1
      have hb := List.getElem?_eq_getElem (show i + 1 < ts.length by have := hi.1; omega)
      by_cases hf : 50 < (ts[i]'hi.1).rs.length + (ts[i + 1]'(by have := hi.1; omega)).rs.length
      · rw [h.full hg i _ _ hi ha hb hf, k.full hg i _ _ hi ha hb hf]
      · rw [h.done hg i _ _ hi ha hb (by omega), k.done hg i _ _ hi ha hb (by omega)]
  · rw [h.bad hg, k.bad hg]
theorem mrgT_bad {ts : List Tb} {row : ByteArray} (h : ¬ GoodS ts) : MrgT ts row ts := ⟨fun _ => rfl, fun q => absurd q h, fun q => absurd q h, fun q => absurd q h⟩
theorem mrgT_last {ts : List Tb} {row : ByteArray} {i : Nat} (hi : HoldAt ts row i) (hl : i + 1 = ts.length) : MrgT ts row ts := by
  refine ⟨fun _ => rfl, fun _ _ _ _ => rfl, fun _ j a b hj ha hb _ => rfl, fun _ j a b hj ha hb _ => ?_⟩
  have := hold_uniq hi hj
  subst this
  have := (List.getElem?_eq_some_iff.1 hb).1
  omega
theorem mrgT_full {ts : List Tb} {row : ByteArray} {i : Nat} {a b : Tb} (hi : HoldAt ts row i) (ha : ts[i]? = some a) (hb : ts[i + 1]? = some b) (hf : 50 < a.rs.length + b.rs.length) : MrgT ts row ts := by
  refine ⟨fun _ => rfl, fun _ _ _ _ => rfl, fun _ j a b hj ha hb _ => rfl, fun _ j a' b' hj ha' hb' hq => ?_⟩
  have := hold_uniq hi hj
  subst this
  rw [ha] at ha'
  rw [hb] at hb'
  cases ha'
  cases hb'
  omega
theorem mrgT_done {ts : List Tb} {row : ByteArray} {i : Nat} {a b : Tb} (hg : GoodS ts) (hi : HoldAt ts row i) (ha : ts[i]? = some a) (hb : ts[i + 1]? = some b) (hf : a.rs.length + b.rs.length ≤ 50) : MrgT ts row (ts.take i ++ [⟨a.lo, a.rs ++ b.rs⟩] ++ ts.drop (i + 2)) := by
  refine ⟨fun q => absurd hg q, fun _ j hj hl => ?_, fun _ j a' b' hj ha' hb' hq => ?_, fun _ j a' b' hj ha' hb' hq => ?_⟩
  all_goals
    have := hold_uniq hi hj
    subst this
  · have := (List.getElem?_eq_some_iff.1 hb).1
    omega
  · rw [ha] at ha'
    rw [hb] at hb'
    cases ha'
    cases hb'
    omega
  · rw [ha] at ha'
    rw [hb] at hb'
    cases ha'
    cases hb'
    rfl
end Go.Proofs.Ytlgeffinhbodeae
