/-
  Tablets in memory, one behind another: those that come in, and those that a call made.
-/
import Derived.Test.YtlgeffinhbodeabRuns2
namespace Go.Proofs.Ytlgeffinhbodeab
open Go.ChangeShapes Go.WideShapes Go.ChangeAt Go.RowKit Go.Deep
set_option linter.unusedVariables false
set_option linter.unusedSimpArgs false

/-- A tablet: its first row, the slice of its runs, and what that reads as. -/
structure Tn where
  lo : ByteArray
  u : Value
  rs : List Rn
def TabsAt (w : World) (b off : Nat) (ts : List Tn) : Prop := ∀ i t, ts[i]? = some t → w.cell? ⟨b, off + i * 2, none⟩ = some (.string t.lo) ∧ w.cell? ⟨b, off + i * 2 + 1, none⟩ = some t.u ∧ InRuns w t.u t.rs
theorem TabsAt.below {w w' : World} {b off : Nat} {ts : List Tn} (h : TabsAt w b off ts) (hb : Below w.heap.size w w') (hlt : b < w.heap.size) : TabsAt w' b off ts := by
  intro i t ht
  obtain ⟨h1, h2, h3⟩ := h i t ht
  exact ⟨by rw [hb.cell (p := ⟨b, off + i * 2, none⟩) (by exact hlt)]; exact h1, by rw [hb.cell (p := ⟨b, off + i * 2 + 1, none⟩) (by exact hlt)]; exact h2, h3.below hb⟩
def InTabs (w : World) (v : Value) (ts : List Tn) : Prop :=
  (∃ a cap, v = .slice a 0 cap ∧ ts = []) ∨ ∃ b off cap, v = .slice (some ⟨b, off, none⟩) ts.length cap ∧ TabsAt w b off ts ∧ b < w.heap.size ∧ ts.length ≤ cap ∧ cap ≤ maxLen
theorem InTabs.below {w w' : World} {v : Value} {ts : List Tn} (h : InTabs w v ts) (hb : Below w.heap.size w w') : InTabs w' v ts := by
  rcases h with h | ⟨b, off, cap, hv, hE, hlt, h1, h2⟩
  · exact .inl h
  · exact .inr ⟨b, off, cap, hv, hE.below hb hlt, by have := hb.size; omega, h1, h2⟩
theorem InRuns.ucells {w : World} {v : Value} {rs : List Rn} (h : InRuns w v rs) : v.cells = #[v] := by
  rcases h with ⟨a, cap, rfl, _⟩ | ⟨b, off, cap, rfl, _⟩ <;> rfl
theorem InTabs.ucells {w : World} {v : Value} {ts : List Tn} (h : InTabs w v ts) : v.cells = #[v] := by
  rcases h with ⟨a, cap, rfl, _⟩ | ⟨b, off, cap, rfl, _⟩ <;> rfl
def okT (ts : List Tn) : Prop := ∀ t ∈ ts, t.lo.size ≤ maxLen ∧ okR t.rs
/-- How much a tablet holds. -/
def wt (t : Tn) : Nat := t.lo.size + (t.rs.length + tot t.rs)
def totT : List Tn → Nat
  | [] => 0
  | t :: ts => wt t + totT ts
theorem totT_append : ∀ (a b : List Tn), totT (a ++ b) = totT a + totT b
  | [], b => by simp [totT]
  | r :: a, b => by simp [totT, totT_append a b]; omega
theorem totT_take {ts : List Tn} {k : Nat} {t : Tn} (h : ts[k]? = some t) : totT (ts.take (k + 1)) = totT (ts.take k) + wt t := by
  rw [List.take_add_one, h, totT_append]; simp [totT]
theorem totT_le (ts : List Tn) (k : Nat) : totT (ts.take k) ≤ totT ts := by
  have h := totT_append (ts.take k) (ts.drop k)
  rw [List.take_append_drop] at h
  omega
theorem totT_mem {ts : List Tn} {k : Nat} {t : Tn} (h : ts[k]? = some t) : wt t ≤ totT ts := by
  have h1 := totT_take h
  have h2 := totT_le ts (k + 1)
  omega

end Go.Proofs.Ytlgeffinhbodeab
