/-
  eqRunS, markRunS over runs of the call's own.
-/
import Derived.Test.YtjphalbjimggcaeQRuns2
import Derived.Test.YtjphalbjimggcaePkJ
import Derived.Test.YtjphalbjimggcaeQMrgS
import Derived.Test.YtjphalbjimggcaeQMarkC
namespace Go.Proofs.Ytjphalbjimggcae
open Go.ChangeShapes Go.WideShapes Go.ChangeAt Go.RowKit Go.Deep
set_option linter.unusedVariables false
set_option linter.unusedSimpArgs false
set_option maxRecDepth 100000

def rmsOf (l : List (Nat × List Ent)) : List Rm := l.map fun p => ⟨p.1, 0, p.2.length, p.2⟩
theorem rmsOf_len (l : List (Nat × List Ent)) : (rmsOf l).length = l.length := by simp [rmsOf]
theorem esM_rms (l : List (Nat × List Ent)) : esM (rmsOf l) = l.map Prod.snd := by simp [rmsOf, esM]
/-- Runs of the call's own: their row, and theirs. -/
structure OwnRuns (w : World) (base g : Nat) (l : List (Nat × List Ent)) : Prop where
  row : OwnR w base g (usOf l)
  rows : OwnRs w base l
  ne : ∀ p ∈ l, g < p.1
  short : ∀ p ∈ l, p.2.length ≤ 1048576
theorem OwnRuns.lt {w : World} {base g : Nat} {l : List (Nat × List Ent)} (h : OwnRuns w base g l) : base ≤ g ∧ g < w.heap.size := h.row.lt
theorem OwnRuns.below {w w' : World} {base g : Nat} {l : List (Nat × List Ent)} (h : OwnRuns w base g l) (hb : Below w.heap.size w w') : OwnRuns w' base g l :=
  ⟨h.row.below hb h.row.lt.2, ⟨h.rows.1, fun p hp => (h.rows.2 p hp).below hb (h.rows.2 p hp).lt.2⟩, h.ne, h.short⟩
theorem OwnRuns.at {w : World} {base g : Nat} {l : List (Nat × List Ent)} (h : OwnRuns w base g l) : RmsAt w g 0 (rmsOf l) := by
  intro i r hr
  unfold rmsOf at hr
  rw [List.getElem?_map] at hr
  cases hp : l[i]? with
  | none => rw [hp] at hr; cases hr
  | some p =>
    rw [hp] at hr
    simp at hr
    subst hr
    have hm := List.mem_of_getElem? hp
    refine ⟨?_, ⟨(h.rows.2 p hm).at, (h.rows.2 p hm).lt.2, Nat.le_refl _, Nat.le_trans (h.short p hm) (by decide)⟩⟩
    rw [Nat.zero_add]
    exact h.row.cell (usOf_get hp)
theorem inEnts_rm {w : World} {r : Rm} (h : r.at w) : InEnts w (.slice (some ⟨r.b, r.off, none⟩) r.es.length r.cap) r.es := .inr ⟨r.b, r.off, r.cap, rfl, h.ents, h.lt, h.len, h.cap⟩

def RowsOf (l : List (Nat × List Ent)) (k : Nat) : Prop := ∃ p ∈ l, k = p.1
/-- How many entries. -/
def totL : List (Nat × List Ent) → Nat
  | [] => 0
  | p :: l => p.2.length + totL l
theorem totL_append : ∀ (a b : List (Nat × List Ent)), totL (a ++ b) = totL a + totL b
  | [], b => by simp [totL]
  | p :: a, b => by simp [totL, totL_append a b]; omega
theorem totL_take {l : List (Nat × List Ent)} {k : Nat} {p : Nat × List Ent} (h : l[k]? = some p) : totL (l.take (k + 1)) = totL (l.take k) + p.2.length := by
  rw [List.take_add_one, h, totL_append]; simp [totL]
theorem totL_le (l : List (Nat × List Ent)) (k : Nat) : totL (l.take k) ≤ totL l := by
  have h := totL_append (l.take k) (l.drop k)
  rw [List.take_append_drop] at h
  omega
theorem tot_of : ∀ (l : List (Nat × List Ent)) (rs : List Rn), l.map Prod.snd = esOf rs → totL l = tot rs
  | [], [], _ => rfl
  | [], r :: rs, h => by simp [esOf] at h
  | p :: l, [], h => by simp [esOf] at h
  | p :: l, r :: rs, h => by
    simp [esOf] at h
    have := tot_of l rs h.2
    simp [totL, tot, this, h.1]

end Go.Proofs.Ytjphalbjimggcae
