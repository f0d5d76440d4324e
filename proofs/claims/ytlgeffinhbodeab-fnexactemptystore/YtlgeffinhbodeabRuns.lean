/-
  Runs in memory, one behind another.
-/
import Derived.Test.YtlgeffinhbodeabMark
import Derived.Deep.DeepCutAuto
import Derived.Deep.RegionWith
namespace Go.Proofs.Ytlgeffinhbodeab
open Go.ChangeShapes Go.WideShapes Go.ChangeAt Go.RowKit Go.Deep
set_option linter.unusedVariables false
set_option linter.unusedSimpArgs false

/-- A run: the slice that it holds, and what that reads as. -/
structure Rn where
  u : Value
  es : List Ent
def RunsAt (w : World) (b off : Nat) (rs : List Rn) : Prop := ∀ i r, rs[i]? = some r → w.cell? ⟨b, off + i, none⟩ = some r.u ∧ InEnts w r.u r.es
theorem RunsAt.below {w w' : World} {b off : Nat} {rs : List Rn} (h : RunsAt w b off rs) (hb : Below w.heap.size w w') (hlt : b < w.heap.size) : RunsAt w' b off rs := by
  intro i r hr
  obtain ⟨h1, h2⟩ := h i r hr
  exact ⟨by rw [hb.cell (p := ⟨b, off + i, none⟩) (by exact hlt)]; exact h1, h2.below hb (Nat.le_refl _)⟩
def InRuns (w : World) (v : Value) (rs : List Rn) : Prop :=
  (∃ a cap, v = .slice a 0 cap ∧ rs = []) ∨ ∃ b off cap, v = .slice (some ⟨b, off, none⟩) rs.length cap ∧ RunsAt w b off rs ∧ b < w.heap.size ∧ rs.length ≤ cap ∧ cap ≤ maxLen
theorem InRuns.below {w w' : World} {v : Value} {rs : List Rn} (h : InRuns w v rs) (hb : Below w.heap.size w w') : InRuns w' v rs := by
  rcases h with h | ⟨b, off, cap, hv, hE, hlt, h1, h2⟩
  · exact .inl h
  · exact .inr ⟨b, off, cap, hv, hE.below hb hlt, by have := hb.size; omega, h1, h2⟩
theorem InEnts.ucells {w : World} {v : Value} {es : List Ent} (h : InEnts w v es) : v.cells = #[v] := by
  rcases h with ⟨a, cap, rfl, _⟩ | ⟨b, off, cap, rfl, _⟩ <;> rfl
def okR (rs : List Rn) : Prop := ∀ r ∈ rs, ∀ e ∈ r.es, e.ok
/-- How many entries there are. -/
def tot : List Rn → Nat
  | [] => 0
  | r :: rs => r.es.length + tot rs
theorem tot_append : ∀ (a b : List Rn), tot (a ++ b) = tot a + tot b
  | [], b => by simp [tot]
  | r :: a, b => by simp [tot, tot_append a b]; omega
theorem tot_take {rs : List Rn} {k : Nat} {r : Rn} (h : rs[k]? = some r) : tot (rs.take (k + 1)) = tot (rs.take k) + r.es.length := by
  rw [List.take_add_one, h, tot_append]; simp [tot]
theorem tot_le (rs : List Rn) (k : Nat) : tot (rs.take k) ≤ tot rs := by
  have h := tot_append (rs.take k) (rs.drop k)
  rw [List.take_append_drop] at h
  omega
theorem tot_mem {rs : List Rn} {k : Nat} {r : Rn} (h : rs[k]? = some r) : r.es.length ≤ tot rs := by
  have h1 := tot_take h
  have h2 := tot_le rs (k + 1)
  omega

/-! ### Runs of the call's own -/

/-- The runs' slices. -/
def usOf (l : List (Nat × List Ent)) : List Value := l.map fun p => .slice (some ⟨p.1, 0, none⟩) p.2.length p.2.length
def rnsOf (l : List (Nat × List Ent)) : List Rn := l.map fun p => ⟨.slice (some ⟨p.1, 0, none⟩) p.2.length p.2.length, p.2⟩
def esOf (rs : List Rn) : List (List Ent) := rs.map Rn.es
/-- Rows of the call's own, in blocks that rise. -/
def OwnRs (w : World) (base : Nat) (l : List (Nat × List Ent)) : Prop := l.Pairwise (fun p q => p.1 < q.1) ∧ ∀ p ∈ l, OwnE w base p.1 p.2.length p.2
/-- The row of the runs itself. -/
def OwnR (w : World) (base g : Nat) (us : List Value) : Prop := w.ownsRow base 29 1 (.slice (some ⟨g, 0, none⟩) us.length us.length) us.length us
theorem OwnR.lt {w : World} {base g : Nat} {us : List Value} (h : OwnR w base g us) : base ≤ g ∧ g < w.heap.size := World.ownsRow.lt h g rfl
theorem OwnR.below {B : Nat} {w w' : World} {base g : Nat} {us : List Value} (h : OwnR w base g us) (hb : Below B w w') (hg : g < B) : OwnR w' base g us := by
  refine ⟨h.1, ?_⟩
  rcases h.2 with hn | ⟨g', cap', cur, hv, h1, h2, rest⟩
  · exact .inl hn
  · simp only [Value.slice.injEq, Option.some.injEq, Addr.mk.injEq, and_true, true_and] at hv
    obtain ⟨rfl, hc⟩ := hv
    exact .inr ⟨g, cap', cur, by rw [hc], h1, by rw [hb.block g hg]; exact h2, rest⟩
theorem OwnR.set {w : World} {base g : Nat} {us : List Value} (h : OwnR w base g us) (k : Nat) (u : Value) : OwnR (w.setCell ⟨g, k, none⟩ u) base g (us.set k u) := by
  have := (World.ownsRow.stored h k u).1
  unfold OwnR
  rw [List.length_set]
  exact this
theorem OwnR.cell {w : World} {base g : Nat} {us : List Value} (h : OwnR w base g us) {k : Nat} {u : Value} (hu : us[k]? = some u) : w.cell? ⟨g, k, none⟩ = some u := by
  have hk : k < us.length := (List.getElem?_eq_some_iff.1 hu).1
  exact (World.ownsRow.cellAt h k (by omega)).trans hu
theorem OwnE.setNe {w : World} {base g cap : Nat} {es : List Ent} (h : OwnE w base g cap es) (g' k : Nat) (u : Value) (hne : g ≠ g') : OwnE (w.setCell ⟨g', k, none⟩ u) base g cap es :=
  World.ownsRow.kept h (grown_set w g' k u) (.inr (fun q => hne (Option.some.inj q)))

theorem Try.infoRun : (Try.prog.info? 29).map (fun i => (i.zero, i.size, i.bytes)) = some (some (.agg #[.slice none 0 0]), 1, 24) := by kernel_rfl
theorem made_runs (n : Nat) : (madeCells #[.slice none 0 0] n).toList = List.replicate n (.slice none 0 0) := by
  apply List.ext_getElem?
  intro j
  by_cases hj : j < n
  · simp [madeCells, hj, Nat.mod_one]
  · simp [madeCells, hj]
theorem usOf_get {l : List (Nat × List Ent)} {i : Nat} {p : Nat × List Ent} (h : l[i]? = some p) : (usOf l)[i]? = some (.slice (some ⟨p.1, 0, none⟩) p.2.length p.2.length) := by
  unfold usOf; rw [List.getElem?_map, h]; rfl
theorem inRuns_own {w : World} {base g : Nat} {l : List (Nat × List Ent)} (h : OwnR w base g (usOf l)) (hr : OwnRs w base l) (hl : l.length ≤ maxLen) (hc : ∀ p ∈ l, p.2.length ≤ maxLen) :
    InRuns w (.slice (some ⟨g, 0, none⟩) l.length l.length) (rnsOf l) := by
  refine .inr ⟨g, 0, l.length, by simp [rnsOf], fun i r hi => ?_, h.lt.2, by simp [rnsOf], hl⟩
  unfold rnsOf at hi
  rw [List.getElem?_map] at hi
  cases hp : l[i]? with
  | none => rw [hp] at hi; cases hi
  | some p =>
    rw [hp] at hi
    simp at hi
    subst hi
    have hm := List.mem_of_getElem? hp
    refine ⟨?_, InEnts.own (hr.2 p hm) (Nat.le_refl _) (hc p hm)⟩
    rw [Nat.zero_add]
    exact h.cell (usOf_get hp)
end Go.Proofs.Ytlgeffinhbodeab
