/-
  The merge over runs of the call's own.
-/
import Derived.Test.YtjphalbjimggcaeQRuns3
namespace Go.Proofs.Ytjphalbjimggcae
open Go.ChangeShapes Go.WideShapes Go.ChangeAt Go.RowKit Go.Deep
set_option linter.unusedVariables false
set_option linter.unusedSimpArgs false
set_option maxRecDepth 100000

def okL (l : List (Nat × List Ent)) : Prop := ∀ p ∈ l, ∀ e ∈ p.2, e.ok
theorem okM_of {l : List (Nat × List Ent)} (h : okL l) : okM (rmsOf l) := by
  intro r hr e he
  unfold rmsOf at hr
  obtain ⟨p, hp, rfl⟩ := List.mem_map.1 hr
  exact h p hp e he
theorem okL_of {l : List (Nat × List Ent)} {rs : List Rn} (h : l.map Prod.snd = esOf rs) (ho : okR rs) : okL l := by
  intro p hp e he
  have : p.2 ∈ esOf rs := by rw [← h]; exact List.mem_map.2 ⟨p, hp, rfl⟩
  unfold esOf at this
  obtain ⟨r, hr, q⟩ := List.mem_map.1 this
  exact ho r hr e (by rw [q]; exact he)
theorem specMerge_own (base g : Nat) (l : List (Nat × List Ent)) (lo hi : ByteArray) (hh : Bool) (w : World) (h : OwnRuns w base g l) (ho : okL l) (hn : l.length ≤ 1048576) :
    Calls Try.prog 8 #[.slice (some ⟨g, 0, none⟩) l.length l.length, .agg #[.string lo, .bool hh, .string hi]] w fun r w' =>
      ∃ (g cp : Nat) (L : List Ent), r = .returned (.slice (some ⟨g, 0, none⟩) L.length cp) ∧ OwnC w' w.heap.size g cp L ∧ Below w.heap.size w w' ∧ L.length ≤ 500000 ∧ MrgOf (l.map Prod.snd) (inR lo hh hi) L := by
  have := specMerge_core g 0 l.length (rmsOf l) lo hi hh w h.at (okM_of ho) h.lt.2 (by rw [rmsOf_len]; exact hn)
  rw [rmsOf_len, esM_rms] at this
  exact this
theorem implMerge_own (base g : Nat) (l : List (Nat × List Ent)) (lo hi : ByteArray) (hh : Bool) (w : World) (h : OwnRuns w base g l) (ho : okL l) (hn : l.length ≤ 1048576) :
    Calls Try.prog 11 #[.slice (some ⟨g, 0, none⟩) l.length l.length, .agg #[.string lo, .bool hh, .string hi]] w fun r w' =>
      ∃ (g cp : Nat) (L : List Ent), r = .returned (.slice (some ⟨g, 0, none⟩) L.length cp) ∧ OwnC w' w.heap.size g cp L ∧ Below w.heap.size w w' ∧ MrgOf (l.map Prod.snd) (inR lo hh hi) L := by
  have := implMerge_core g 0 l.length (rmsOf l) lo hi hh w h.at (okM_of ho) h.lt.2 (by rw [rmsOf_len]; exact hn)
  rw [rmsOf_len, esM_rms] at this
  exact this
theorem OwnC.chg {T : Nat → Prop} {w w' : World} {base g cp : Nat} {L : List Ent} (h : OwnC w base g cp L) (hb : Chg T w w') (hn : ¬ T g) : OwnC w' base g cp L := own_chg h hb (fun k q => by simp [Value.ownBlock] at q; subst q; exact hn)
end Go.Proofs.Ytjphalbjimggcae
