/-
  Slices of entries and runs that come in, opened.
-/
import Derived.Test.YtjphalbjimggcacEq
namespace Go.Proofs.Ytjphalbjimggcac
open Go.ChangeShapes Go.WideShapes Go.ChangeAt Go.RowKit Go.Deep
set_option linter.unusedVariables false

theorem list_of_forall {α : Type} {P : Nat → α → Prop} : ∀ n, (∀ i, i < n → ∃ x, P i x) → ∃ l : List α, l.length = n ∧ ∀ i x, l[i]? = some x → P i x
  | 0, _ => ⟨[], rfl, fun i x h => by simp at h⟩
  | n + 1, h => by
    obtain ⟨l, hl, hp⟩ := list_of_forall n (fun i hi => h i (by omega))
    obtain ⟨x, hx⟩ := h n (by omega)
    refine ⟨l ++ [x], by simp [hl], fun i y hy => ?_⟩
    by_cases hi : i < l.length
    · rw [List.getElem?_append_left hi] at hy; exact hp i y hy
    · rw [List.getElem?_append_right (by omega)] at hy
      have : i - l.length = 0 := by
        have := (List.getElem?_eq_some_iff.1 hy).1
        simp at this; omega
      rw [this] at hy
      simp at hy
      subst hy
      rw [show i = n by omega]; exact hx

set_option maxRecDepth 100000 in
theorem ents_of_trod {H : Type} {enc : TypeId × Value → H} {w : World} {base : Nat} {held : Bool} {fuel : Nat} {v : Value} {x : DataW H × List MemPlace}
    (h : DataW.trod enc Try.prog w base (fun _ => true) held fuel 22 [v] = some x) : ∃ es : List Ent, InEnts w v es ∧ ∀ e ∈ es, e.ok := by
  rcases open_slice Try.underlying22 h with ⟨hcs, _⟩ | ⟨a, len, cap, m, n, D, Pl, hcs, hba, hl, hm, hmm, _, hel⟩
  · simp only [List.cons.injEq, and_true] at hcs
    exact ⟨[], .inl ⟨none, 0, hcs, rfl⟩, by simp⟩
  · simp only [List.cons.injEq, and_true] at hcs
    subst hcs
    rw [if_pos rfl] at hmm
    subst hmm
    have hel6 : ∀ i, i < m → ∃ cs', w.cells? base (a.add (i * 6)) 6 = some cs' ∧ DataW.trod enc Try.prog w base (fun _ => true) held n 47 cs' = some (D i, Pl i) := fun i hi => by
      have := hel i hi
      rw [Try.cellsEnt] at this
      exact this
    clear hel
    have HM : Hid (m ≤ maxLen) := hm
    clear hm
    by_cases h0 : len = 0
    · subst h0; exact ⟨[], .inl ⟨_, _, rfl, rfl⟩, by simp⟩
    · obtain ⟨b, off, spot⟩ := a
      have hspot : spot = none := by
        obtain ⟨cs', hc, _⟩ := hel6 0 (by omega)
        obtain ⟨_, hlen, hget⟩ := World.cells?_some hc
        have h1 := hget 0 (by omega)
        have h2 : (w.cell? ((Addr.add ⟨b, off, spot⟩ (0 * 6)).add 0)).isSome = true := by rw [h1]; simp; omega
        obtain ⟨u, hu⟩ := Option.isSome_iff_exists.1 h2
        simpa [Addr.add] using World.cell?_spot hu
      subst hspot
      obtain ⟨es, hes, hp⟩ := list_of_forall (P := fun i (e : Ent) => e.ok ∧ (w.cell? ⟨b, off + i * 6, none⟩ = some (.string e.row) ∧ w.cell? ⟨b, off + i * 6 + 1, none⟩ = some (.string e.fam) ∧ w.cell? ⟨b, off + i * 6 + 2, none⟩ = some (.string e.qual) ∧
          w.cell? ⟨b, off + i * 6 + 3, none⟩ = some (.int .u64 e.ts) ∧ w.cell? ⟨b, off + i * 6 + 4, none⟩ = some (.int .i64 e.kind) ∧ w.cell? ⟨b, off + i * 6 + 5, none⟩ = some (.string e.val))) len (fun i hi => by
        obtain ⟨cs', hc, ht⟩ := hel6 i (by omega)
        obtain ⟨e, ok, rfl⟩ := ent_of_trod ht
        obtain ⟨_, hlen, hget⟩ := World.cells?_some hc
        refine ⟨e, ok, ?_, ?_, ?_, ?_, ?_, ?_⟩
        · simpa [Addr.add_mid] using hget 0 (by omega)
        · simpa [Addr.add_mid] using hget 1 (by omega)
        · simpa [Addr.add_mid] using hget 2 (by omega)
        · simpa [Addr.add_mid] using hget 3 (by omega)
        · simpa [Addr.add_mid] using hget 4 (by omega)
        · simpa [Addr.add_mid] using hget 5 (by omega))
      have hlt : b < w.heap.size := by
        obtain ⟨cs', hc, _⟩ := hel6 0 (by omega)
        simpa [Addr.add] using World.cells?_block hc (by omega)
      subst hes
      refine ⟨es, .inr ⟨b, off, m, rfl, fun i e he => (hp i e he).2, hlt, hl, HM.out⟩, fun e he => ?_⟩
      obtain ⟨i, hi⟩ := List.getElem?_of_mem he
      exact (hp i e hi).1

/-! ### Runs by value -/

theorem OwnE.mono {w : World} {base base' g cap : Nat} {es : List Ent} (h : OwnE w base g cap es) (hb : base' ≤ base) : OwnE w base' g cap es := by
  refine ⟨h.1, ?_⟩
  rcases h.2 with hn | ⟨g', cap', cur, hv, h1, rest⟩
  · exact .inl hn
  · exact .inr ⟨g', cap', cur, hv, Nat.le_trans hb h1, rest⟩

end Go.Proofs.Ytjphalbjimggcac
