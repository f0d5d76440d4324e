/-
  What is left of a list of writes when it is played from its front: the puts of its run.
-/
import Derived.Test.YtlgeffinhbodeacKept
namespace Go.Proofs.Ytlgeffinhbodeac
set_option linter.unusedVariables false

/-- The list that is played up to 'k'. -/
def Rep (ws : List Ent) (k : Nat) (L : List Ent) : Prop := Ord L ∧ ∀ x, x ∈ L ↔ ∃ i, i < k ∧ ws[i]? = some x ∧ x.kind = 0 ∧ StandsTo ws i k
/-- A delete does away with this one. -/
def hit (x e : Ent) : Bool := sameCol x e && ((x.ts == e.ts) || ((e.kind == 2) && decide (x.ts ≤ e.ts)))

theorem sameCol_comm (a b : Ent) : sameCol a b = sameCol b a := by
  rw [Bool.eq_iff_iff, sameCol_iff, sameCol_iff]
  constructor <;> rintro ⟨h1, h2, h3⟩ <;> exact ⟨h1.symm, h2.symm, h3.symm⟩
theorem hit_kills (x e : Ent) : hit x e = kills e x := by
  unfold hit kills
  rw [sameCol_comm x e]
  cases sameCol e x
  · rfl
  · by_cases h2 : e.kind = 2
    · by_cases h : x.ts ≤ e.ts
      · simp [h2, h]
      · have : ¬ x.ts = e.ts := by omega
        simp [h2, h, this]
    · rw [Bool.eq_iff_iff]
      simp [h2]
      exact eq_comm

theorem rep_zero (ws : List Ent) : Rep ws 0 [] := ⟨List.Pairwise.nil, fun x => ⟨fun h => by simp at h, fun ⟨i, hi, _⟩ => by omega⟩⟩
theorem standsTo_self (ws : List Ent) (k : Nat) : StandsTo ws k (k + 1) := fun j v e h1 h2 => by omega
theorem standsTo_iff {ws : List Ent} {i k : Nat} {x e : Ent} (hx : ws[i]? = some x) (he : ws[k]? = some e) (hik : i < k) : StandsTo ws i (k + 1) ↔ StandsTo ws i k ∧ kills e x = false :=
  ⟨fun h => ⟨fun j v y h1 h2 => h j v y h1 (by omega), h k e x hik (by omega) he hx⟩, fun h => standsTo_succ h.1 he hx h.2⟩
theorem key_kills {x e : Ent} (hx : x.kind = 0) (he : e.kind = 0) : keyCmp x e = 0 ↔ kills e x = true := by
  rw [keyCmp_zero]
  unfold kills
  simp [sameCol_iff, hx, he]
  constructor
  · rintro ⟨h1, h2, h3, h4⟩; exact ⟨⟨h1.symm, h2.symm, h3.symm⟩, h4.symm⟩
  · rintro ⟨⟨h1, h2, h3⟩, h4⟩; exact ⟨h1.symm, h2.symm, h3.symm, h4.symm⟩
theorem rep_put {ws : List Ent} {k : Nat} {e : Ent} {L : List Ent} (h : Rep ws k L) (he : ws[k]? = some e) (h0 : e.kind = 0) : Rep ws (k + 1) (into L e) := by
  obtain ⟨h1, h2⟩ := into_spec e L h.1
  refine ⟨h1, fun x => (h2 x).trans ⟨?_, ?_⟩⟩
  · rintro (rfl | ⟨hx, hz⟩)
    · exact ⟨k, by omega, he, h0, standsTo_self ws k⟩
    · obtain ⟨i, hi, a, b, c⟩ := (h.2 x).1 hx
      refine ⟨i, by omega, a, b, (standsTo_iff a he hi).2 ⟨c, ?_⟩⟩
      cases hk : kills e x
      · rfl
      · exact absurd ((key_kills b h0).2 hk) hz
  · rintro ⟨i, hi, a, b, c⟩
    by_cases hik : i = k
    · subst hik
      rw [he] at a
      simp at a
      exact .inl a.symm
    · obtain ⟨c1, c2⟩ := (standsTo_iff a he (by omega)).1 c
      refine .inr ⟨(h.2 x).2 ⟨i, by omega, a, b, c1⟩, fun hz => ?_⟩
      rw [(key_kills b h0).1 hz] at c2
      cases c2
theorem rep_del {ws : List Ent} {k : Nat} {e : Ent} {L : List Ent} (h : Rep ws k L) (he : ws[k]? = some e) (h0 : ¬ e.kind = 0) : Rep ws (k + 1) (L.filter fun x => !(hit x e)) := by
  refine ⟨h.1.filter _, fun x => ?_⟩
  rw [List.mem_filter, hit_kills, h.2 x]
  constructor
  · rintro ⟨⟨i, hi, a, b, c⟩, hk⟩
    exact ⟨i, by omega, a, b, (standsTo_iff a he hi).2 ⟨c, by simpa using hk⟩⟩
  · rintro ⟨i, hi, a, b, c⟩
    by_cases hik : i = k
    · subst hik
      rw [he] at a
      simp at a
      subst a
      exact absurd b h0
    · obtain ⟨c1, c2⟩ := (standsTo_iff a he (by omega)).1 c
      exact ⟨⟨i, by omega, a, b, c1⟩, by simp [c2]⟩

/-- The puts of a list of entries. -/
def puts (R : List Ent) : List Ent := R.filter fun x => x.kind == 0
theorem length_puts (R : List Ent) : (puts R).length ≤ R.length := List.length_filter_le _ _
theorem rep_kept {ws L R : List Ent} (h : Rep ws ws.length L) (hk : Kept ws ws.length R) : L = puts R := by
  refine ord_ext h.1 (hk.1.filter _) (fun x => ?_)
  rw [h.2 x]
  unfold puts
  rw [List.mem_filter, hk.2 x]
  constructor
  · rintro ⟨i, hi, a, b, c⟩
    refine ⟨⟨i, hi, a, .inl ⟨by omega, fun j v e h1 h2 h3 => c j v e h1 (List.getElem?_eq_some_iff.1 h2).1 h2 h3⟩⟩, by simp [b]⟩
  · rintro ⟨⟨i, hi, a, b⟩, h0⟩
    have h0' : x.kind = 0 := by simpa using h0
    rcases b with ⟨_, hs⟩ | ⟨h2, _⟩
    · exact ⟨i, hi, a, h0', fun j v e h1 _ h2 h3 => hs j v e h1 h2 h3⟩
    · omega
end Go.Proofs.Ytlgeffinhbodeac
