/-
  The chunks of a run, by their numbers (mathematics).
-/
import Derived.Test.YtlgeffinhbodeacPkB
namespace Go.Proofs.Ytlgeffinhbodeac
set_option linter.unusedVariables false
set_option linter.unusedSimpArgs false

/-- A chunk's number. -/
abbrev Ck (n p : Nat) := { k : Nat // k * p < n }
def cks (n p m : Nat) : List (Ck n p) := (List.range m).filterMap (fun k => if h : k * p < n then some ⟨k, h⟩ else none)
theorem cks_succ {n p k : Nat} (h : k * p < n) : cks n p (k + 1) = cks n p k ++ [⟨k, h⟩] := by
  unfold cks
  rw [List.range_succ, List.filterMap_append]
  simp [h]
theorem cks_same {n p k : Nat} (h : ¬ k * p < n) : cks n p (k + 1) = cks n p k := by
  unfold cks
  rw [List.range_succ, List.filterMap_append]
  simp [h]
theorem cks_len (n p m : Nat) : (cks n p m).length ≤ m := by
  unfold cks
  have := List.length_filterMap_le (fun k => if h : k * p < n then some (⟨k, h⟩ : Ck n p) else none) (List.range m)
  simpa using this
def ckE (es : List Ent) (p k : Nat) : List Ent := (es.drop (k * p)).take p
theorem ckE_len (es : List Ent) (p k : Nat) : (ckE es p k).length = min p (es.length - k * p) := by
  unfold ckE; simp
theorem cks_part (es : List Ent) {p : Nat} (hp : 0 < p) : ∀ j, chunks p es = (cks es.length p j).map (fun k => ckE es p k.1) ++ chunks p (es.drop (j * p))
  | 0 => by simp [cks]
  | j + 1 => by
    rw [cks_part es hp j]
    by_cases h : j * p < es.length
    · rw [cks_succ h, List.map_append, List.append_assoc]
      congr 1
      have hd : (es.drop (j * p)).drop p = es.drop ((j + 1) * p) := by rw [List.drop_drop, Nat.add_mul, Nat.one_mul]
      by_cases h1 : p < (es.drop (j * p)).length
      · rw [chunks_more h1 hp, hd]; rfl
      · rw [chunks_last h1 (by simp; omega)]
        have h2 : es.drop ((j + 1) * p) = [] := by rw [← hd]; exact List.drop_eq_nil_of_le (by omega)
        rw [h2, chunks_nil]
        simp only [List.map_cons, List.map_nil, List.append_nil, ckE]
        rw [List.take_of_length_le (by omega)]
    · rw [cks_same h]
      have h1 : es.drop (j * p) = [] := List.drop_eq_nil_of_le (by omega)
      have h2 : es.drop ((j + 1) * p) = [] := List.drop_eq_nil_of_le (by rw [Nat.add_mul]; omega)
      rw [h1, h2]
theorem cks_all (es : List Ent) {p m : Nat} (hp : 0 < p) (hm : es.length ≤ m * p) : (cks es.length p m).map (fun k => ckE es p k.1) = chunks p es := by
  rw [cks_part es hp m, List.drop_eq_nil_of_le hm, chunks_nil, List.append_nil]
end Go.Proofs.Ytlgeffinhbodeac
