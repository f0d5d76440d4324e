/-
  A pattern's bytes as signs and atoms, one behind another.
-/
import Derived.Test.YthkmecppjhcidaaRxL
namespace Go.Proofs.Ythkmecppjhcidaa
set_option linter.unusedVariables false
set_option linter.unusedSimpArgs false

/-- Signs and atoms, one behind another. -/
inductive TokG (A : List UInt8 → Pat → Prop) : List UInt8 → Prop
  | nil : TokG A []
  | sign {c : UInt8} {zs : List UInt8} (hc : c = 124 ∨ isOp c) (h : TokG A zs) : TokG A (c :: zs)
  | atom {xs zs : List UInt8} {t : Pat} (ha : A xs t) (h : TokG A zs) : TokG A (xs ++ zs)
variable {A : List UInt8 → Pat → Prop}
theorem TokG.cat {xs ys : List UInt8} (h : TokG A xs) (k : TokG A ys) : TokG A (xs ++ ys) := by
  induction h with
  | nil => exact k
  | sign hc _ ih => exact .sign hc ih
  | atom ha _ ih => rw [List.append_assoc]; exact .atom ha ih
theorem TokG.ops : ∀ {l : List UInt8}, (∀ c ∈ l, isOp c) → TokG A l
  | [], _ => .nil
  | c :: l, h => .sign (.inr (h c (by simp))) (TokG.ops (fun d hd => h d (by simp [hd])))
theorem RepG.tok {xs : List UInt8} {t : Pat} : RepG A xs t → TokG A xs
  | ⟨ys, ops, a, h1, h2, h3, _⟩ => by rw [h1]; exact .atom h2 (TokG.ops h3)
theorem SeqG.tok : ∀ {ts : List Pat} {xs : List UInt8}, SeqG A ts xs → TokG A xs
  | [], _, h => by rw [show _ = [] from h]; exact .nil
  | _ :: _, _, ⟨ys, zs, h1, h2, h3⟩ => by rw [h1]; exact h2.tok.cat (SeqG.tok h3)
theorem AltG.tok : ∀ {os : List (List Pat)} {xs : List UInt8}, AltG A os xs → TokG A xs
  | [], _, h => h.elim
  | [_], _, h => SeqG.tok h
  | _ :: _ :: _, _, ⟨ys, zs, h1, h2, h3⟩ => by rw [h1]; exact h2.tok.cat (.sign (.inl rfl) (AltG.tok h3))
/-- The first byte of an atom is none of the signs. -/
theorem AtomG.first : ∀ {n : Nat} {xs : List UInt8} {t : Pat}, AtomG n xs t → ∃ c ys, xs = c :: ys ∧ ¬ c = 41 ∧ ¬ c = 124 ∧ ¬ isOp c
  | 0, _, _, h => h.elim
  | n + 1, xs, t, h => by
    rcases h with ⟨c, rfl, hs, _⟩ | ⟨rfl, _⟩ | ⟨c, rfl, _⟩ | ⟨ys, os, rfl, _, _⟩ | ⟨p, i, k, f, h1, h2, rfl, _⟩
    · exact ⟨c, [], rfl, fun q => hs (.inl (.inr (.inr (.inl q)))), fun q => hs (.inl (.inr (.inl q))), fun q => hs (.inl (.inl q))⟩
    · exact ⟨46, [], rfl, by decide, by decide, by decide⟩
    · exact ⟨92, [c], rfl, by decide, by decide, by decide⟩
    · exact ⟨40, ys ++ [41], rfl, by decide, by decide, by decide⟩
    · have hg := classM_gt h2
      refine ⟨91, cut p (i + 1) k, ?_, by decide, by decide, by decide⟩
      rw [cut_cat (show i ≤ i + 1 by omega) (show i + 1 ≤ k by omega), cut_one h1]
      rfl
/-- A class that stands at i in whatever p. -/
theorem class_here {p : List UInt8} {i k : Nat} {q : List UInt8} {j m : Nat} {f : UInt8 → Bool} (h1 : q[j]? = some 91) (h2 : classM q (j + 1) = .inl (f, m)) (hc : cut p i k = cut q j m) (hk : k ≤ p.length) (hik : i < k) : p[i]? = some 91 ∧ classM p (i + 1) = .inl (f, k) := by
  have hg := classM_gt h2
  have hl : k - i = m - j := by have h3 := congrArg List.length hc; rw [cut_len hk, cut_len hg.2] at h3; exact h3
  have hat : ∀ t, t < k - i → p[i + t]? = q[j + t]? := fun t ht => by
    have h3 := congrArg (fun l => l[t]?) hc
    simp only [cut, List.getElem?_take, List.getElem?_drop] at h3
    rw [if_pos ht, if_pos (by omega)] at h3
    exact h3
  refine ⟨by have := hat 0 (by omega); simpa [h1] using this, ?_⟩
  have e := classM_agree (q := p) (j := i + 1) h2 (fun t ht => by have := hat (1 + t) (by omega); rw [show i + 1 + t = i + (1 + t) by omega, this]; congr 1; omega)
  rw [e]
  simp only [Sum.inl.injEq, Prod.mk.injEq, true_and]
  omega
end Go.Proofs.Ythkmecppjhcidaa
