/-
  Patterns as nodes, the grammar, and the check that goes over the bytes from the left.
-/
import Derived.Test.YthkmecppjhcidacRows
namespace Go.Proofs.Ythkmecppjhcidac
set_option linter.unusedVariables false
set_option linter.unusedSimpArgs false

/-- A pattern as nodes. -/
inductive Pat where
  | byte (b : UInt8)
  | cls (f : UInt8 → Bool)
  | rep (t : Pat) (opt rpt : Bool)
  | alt (os : List (List Pat))

abbrev isOp (c : UInt8) : Prop := c = 42 ∨ c = 43 ∨ c = 63
abbrev isEnd (c : UInt8) : Prop := isOp c ∨ c = 124 ∨ c = 41 ∨ c = 93

/-- One ch of a class at i: the byte, where it ends, whether it is there. -/
def chM (p : List UInt8) (i : Nat) : UInt8 × Nat × Bool :=
  match p[i]? with
  | none => (0, i, false)
  | some c => if c = 93 ∨ c = 45 then (0, i, false) else if c = 92 then (match p[i + 1]? with | none => (0, i + 1, false) | some d => (d, i + 2, true)) else (c, i + 1, true)
theorem chM_gt {p : List UInt8} {i k : Nat} {c : UInt8} (h : chM p i = (c, k, true)) : i < k ∧ k ≤ p.length := by
  unfold chM at h
  split at h
  · cases h
  · next c' hc =>
    have h0 := (List.getElem?_eq_some_iff.1 hc).1
    split at h
    · cases h
    · split at h
      · split at h
        · cases h
        · next d hd =>
          have h1 := (List.getElem?_eq_some_iff.1 hd).1
          simp only [Prod.mk.injEq] at h
          omega
      · simp only [Prod.mk.injEq] at h
        omega
/-- An item of a class at j: its ends and where the next one begins, or the fault. -/
def itemM (p : List UInt8) (j : Nat) : (UInt8 × UInt8 × Nat) ⊕ (Int × Nat) :=
  match chM p j with
  | (_, k, false) => .inr (2, k)
  | (lo, k, true) =>
    if p[k]? = some 45 then
      match chM p (k + 1) with
      | (_, m, false) => .inr (2, m)
      | (hi, m, true) => if hi < lo then .inr (4, j) else .inl (lo, hi, m)
    else .inl (lo, lo, k)
theorem itemM_gt {p : List UInt8} {j k : Nat} {a b : UInt8} (h : itemM p j = .inl (a, b, k)) : j < k ∧ k ≤ p.length ∧ a ≤ b := by
  unfold itemM at h
  split at h
  · cases h
  · next lo k' hk =>
    have h1 := chM_gt hk
    split at h
    · split at h
      · cases h
      · next hi m hm =>
        have h2 := chM_gt hm
        split at h
        · cases h
        · next hle =>
          simp only [Sum.inl.injEq, Prod.mk.injEq] at h
          obtain ⟨rfl, rfl, rfl⟩ := h
          exact ⟨by omega, by omega, UInt8.not_lt.1 hle⟩
    · simp only [Sum.inl.injEq, Prod.mk.injEq] at h
      obtain ⟨rfl, rfl, rfl⟩ := h
      exact ⟨by omega, by omega, UInt8.le_refl _⟩
/-- The rest of a class, behind at least one item or at its first: the items' set and where the class ends, or the fault. -/
def clsM (p : List UInt8) (j : Nat) (items : Bool) (f : UInt8 → Bool) : ((UInt8 → Bool) × Nat) ⊕ (Int × Nat) :=
  if h : j < p.length then
    if p[j]? = some 93 ∧ items = true then .inl (f, j + 1)
    else match hi : itemM p j with
      | .inr e => .inr e
      | .inl (a, b, k) => clsM p k true (fun c => f c || (decide (a ≤ c) && decide (c ≤ b)))
  else .inr (2, p.length)
termination_by p.length - j
decreasing_by have := itemM_gt hi; omega
/-- A class behind its '['. -/
def classM (p : List UInt8) (i : Nat) : ((UInt8 → Bool) × Nat) ⊕ (Int × Nat) :=
  if p[i]? = some 94 then (match clsM p (i + 1) false (fun _ => false) with | .inl (f, k) => .inl (fun c => !f c, k) | .inr e => .inr e)
  else clsM p i false (fun _ => false)
theorem clsM_gt : ∀ (n : Nat) {p : List UInt8} {j : Nat} {b : Bool} {f g : UInt8 → Bool} {k : Nat}, p.length - j ≤ n → clsM p j b f = .inl (g, k) → j < k ∧ k ≤ p.length
  | n, p, j, b, f, g, k, hn, h => by
    unfold clsM at h
    split at h
    · next hj =>
      split at h
      · simp only [Sum.inl.injEq, Prod.mk.injEq] at h
        omega
      · split at h
        · cases h
        · next a b' k' hk =>
          have h1 := itemM_gt hk
          match n, hn with
          | 0, hn => omega
          | n + 1, hn =>
            have h2 := clsM_gt n (by omega) h
            omega
    · cases h
theorem classM_gt {p : List UInt8} {i : Nat} {g : UInt8 → Bool} {k : Nat} (h : classM p i = .inl (g, k)) : i < k ∧ k ≤ p.length := by
  unfold classM at h
  split at h
  · split at h
    · next hc =>
      have := clsM_gt _ (Nat.le_refl _) hc
      simp only [Sum.inl.injEq, Prod.mk.injEq] at h
      omega
    · cases h
  · exact clsM_gt _ (Nat.le_refl _) h
theorem itemM_err {p : List UInt8} {j : Nat} {c : Int} {k : Nat} (h : itemM p j = .inr (c, k)) : ¬ c = 0 := by
  unfold itemM at h
  split at h
  · simp only [Sum.inr.injEq, Prod.mk.injEq] at h; omega
  · split at h
    · split at h
      · simp only [Sum.inr.injEq, Prod.mk.injEq] at h; omega
      · split at h
        · simp only [Sum.inr.injEq, Prod.mk.injEq] at h; omega
        · cases h
    · cases h
theorem clsM_err : ∀ (n : Nat) {p : List UInt8} {j : Nat} {b : Bool} {f : UInt8 → Bool} {c : Int} {k : Nat}, p.length - j ≤ n → clsM p j b f = .inr (c, k) → ¬ c = 0
  | n, p, j, b, f, c, k, hn, h => by
    unfold clsM at h
    split at h
    · split at h
      · cases h
      · split at h
        · next e he =>
          simp only [Sum.inr.injEq] at h
          subst h
          exact itemM_err he
        · next a b' k' hk =>
          have h1 := itemM_gt hk
          match n, hn with
          | 0, hn => omega
          | n + 1, hn => exact clsM_err n (by omega) h
    · simp only [Sum.inr.injEq, Prod.mk.injEq] at h; omega
theorem classM_err {p : List UInt8} {i : Nat} {c : Int} {k : Nat} (h : classM p i = .inr (c, k)) : ¬ c = 0 := by
  unfold classM at h
  split at h
  · split at h
    · cases h
    · next e he =>
      simp only [Sum.inr.injEq] at h
      subst h
      exact clsM_err _ (Nat.le_refl _) he
  · exact clsM_err _ (Nat.le_refl _) h
/-- The check, from place i on: so many are open, an atom stands before or none. -/
def chkM (p : List UInt8) (i o : Nat) (a : Bool) : Int × Nat :=
  if h : i < p.length then
    if p[i] = 40 then (if o = 20 then (3, i) else chkM p (i + 1) (o + 1) false)
    else if p[i] = 41 then (if o = 0 then (2, i) else chkM p (i + 1) (o - 1) true)
    else if p[i] = 124 then chkM p (i + 1) o false
    else if p[i] = 42 ∨ p[i] = 43 ∨ p[i] = 63 then (if a = true then chkM p (i + 1) o true else (2, i))
    else if p[i] = 91 then (match hc : classM p (i + 1) with | .inr e => e | .inl (f, k) => chkM p k o true)
    else if p[i] = 93 then (2, i)
    else if p[i] = 92 then (if i + 1 = p.length then (2, p.length) else chkM p (i + 2) o true)
    else chkM p (i + 1) o true
  else if 0 < o then (2, p.length) else (0, 0)
termination_by p.length - i
decreasing_by
  all_goals first
    | (have := classM_gt hc; omega)
    | omega

variable {p : List UInt8} {i o : Nat} {a : Bool} {c : UInt8}
theorem lt_of_at (h : p[i]? = some c) : i < p.length := (List.getElem?_eq_some_iff.1 h).1
theorem get_of_at (h : p[i]? = some c) : p[i]'(lt_of_at h) = c := (List.getElem?_eq_some_iff.1 h).2
theorem chk_end (h : ¬ i < p.length) : chkM p i o a = if 0 < o then (2, p.length) else (0, 0) := by rw [chkM, dif_neg h]
theorem chk_open (h : p[i]? = some 40) : chkM p i o a = if o = 20 then (3, i) else chkM p (i + 1) (o + 1) false := by
  rw [chkM, dif_pos (lt_of_at h), if_pos (get_of_at h)]
theorem chk_close (h : p[i]? = some 41) : chkM p i o a = if o = 0 then (2, i) else chkM p (i + 1) (o - 1) true := by
  rw [chkM, dif_pos (lt_of_at h), get_of_at h]; simp
theorem chk_bar (h : p[i]? = some 124) : chkM p i o a = chkM p (i + 1) o false := by
  rw [chkM, dif_pos (lt_of_at h), get_of_at h]; simp
theorem chk_op (h : p[i]? = some c) (hc : isOp c) : chkM p i o a = if a = true then chkM p (i + 1) o true else (2, i) := by
  rw [chkM, dif_pos (lt_of_at h), get_of_at h]
  rcases hc with rfl | rfl | rfl <;> simp
theorem chk_rb (h : p[i]? = some 93) : chkM p i o a = (2, i) := by
  rw [chkM, dif_pos (lt_of_at h), get_of_at h]; simp
theorem chk_class (h : p[i]? = some 91) : chkM p i o a = match classM p (i + 1) with | .inr e => e | .inl (f, k) => chkM p k o true := by
  rw [chkM, dif_pos (lt_of_at h), get_of_at h]
  simp only [show ¬ (91 : UInt8) = 40 by decide, show ¬ (91 : UInt8) = 41 by decide, show ¬ (91 : UInt8) = 124 by decide, show ¬ ((91 : UInt8) = 42 ∨ (91 : UInt8) = 43 ∨ (91 : UInt8) = 63) by decide, if_false, if_true]
  split <;> (next hc => rw [hc])
theorem chk_esc (h : p[i]? = some 92) : chkM p i o a = if i + 1 = p.length then (2, p.length) else chkM p (i + 2) o true := by
  rw [chkM, dif_pos (lt_of_at h), get_of_at h]; simp
theorem chk_plain (h : p[i]? = some c) (h1 : ¬ isEnd c) (h2 : ¬ c = 40) (h3 : ¬ c = 91) (h4 : ¬ c = 92) : chkM p i o a = chkM p (i + 1) o true := by
  rw [chkM, dif_pos (lt_of_at h), get_of_at h]
  unfold isEnd isOp at h1
  simp only [not_or] at h1
  obtain ⟨⟨g1, g2, g3⟩, g4, g5, g6⟩ := h1
  simp [h2, h3, h4, g1, g2, g3, g4, g5, g6]
/-- Where no sign of repetition stands, it is one whether an atom stands before. -/
theorem chk_flag (h : ∀ c, p[i]? = some c → ¬ isOp c) (a b : Bool) : chkM p i o a = chkM p i o b := by
  by_cases hi : i < p.length
  · obtain ⟨c, hc⟩ : ∃ c, p[i]? = some c := ⟨_, List.getElem?_eq_getElem hi⟩
    have hn := h c hc
    by_cases h1 : c = 40
    · subst h1; rw [chk_open hc, chk_open hc]
    by_cases h2 : c = 41
    · subst h2; rw [chk_close hc, chk_close hc]
    by_cases h3 : c = 124
    · subst h3; rw [chk_bar hc, chk_bar hc]
    by_cases h4 : c = 93
    · subst h4; rw [chk_rb hc, chk_rb hc]
    by_cases h5 : c = 91
    · subst h5; rw [chk_class hc, chk_class hc]
    by_cases h6 : c = 92
    · subst h6; rw [chk_esc hc, chk_esc hc]
    have he : ¬ isEnd c := fun q => q.elim hn (fun q => q.elim h3 (fun q => q.elim h2 h4))
    rw [chk_plain hc he h1 h5 h6, chk_plain hc he h1 h5 h6]
  · rw [chk_end hi, chk_end hi]
end Go.Proofs.Ythkmecppjhcidac
