import Derived.Test.YtnncedndlhfdkabRows
import Derived.WalkKit
import Derived.ProofKit
import Derived.OpenShut
import Derived.ShutString
import Derived.ChangeOld
import Derived.Below
import Derived.WalkSpells
import Derived.WalkLawsBesides
import Derived.Outline
import Derived.Deep.Light
import Derived.Lib.SmallJoins
import Derived.OwnWalk
import Derived.Deep.MidRow
import Derived.Deep.DeepCutAuto
import Derived.Deep.RegionWith

/-
  Patterns as nodes, the grammar, and the check that goes over the bytes from the left.
-/
namespace Go.Proofs.Ytnncedndlhfdkab
set_option linter.unusedVariables false
set_option linter.unusedSimpArgs false

/-- A pattern as nodes. -/
inductive Pat where
  | byte (b : UInt8)
  | cls (f : UInt8 → Bool)
  | rep (t : Pat) (opt rpt : Bool)
  | alt (os : List (List Pat))

abbrev isOp (c : UInt8) : Prop := c = 42 ∨ c = 43 ∨ c = 63
abbrev isEnd (c : UInt8) : Prop := isOp c ∨ c = 124 ∨ c = 41 ∨ c = 93

/-- One ch of a class at i: the byte, where it ends, whether it is there. -/
def chM (p : List UInt8) (i : Nat) : UInt8 × Nat × Bool :=
  match p[i]? with
  | none => (0, i, false)
  | some c => if c = 93 ∨ c = 45 then (0, i, false) else if c = 92 then (match p[i + 1]? with | none => (0, i + 1, false) | some d => (d, i + 2, true)) else (c, i + 1, true)
theorem chM_gt {p : List UInt8} {i k : Nat} {c : UInt8} (h : chM p i = (c, k, true)) : i < k ∧ k ≤ p.length := by
  unfold chM at h
  split at h
  · cases h
  · next c' hc =>
    have h0 := (List.getElem?_eq_some_iff.1 hc).1
    split at h
    · cases h
    · split at h
      · split at h
        · cases h
        · next d hd =>
          have h1 := (List.getElem?_eq_some_iff.1 hd).1
          simp only [Prod.mk.injEq] at h
          omega
      · simp only [Prod.mk.injEq] at h
        omega
/-- An item of a class at j: its ends and where the next one begins, or the fault. -/
def itemM (p : List UInt8) (j : Nat) : (UInt8 × UInt8 × Nat) ⊕ (Int × Nat) :=
  match chM p j with
  | (_, k, false) => .inr (2, k)
  | (lo, k, true) =>
    if p[k]? = some 45 then
      match chM p (k + 1) with
      | (_, m, false) => .inr (2, m)
      | (hi, m, true) => if hi < lo then .inr (4, j) else .inl (lo, hi, m)
    else .inl (lo, lo, k)
theorem itemM_gt {p : List UInt8} {j k : Nat} {a b : UInt8} (h : itemM p j = .inl (a, b, k)) : j < k ∧ k ≤ p.length ∧ a ≤ b := by
  unfold itemM at h
  split at h
  · cases h
  · next lo k' hk =>
    have h1 := chM_gt hk
    split at h
    · split at h
      · cases h
      · next hi m hm =>
        have h2 := chM_gt hm
        split at h
        · cases h
        · next hle =>
          simp only [Sum.inl.injEq, Prod.mk.injEq] at h
          obtain ⟨rfl, rfl, rfl⟩ := h
          exact ⟨by omega, by omega, UInt8.not_lt.1 hle⟩
    · simp only [Sum.inl.injEq, Prod.mk.injEq] at h
      obtain ⟨rfl, rfl, rfl⟩ := h
      exact ⟨by omega, by omega, UInt8.le_refl _⟩
/-- The rest of a class, behind at least one item or at its first: the items' set and where the class ends, or the fault. -/
def clsM (p : List UInt8) (j : Nat) (items : Bool) (f : UInt8 → Bool) : ((UInt8 → Bool) × Nat) ⊕ (Int × Nat) :=
  if h : j < p.length then
    if p[j]? = some 93 ∧ items = true then .inl (f, j + 1)
    else match hi : itemM p j with
      | .inr e => .inr e
      | .inl (a, b, k) => clsM p k true (fun c => f c || (decide (a ≤ c) && decide (c ≤ b)))
  else .inr (2, p.length)
termination_by p.length - j
decreasing_by have := itemM_gt hi; omega
/-- A class behind its '['. -/
def classM (p : List UInt8) (i : Nat) : ((UInt8 → Bool) × Nat) ⊕ (Int × Nat) :=
  if p[i]? = some 94 then (match clsM p (i + 1) false (fun _ => false) with | .inl (f, k) => .inl (fun c => !f c, k) | .inr e => .inr e)
  else clsM p i false (fun _ => false)
theorem clsM_gt : ∀ (n : Nat) {p : List UInt8} {j : Nat} {b : Bool} {f g : UInt8 → Bool} {k : Nat}, p.length - j ≤ n → clsM p j b f = .inl (g, k) → j < k ∧ k ≤ p.length
  | n, p, j, b, f, g, k, hn, h => by
    unfold clsM at h
    split at h
    · next hj =>
      split at h
      · simp only [Sum.inl.injEq, Prod.mk.injEq] at h
        omega
      · split at h
        · cases h
        · next a b' k' hk =>
          have h1 := itemM_gt hk
          match n, hn with
          | 0, hn => omega
          | n + 1, hn =>
            have h2 := clsM_gt n (by omega) h
            omega
    · cases h
theorem classM_gt {p : List UInt8} {i : Nat} {g : UInt8 → Bool} {k : Nat} (h : classM p i = .inl (g, k)) : i < k ∧ k ≤ p.length := by
  unfold classM at h
  split at h
  · split at h
    · next hc =>
      have := clsM_gt _ (Nat.le_refl _) hc
      simp only [Sum.inl.injEq, Prod.mk.injEq] at h
      omega
    · cases h
  · exact clsM_gt _ (Nat.le_refl _) h
theorem itemM_err {p : List UInt8} {j : Nat} {c : Int} {k : Nat} (h : itemM p j = .inr (c, k)) : ¬ c = 0 := by
  unfold itemM at h
  split at h
  · simp only [Sum.inr.injEq, Prod.mk.injEq] at h; omega
  · split at h
    · split at h
      · simp only [Sum.inr.injEq, Prod.mk.injEq] at h; omega
      · split at h
        · simp only [Sum.inr.injEq, Prod.mk.injEq] at h; omega
        · cases h
    · cases h
theorem clsM_err : ∀ (n : Nat) {p : List UInt8} {j : Nat} {b : Bool} {f : UInt8 → Bool} {c : Int} {k : Nat}, p.length - j ≤ n → clsM p j b f = .inr (c, k) → ¬ c = 0
  | n, p, j, b, f, c, k, hn, h => by
    unfold clsM at h
    split at h
    · split at h
      · cases h
      · split at h
        · next e he =>
          simp only [Sum.inr.injEq] at h
          subst h
          exact itemM_err he
        · next a b' k' hk =>
          have h1 := itemM_gt hk
          match n, hn with
          | 0, hn => omega
          | n + 1, hn => exact clsM_err n (by omega) h
    · simp only [Sum.inr.injEq, Prod.mk.injEq] at h; omega
theorem classM_err {p : List UInt8} {i : Nat} {c : Int} {k : Nat} (h : classM p i = .inr (c, k)) : ¬ c = 0 := by
  unfold classM at h
  split at h
  · split at h
    · cases h
    · next e he =>
      simp only [Sum.inr.injEq] at h
      subst h
      exact clsM_err _ (Nat.le_refl _) he
  · exact clsM_err _ (Nat.le_refl _) h
/-- The check, from place i on: so many are open, an atom stands before or none. -/
def chkM (p : List UInt8) (i o : Nat) (a : Bool) : Int × Nat :=
  if h : i < p.length then
    if p[i] = 40 then (if o = 20 then (3, i) else chkM p (i + 1) (o + 1) false)
    else if p[i] = 41 then (if o = 0 then (2, i) else chkM p (i + 1) (o - 1) true)
    else if p[i] = 124 then chkM p (i + 1) o false
    else if p[i] = 42 ∨ p[i] = 43 ∨ p[i] = 63 then (if a = true then chkM p (i + 1) o true else (2, i))
    else if p[i] = 91 then (match hc : classM p (i + 1) with | .inr e => e | .inl (f, k) => chkM p k o true)
    else if p[i] = 93 then (2, i)
    else if p[i] = 92 then (if i + 1 = p.length then (2, p.length) else chkM p (i + 2) o true)
    else chkM p (i + 1) o true
  else if 0 < o then (2, p.length) else (0, 0)
termination_by p.length - i
decreasing_by
  all_goals first
    | (have := classM_gt hc; omega)
    | omega

variable {p : List UInt8} {i o : Nat} {a : Bool} {c : UInt8}
theorem lt_of_at (h : p[i]? = some c) : i < p.length := (List.getElem?_eq_some_iff.1 h).1
theorem get_of_at (h : p[i]? = some c) : p[i]'(lt_of_at h) = c := (List.getElem?_eq_some_iff.1 h).2
theorem chk_end (h : ¬ i < p.length) : chkM p i o a = if 0 < o then (2, p.length) else (0, 0) := by rw [chkM, dif_neg h]
theorem chk_open (h : p[i]? = some 40) : chkM p i o a = if o = 20 then (3, i) else chkM p (i + 1) (o + 1) false := by
  rw [chkM, dif_pos (lt_of_at h), if_pos (get_of_at h)]
theorem chk_close (h : p[i]? = some 41) : chkM p i o a = if o = 0 then (2, i) else chkM p (i + 1) (o - 1) true := by
  rw [chkM, dif_pos (lt_of_at h), get_of_at h]; simp
theorem chk_bar (h : p[i]? = some 124) : chkM p i o a = chkM p (i + 1) o false := by
  rw [chkM, dif_pos (lt_of_at h), get_of_at h]; simp
theorem chk_op (h : p[i]? = some c) (hc : isOp c) : chkM p i o a = if a = true then chkM p (i + 1) o true else (2, i) := by
  rw [chkM, dif_pos (lt_of_at h), get_of_at h]
  rcases hc with rfl | rfl | rfl <;> simp
theorem chk_rb (h : p[i]? = some 93) : chkM p i o a = (2, i) := by
  rw [chkM, dif_pos (lt_of_at h), get_of_at h]; simp
theorem chk_class (h : p[i]? = some 91) : chkM p i o a = match classM p (i + 1) with | .inr e => e | .inl (f, k) => chkM p k o true := by
  rw [chkM, dif_pos (lt_of_at h), get_of_at h]
  simp only [show ¬ (91 : UInt8) = 40 by decide, show ¬ (91 : UInt8) = 41 by decide, show ¬ (91 : UInt8) = 124 by decide, show ¬ ((91 : UInt8) = 42 ∨ (91 : UInt8) = 43 ∨ (91 : UInt8) = 63) by decide, if_false, if_true]
  split <;> (next hc => rw [hc])
theorem chk_esc (h : p[i]? = some 92) : chkM p i o a = if i + 1 = p.length then (2, p.length) else chkM p (i + 2) o true := by
  rw [chkM, dif_pos (lt_of_at h), get_of_at h]; simp
theorem chk_plain (h : p[i]? = some c) (h1 : ¬ isEnd c) (h2 : ¬ c = 40) (h3 : ¬ c = 91) (h4 : ¬ c = 92) : chkM p i o a = chkM p (i + 1) o true := by
  rw [chkM, dif_pos (lt_of_at h), get_of_at h]
  unfold isEnd isOp at h1
  simp only [not_or] at h1
  obtain ⟨⟨g1, g2, g3⟩, g4, g5, g6⟩ := h1
  simp [h2, h3, h4, g1, g2, g3, g4, g5, g6]
/-- Where no sign of repetition stands, it is one whether an atom stands before. -/
theorem chk_flag (h : ∀ c, p[i]? = some c → ¬ isOp c) (a b : Bool) : chkM p i o a = chkM p i o b := by
  by_cases hi : i < p.length
  · obtain ⟨c, hc⟩ : ∃ c, p[i]? = some c := ⟨_, List.getElem?_eq_getElem hi⟩
    have hn := h c hc
    by_cases h1 : c = 40
    · subst h1; rw [chk_open hc, chk_open hc]
    by_cases h2 : c = 41
    · subst h2; rw [chk_close hc, chk_close hc]
    by_cases h3 : c = 124
    · subst h3; rw [chk_bar hc, chk_bar hc]
    by_cases h4 : c = 93
    · subst h4; rw [chk_rb hc, chk_rb hc]
    by_cases h5 : c = 91
    · subst h5; rw [chk_class hc, chk_class hc]
    by_cases h6 : c = 92
    · subst h6; rw [chk_esc hc, chk_esc hc]
    have he : ¬ isEnd c := fun q => q.elim hn (fun q => q.elim h3 (fun q => q.elim h2 h4))
    rw [chk_plain hc he h1 h5 h6, chk_plain hc he h1 h5 h6]
  · rw [chk_end hi, chk_end hi]
end Go.Proofs.Ytnncedndlhfdkab

/-
  Filters as lists of nodes: trees in postfix order, their shapes.
-/
namespace Go.Proofs.Ytnncedndlhfdkab
set_option linter.unusedVariables false
set_option linter.unusedSimpArgs false

structure Nd where
  kind : Int
  s : ByteArray
  hi : Bool
  t : ByteArray
  lo : Int
  up : Int
  n : Int
def arity (k : Int) : Nat := if k = 14 ∨ k = 15 then 2 else if k = 16 then 3 else 0
theorem arity_le (k : Int) : arity k ≤ 3 := by unfold arity; split <;> (try split) <;> omega

/-- So many trees, one behind another. -/
inductive IsT : Nat → List Nd → Prop
  | nil : IsT 0 []
  | snoc {k : Nat} {xs : List Nd} (n : Nd) (h : IsT (k + arity n.kind) xs) : IsT (k + 1) (xs ++ [n])
theorem IsT.inv_nil {k : Nat} {xs : List Nd} (h : IsT k xs) (e : xs = []) : k = 0 := by
  cases h with
  | nil => rfl
  | snoc n h => simp at e
theorem IsT.inv_snoc {k : Nat} {xs ys : List Nd} {n : Nd} (h : IsT k ys) (e : ys = xs ++ [n]) : ∃ j, k = j + 1 ∧ IsT (j + arity n.kind) xs := by
  cases h with
  | nil => simp at e
  | snoc m h =>
    have := List.append_inj' e rfl
    obtain ⟨rfl, h2⟩ := this
    simp at h2
    subst h2
    exact ⟨_, rfl, h⟩
theorem IsT.zero {xs : List Nd} (h : IsT 0 xs) : xs = [] := by
  cases h with
  | nil => rfl
theorem IsT.len {k : Nat} {xs : List Nd} (h : IsT k xs) : k ≤ xs.length := by
  induction h with
  | nil => exact Nat.le_refl _
  | snoc n h ih => simp; omega
theorem IsT.split : ∀ {m : Nat} {xs : List Nd}, IsT m xs → ∀ {k j : Nat}, m = k + j → ∃ a b, xs = a ++ b ∧ IsT k a ∧ IsT j b := by
  intro m xs h
  induction h with
  | nil => intro k j e; obtain ⟨rfl, rfl⟩ : k = 0 ∧ j = 0 := by omega
           exact ⟨[], [], rfl, .nil, .nil⟩
  | @snoc q ys n h ih =>
    intro k j e
    cases j with
    | zero => exact ⟨ys ++ [n], [], by simp, by rw [show k = q + 1 by omega]; exact .snoc n h, .nil⟩
    | succ j =>
      obtain ⟨a, b, rfl, ha, hb⟩ := ih (k := k) (j := j + arity n.kind) (by omega)
      exact ⟨a, b ++ [n], by simp, ha, .snoc n hb⟩
/-- What has been asked for, from the right. -/
inductive Sc : Nat → List Nd → Prop
  | nil : Sc 1 []
  | cons {m : Nat} {ys : List Nd} (n : Nd) (h : Sc (m + 1) ys) : Sc (m + arity n.kind) (n :: ys)
theorem Sc.inv {m : Nat} {n : Nd} {ys : List Nd} (h : Sc m (n :: ys)) : ∃ q, m = q + arity n.kind ∧ Sc (q + 1) ys := by
  cases h with
  | cons _ h => exact ⟨_, rfl, h⟩
theorem Sc.one : ∀ {ys : List Nd} {m k : Nat}, Sc m ys → Sc k ys → m = k
  | [], _, _, .nil, .nil => rfl
  | n :: ys, m, k, h, g => by
    obtain ⟨a, rfl, ha⟩ := h.inv
    obtain ⟨b, rfl, hb⟩ := g.inv
    have := Sc.one ha hb
    omega
theorem Sc.tree : ∀ {ys : List Nd} {m : Nat}, Sc m ys → ∀ {pre : List Nd}, IsT m pre ↔ IsT 1 (pre ++ ys)
  | [], _, .nil, pre => by simp
  | n :: ys, m, h, pre => by
    obtain ⟨q, rfl, hq⟩ := h.inv
    have ih := Sc.tree hq (pre := pre ++ [n])
    rw [List.append_assoc] at ih
    rw [show pre ++ n :: ys = pre ++ ([n] ++ ys) from rfl, ← ih]
    constructor
    · intro h; exact .snoc n h
    · intro h
      obtain ⟨j, hj, h2⟩ := h.inv_snoc rfl
      rw [show q = j by omega]; exact h2
theorem IsT.sc {j : Nat} {b : List Nd} (h : IsT j b) : ∀ {m : Nat} {ys : List Nd}, Sc (m + j) ys → Sc m (b ++ ys) := by
  induction h with
  | nil => intro m ys h; exact h
  | @snoc k xs n h ih =>
    intro m ys hs
    rw [List.append_assoc]
    apply ih
    show Sc (m + (k + arity n.kind)) (n :: ys)
    rw [← Nat.add_assoc]
    exact .cons n hs
theorem IsT.sc0 {b : List Nd} (h : IsT 1 b) : Sc 0 b := by
  have := h.sc (m := 0) (ys := []) .nil
  simpa using this
/-- A tree at the end: one alone. -/
theorem tree_one {xs : List Nd} {i j : Nat} (hi : IsT 1 (xs.drop i)) (hj : IsT 1 (xs.drop j)) (hij : i ≤ j) (hjl : j ≤ xs.length) : i = j := by
  have h0 := hj.sc0
  have e : xs.drop i = (xs.drop i).take (j - i) ++ xs.drop j := by
    conv => lhs; rw [← List.take_append_drop (j - i) (xs.drop i)]
    rw [List.drop_drop, show i + (j - i) = j by omega]
  rw [e] at hi
  have h1 := (h0.tree.2 hi).zero
  have h2 := congrArg List.length h1
  simp at h2
  omega
/-- Where the asking comes to no end no tree stands. -/
theorem sc_none {xs : List Nd} : ∀ {i m : Nat}, Sc (m + 1) (xs.drop i) → ∀ j, i ≤ j → j ≤ xs.length → ¬ IsT 1 (xs.drop j) := by
  intro i m h j hij hjl ht
  obtain ⟨d, rfl⟩ : ∃ d, j = i + d := ⟨j - i, by omega⟩
  clear hij
  induction d generalizing i m with
  | zero => have := h.one ht.sc0; omega
  | succ d ih =>
    rw [List.drop_eq_getElem_cons (by omega)] at h
    obtain ⟨q, _, hq⟩ := h.inv
    exact ih (i := i + 1) (m := q) hq (by omega) (by rw [show i + 1 + d = i + (d + 1) by omega]; exact ht)

structure Shape where
  valid : Bool
  kind : Int
  nest : Nat
def strong (k : Int) : Nat := if k = 15 then 1 else if k = 14 then 2 else 3
/-- Whether an operand counts as one level. -/
def level (op : Int) (i : Nat) (kid : Int) : Bool := decide (op = 16) || (if i = 0 then decide (strong kid < strong op) else decide (strong kid ≤ strong op))
def nestFrom (op : Int) : Nat → Nat → List Shape → Nat
  | _, a, [] => a
  | i, a, o :: os => nestFrom op (i + 1) (max a (o.nest + if level op i o.kind then 1 else 0)) os
variable (G : Nd → Bool)
def shapeM (n : Nd) (os : List Shape) : Shape := ⟨G n && os.all (·.valid), n.kind, nestFrom n.kind 0 0 os⟩
def stepM (st : List Shape) (n : Nd) : Option (List Shape) :=
  if st.length < arity n.kind then none else some (st.take (st.length - arity n.kind) ++ [shapeM G n (st.drop (st.length - arity n.kind))])
def foldM (st : List Shape) : List Nd → Option (List Shape)
  | [] => some st
  | n :: ns => match stepM G st n with
    | none => none
    | some st' => foldM st' ns
theorem foldM_append (st : List Shape) (xs ys : List Nd) : foldM G st (xs ++ ys) = (foldM G st xs).bind (fun s => foldM G s ys) := by
  induction xs generalizing st with
  | nil => rfl
  | cons x xs ih =>
    simp only [List.cons_append, foldM]
    cases stepM G st x with
    | none => rfl
    | some s => exact ih s
/-- The shapes of trees, one behind another. -/
inductive ShT : List Shape → List Nd → Prop
  | nil : ShT [] []
  | snoc {ss os : List Shape} {xs : List Nd} (n : Nd) (ho : os.length = arity n.kind) (h : ShT (ss ++ os) xs) : ShT (ss ++ [shapeM G n os]) (xs ++ [n])
theorem IsT.shapes {k : Nat} {xs : List Nd} (h : IsT k xs) : ∃ ss, ss.length = k ∧ ShT G ss xs := by
  induction h with
  | nil => exact ⟨[], rfl, .nil⟩
  | @snoc k xs n h ih =>
    obtain ⟨ss, hl, hs⟩ := ih
    refine ⟨ss.take k ++ [shapeM G n (ss.drop k)], by simp; omega, .snoc n (by simp; omega) ?_⟩
    rw [List.take_append_drop]; exact hs
theorem ShT.tree {ss : List Shape} {xs : List Nd} (h : ShT G ss xs) : IsT ss.length xs := by
  induction h with
  | nil => exact .nil
  | @snoc ss os xs n ho h ih =>
    rw [List.length_append]
    refine IsT.snoc n ?_
    rw [← ho, ← List.length_append]; exact ih
theorem ShT.fold {ss : List Shape} {xs : List Nd} (h : ShT G ss xs) : ∀ st, foldM G st xs = some (st ++ ss) := by
  induction h with
  | nil => intro st; simp [foldM]
  | @snoc ss os xs n ho h ih =>
    intro st
    rw [foldM_append, ih]
    simp only [Option.bind_some, foldM, stepM]
    rw [if_neg (by simp; omega)]
    have hl : (st ++ (ss ++ os)).length - arity n.kind = (st ++ ss).length := by simp; omega
    rw [hl, ← List.append_assoc, List.take_left, List.drop_left, List.append_assoc]
theorem fold_from : ∀ {xs pre : List Nd} {st ss : List Shape}, ShT G st pre → foldM G st xs = some ss → ShT G ss (pre ++ xs)
  | [], pre, st, ss, h, e => by
    simp [foldM] at e; subst e; simpa using h
  | n :: xs, pre, st, ss, h, e => by
    simp only [foldM, stepM] at e
    by_cases hl : st.length < arity n.kind
    · rw [if_pos hl] at e; cases e
    · rw [if_neg hl] at e
      have h1 : ShT G (st.take (st.length - arity n.kind) ++ [shapeM G n (st.drop (st.length - arity n.kind))]) (pre ++ [n]) := by
        refine .snoc n (by simp; omega) ?_
        rw [List.take_append_drop]; exact h
      have h2 := fold_from h1 e
      rw [List.append_assoc] at h2
      exact h2
theorem fold_tree {xs : List Nd} {ss : List Shape} (h : foldM G [] xs = some ss) : ShT G ss xs := by
  simpa using fold_from G (pre := []) .nil h
theorem ShT.valid {ss : List Shape} {xs : List Nd} (h : ShT G ss xs) : ss.all (·.valid) = xs.all G := by
  induction h with
  | nil => rfl
  | @snoc ss os xs n ho h ih =>
    rw [List.all_append, List.all_append, ← ih, List.all_append]
    simp [shapeM]
    cases G n <;> cases ss.all (·.valid) <;> cases os.all (·.valid) <;> rfl
theorem ShT.split {ss : List Shape} {xs : List Nd} (h : ShT G ss xs) : ∀ {a b : List Shape}, ss = a ++ b → ∃ ys zs, xs = ys ++ zs ∧ ShT G a ys ∧ ShT G b zs := by
  induction h with
  | nil => intro a b e; obtain ⟨rfl, rfl⟩ : a = [] ∧ b = [] := by simpa using e.symm
           exact ⟨[], [], rfl, .nil, .nil⟩
  | @snoc ss os xs n ho h ih =>
    intro a b e
    rcases List.eq_nil_or_concat b with rfl | ⟨b', z, rfl⟩
    · simp at e; subst e
      exact ⟨xs ++ [n], [], by simp, .snoc n ho h, .nil⟩
    · rw [List.concat_eq_append, ← List.append_assoc] at e
      have e2 := List.append_inj' e rfl
      obtain ⟨e3, e4⟩ := e2
      simp at e4
      subst e3 e4
      obtain ⟨ys, zs, rfl, h1, h2⟩ := ih (a := a) (b := b' ++ os) (by simp)
      refine ⟨ys, zs ++ [n], by simp, h1, ?_⟩
      rw [List.concat_eq_append]
      exact .snoc n ho h2
/-- What ValidFilter comes to. -/
def validF (xs : List Nd) : Bool := decide (xs.length ≤ 200) && (match foldM G [] xs with
  | some [sh] => sh.valid && decide (sh.nest ≤ 20)
  | _ => false)
theorem ShT.inv {s : Shape} {xs : List Nd} (h : ShT G [s] xs) : ∃ ys n os, xs = ys ++ [n] ∧ os.length = arity n.kind ∧ ShT G os ys ∧ s = shapeM G n os := by
  generalize hs : [s] = ss at h
  cases h with
  | nil => cases hs
  | @snoc ss os xs n ho h =>
    have e := List.append_inj' (s₁ := []) (t₁ := [s]) hs rfl
    obtain ⟨e1, e2⟩ := e
    subst e1
    simp at e2
    exact ⟨xs, n, os, rfl, ho, h, e2⟩
/-- The operands of a node, one by one. -/
inductive Kids : List Shape → List (List Nd) → Prop
  | nil : Kids [] []
  | cons {o : Shape} {os : List Shape} {k : List Nd} {ks : List (List Nd)} (h : ShT G [o] k) (t : Kids os ks) : Kids (o :: os) (k :: ks)
theorem ShT.kids : ∀ {os : List Shape} {ys : List Nd}, ShT G os ys → ∃ ks, ys = ks.flatten ∧ Kids G os ks
  | [], ys, h => by
    have := h.tree.zero
    subst this
    exact ⟨[], rfl, .nil⟩
  | o :: os, ys, h => by
    obtain ⟨a, b, rfl, h1, h2⟩ := ShT.split G h (a := [o]) (b := os) rfl
    obtain ⟨ks, rfl, hk⟩ := ShT.kids h2
    exact ⟨a :: ks, rfl, .cons h1 hk⟩
theorem Kids.length {os : List Shape} {ks : List (List Nd)} (h : Kids G os ks) : os.length = ks.length := by
  induction h with
  | nil => rfl
  | cons _ _ ih => simp [ih]
theorem Kids.tree {os : List Shape} {ks : List (List Nd)} (h : Kids G os ks) : ∀ k ∈ ks, IsT 1 k := by
  induction h with
  | nil => intro k hk; cases hk
  | cons h1 _ ih =>
    intro k hk
    rcases List.mem_cons.1 hk with rfl | hk
    · exact h1.tree
    · exact ih k hk
theorem Kids.nth {os : List Shape} {ks : List (List Nd)} (h : Kids G os ks) : ∀ {j : Nat} {k : List Nd}, ks[j]? = some k → ∃ o, os[j]? = some o ∧ ShT G [o] k := by
  induction h with
  | nil => intro j k hk; simp at hk
  | cons h1 _ ih =>
    intro j k hk
    cases j with
    | zero => simp at hk; subst hk; exact ⟨_, rfl, h1⟩
    | succ j => simp at hk; simpa using ih hk
theorem nestFrom_le (op : Int) (B : Nat) : ∀ {os : List Shape} {i a : Nat}, a ≤ B → (∀ o ∈ os, o.nest + 1 ≤ B) → nestFrom op i a os ≤ B
  | [], i, a, h, _ => h
  | o :: os, i, a, h, g => by
    unfold nestFrom
    apply nestFrom_le op B
    · have := g o (by simp)
      split <;> omega
    · exact fun o' ho => g o' (by simp [ho])
theorem kid_len {os : List Shape} {ks : List (List Nd)} (h : Kids G os ks) {o : Shape} (ho : o ∈ os) : ∃ k ∈ ks, ShT G [o] k := by
  induction h with
  | nil => cases ho
  | cons h1 _ ih =>
    rcases List.mem_cons.1 ho with rfl | ho
    · exact ⟨_, by simp, h1⟩
    · obtain ⟨k, hk, h2⟩ := ih ho
      exact ⟨k, by simp [hk], h2⟩
theorem len_flat {ks : List (List Nd)} {k : List Nd} (h : k ∈ ks) : k.length ≤ ks.flatten.length := by
  induction ks with
  | nil => cases h
  | cons a ks ih =>
    simp only [List.flatten_cons, List.length_append]
    rcases List.mem_cons.1 h with rfl | h
    · omega
    · have := ih h; omega
theorem nest_len : ∀ (n : Nat) {s : Shape} {xs : List Nd}, xs.length ≤ n → ShT G [s] xs → s.nest ≤ xs.length
  | 0, s, xs, hn, h => by
    obtain ⟨ys, e, os, rfl, _⟩ := h.inv
    simp at hn
  | n + 1, s, xs, hn, h => by
    obtain ⟨ys, e, os, rfl, _, h2, rfl⟩ := h.inv
    obtain ⟨ks, rfl, hK⟩ := h2.kids
    simp only [List.length_append, List.length_singleton] at hn ⊢
    refine nestFrom_le e.kind _ (Nat.zero_le _) fun o ho => ?_
    obtain ⟨k, hk, h3⟩ := kid_len G hK ho
    have h4 := len_flat hk
    have h5 := nest_len n (by omega) h3
    omega
end Go.Proofs.Ytnncedndlhfdkab

/-
  Entries by value: the contracts of szEntry, toEntry, spec.ValidEntry, impl.ValidEntry.
-/
namespace Go.Proofs.Ytnncedndlhfdkab
open Go.ChangeShapes Go.WideShapes Go.ChangeAt Go.RowKit
open Go.ChangeMaps (open_string shut_string)

/-- An entry as Lean has it. -/
structure Ent where
  row : ByteArray
  fam : ByteArray
  qual : ByteArray
  ts : Int
  kind : Int
  val : ByteArray

abbrev Ent.v (e : Ent) : Value := .agg #[.string e.row, .string e.fam, .string e.qual, .int .u64 e.ts, .int .i64 e.kind, .string e.val]
/-- It fits its types. -/
structure Ent.ok (e : Ent) : Prop where
  row : e.row.size ≤ maxLen
  fam : e.fam.size ≤ maxLen
  qual : e.qual.size ≤ maxLen
  val : e.val.size ≤ maxLen
  ts : (Lit.int .u64 e.ts).wf = true
  kind : (Lit.int .i64 e.kind).wf = true

def Ent.bulk (e : Ent) : Int := e.row.size + e.fam.size + e.qual.size + e.val.size

set_option maxHeartbeats 400000 in
theorem szEntry_core (r f q v : ByteArray) (t k left : Int) (w : World) (hr : r.size ≤ maxLen) (hf : f.size ≤ maxLen) (hq : q.size ≤ maxLen) (hv : v.size ≤ maxLen) (h0 : 0 ≤ left) (h1 : left ≤ 2 ^ 40) :
    Calls Try.prog 47 #[.agg #[.string r, .string f, .string q, .int .u64 t, .int .i64 k, .string v], .int .i64 left] w fun e w' =>
      ∃ x, e = .returned (.int .i64 x) ∧ (x = -1 ∨ (0 ≤ x ∧ x + r.size + f.size + q.size + v.size = left)) ∧ Below w.heap.size w w' := by
  unfold maxLen at hr hf hq hv
  go_enter Try.func47, Try.ntmps47
  go_wp2
  · go_ret
    exact ⟨_, rfl, .inl rfl, (Below.refl _ _).alloc (Nat.le_refl _) _⟩
  · go_ret
    exact ⟨_, rfl, .inl rfl, (Below.refl _ _).alloc (Nat.le_refl _) _⟩
  · go_ret
    exact ⟨_, rfl, .inl rfl, (Below.refl _ _).alloc (Nat.le_refl _) _⟩
  · go_ret
    exact ⟨_, rfl, .inl rfl, (Below.refl _ _).alloc (Nat.le_refl _) _⟩
  · go_ret
    exact ⟨_, rfl, .inr ⟨by assumption, by omega⟩, (Below.refl _ _).alloc (Nat.le_refl _) _⟩

set_option maxHeartbeats 400000 in
theorem toEntry_core (r f q v : ByteArray) (t k : Int) (w : World) :
    Calls Try.prog 51 #[.agg #[.string r, .string f, .string q, .int .u64 t, .int .i64 k, .string v]] w fun e w' =>
      e = .returned (.agg #[.string r, .string f, .string q, .int .u64 t, .int .i64 k, .string v]) ∧ Below w.heap.size w w' := by
  go_enter Try.func51, Try.ntmps51
  go_wp2
  refine bodyPost_ret (v := .agg #[.string r, .string f, .string q, .int .u64 t, .int .i64 k, .string v]) (by simp [results, Try.results51, go_sem]) rfl ⟨rfl, ?_⟩
  exact (((Below.refl _ _).alloc (Nat.le_refl _) _).alloc (by simp) _).alloc (by simp; omega) _

theorem ret_bool {a b : Bool} (h : a = b) : Ending.returned (.bool a) = .returned (.bool b) := by rw [h]

theorem isE (v : ByteArray) : v.toList.isEmpty = decide (v.size = 0) := by
  rw [ByteArray.toList_eq, Bool.eq_iff_iff]
  simp [← ByteArray.size_data]

theorem orE (k : Int) (v : ByteArray) (h : ¬ k = 0) : (k == 0 || v.toList.isEmpty) = decide (v.size = 0) := by
  rw [isE]; simp [h]

def vE (r f q : ByteArray) (k : Int) (v : ByteArray) : Bool :=
  decide (1 ≤ r.size ∧ r.size ≤ 64 ∧ 1 ≤ f.size ∧ f.size ≤ 16 ∧ q.size ≤ 64 ∧ v.size ≤ 200 ∧ 0 ≤ k ∧ k ≤ 2 ∧ (k = 0 ∨ v.size = 0))

set_option maxHeartbeats 400000 in
theorem specValid_core (r f q v : ByteArray) (t k : Int) (w : World) (hr : r.size ≤ maxLen) (hf : f.size ≤ maxLen) (hq : q.size ≤ maxLen) (hv : v.size ≤ maxLen) :
    Calls Try.prog 35 #[.agg #[.string r, .string f, .string q, .int .u64 t, .int .i64 k, .string v]] w fun e w' =>
      e = .returned (.bool (vE r f q k v)) ∧ Below w.heap.size w w' := by
  unfold maxLen at hr hf hq hv
  go_enter Try.func35, Try.ntmps35
  go_wp2
  all_goals go_ret
  all_goals refine ⟨ret_bool ?_, (Below.refl _ _).alloc (Nat.le_refl _) _⟩
  all_goals unfold vE
  all_goals go_light
  all_goals first
    | (refine (decide_eq_true ?_).symm; omega)
    | (refine (decide_eq_false ?_).symm; omega)
    | (rw [orE _ _ ‹¬ k = 0›]; refine decide_eq_decide.2 ⟨fun h => ?_, fun h => ?_⟩ <;> omega)

set_option maxHeartbeats 400000 in
theorem implValid_core (r f q v : ByteArray) (t k : Int) (w : World) (hr : r.size ≤ maxLen) (hf : f.size ≤ maxLen) (hq : q.size ≤ maxLen) (hv : v.size ≤ maxLen) :
    Calls Try.prog 43 #[.agg #[.string r, .string f, .string q, .int .u64 t, .int .i64 k, .string v]] w fun e w' =>
      e = .returned (.bool (vE r f q k v)) ∧ Below w.heap.size w w' := by
  unfold maxLen at hr hf hq hv
  go_enter Try.func43, Try.ntmps43
  go_wp2
  all_goals go_ret
  all_goals refine ⟨ret_bool ?_, (Below.refl _ _).alloc (Nat.le_refl _) _⟩
  all_goals unfold vE
  all_goals go_light
  all_goals (try simp only [beq_iff_eq, beq_eq_false_iff_ne, ne_eq] at *)
  all_goals first
    | (refine (decide_eq_true ?_).symm; omega)
    | (refine (decide_eq_false ?_).symm; omega)
    | (rw [isE]; refine decide_eq_decide.2 ⟨fun h => ?_, fun h => ?_⟩ <;> omega)
end Go.Proofs.Ytnncedndlhfdkab

/-
  Arguments opened: an entry that can be read is six plain values.
-/
namespace Go.Proofs.Ytnncedndlhfdkab
open Go.ChangeShapes Go.WideShapes Go.ChangeAt Go.RowKit Go.Deep

theorem Try.cellsEnt : Try.prog.cellsOf 77 = 6 := by kernel_rfl
theorem Try.cellsStr : Try.prog.cellsOf 9 = 1 := by kernel_rfl
theorem Try.cellsU64 : Try.prog.cellsOf 60 = 1 := by kernel_rfl
theorem Try.cellsI64 : Try.prog.cellsOf 2 = 1 := by kernel_rfl
theorem Try.cellsBool : Try.prog.cellsOf 4 = 1 := by kernel_rfl

theorem bcell {W w1 : World} (hb : Below W.heap.size W w1) : (∀ b o, b < W.heap.size → w1.cell? ⟨b, o, none⟩ = W.cell? ⟨b, o, none⟩) ∧ (∀ b o, b < W.heap.size → w1.frozen? ⟨b, o, none⟩ = W.frozen? ⟨b, o, none⟩) :=
  ⟨fun b o h => hb.cell (p := ⟨b, o, none⟩) h, fun b o h => hb.frozen (p := ⟨b, o, none⟩) h⟩

theorem list6 {α : Type} {cs : List α} (h : cs.length = 6) : ∃ c0 c1 c2 c3 c4 c5, cs = [c0, c1, c2, c3, c4, c5] := by
  match cs, h with
  | [c0, c1, c2, c3, c4, c5], _ => exact ⟨c0, c1, c2, c3, c4, c5, rfl⟩
theorem array6 {α : Type} {cs : Array α} (h : cs.size = 6) : ∃ c0 c1 c2 c3 c4 c5, cs = #[c0, c1, c2, c3, c4, c5] := by
  obtain ⟨l⟩ := cs
  obtain ⟨c0, c1, c2, c3, c4, c5, rfl⟩ := list6 h
  exact ⟨c0, c1, c2, c3, c4, c5, rfl⟩

set_option maxRecDepth 100000 in
theorem ent_of_trod {H : Type} {enc : TypeId × Value → H} {w : World} {base : Nat} {spare : Nat → Bool} {held : Bool} {fuel : Nat} {cs : List Value} {x : DataW H × List MemPlace}
    (h : DataW.trod enc Try.prog w base spare held fuel 77 cs = some x) :
    ∃ e : Ent, e.ok ∧ cs = [.string e.row, .string e.fam, .string e.qual, .int .u64 e.ts, .int .i64 e.kind, .string e.val] := by
  obtain ⟨xs, n, _, _, hl, hlen, hf⟩ := DataW.trod_struct Try.underlying77 h
  rw [Try.cellsEnt] at hl
  obtain ⟨c0, c1, c2, c3, c4, c5, rfl⟩ := list6 hl
  obtain ⟨x0, x1, x2, x3, x4, x5, rfl⟩ := list6 (cs := xs) hlen
  have h0 := hf 0 _ rfl
  have h1 := hf 1 _ rfl
  have h2 := hf 2 _ rfl
  have h3 := hf 3 _ rfl
  have h4 := hf 4 _ rfl
  have h5 := hf 5 _ rfl
  simp [Try.cellsStr, Try.cellsU64, Try.cellsI64] at h0 h1 h2 h3 h4 h5
  obtain ⟨a0, e0, _, b0⟩ := DataW.trod_string Try.underlying9 h0
  obtain ⟨a1, e1, _, b1⟩ := DataW.trod_string Try.underlying9 h1
  obtain ⟨a2, e2, _, b2⟩ := DataW.trod_string Try.underlying9 h2
  obtain ⟨a3, e3, _, b3⟩ := DataW.trod_int Try.underlying60 h3
  obtain ⟨a4, e4, _, b4⟩ := DataW.trod_int Try.underlying2 h4
  obtain ⟨a5, e5, _, b5⟩ := DataW.trod_string Try.underlying9 h5
  simp only [List.cons.injEq, and_true] at e0 e1 e2 e3 e4 e5
  exact ⟨⟨a0, a1, a2, a3, a4, a5⟩, ⟨b0, b1, b2, b5, b3, b4⟩, by rw [e0, e1, e2, e3, e4, e5]⟩

set_option maxRecDepth 100000 in
theorem open_ent {H : Type} {enc : TypeId × Value → H} {w : World} {base b0 : Nat} {spare : Nat → Bool} {held : Bool} {r : Reach} {v : Value} {d : DataW H} {p : List MemPlace}
    (hv : Value.okWide Try.prog w r b0 77 v) (h : DataW.Trod enc Try.prog w base spare held 77 v d p) : ∃ e : Ent, e.ok ∧ v = e.v := by
  obtain ⟨cs, rfl, hsz⟩ := okWide_struct Try.underlying77 hv
  obtain ⟨fuel, hf⟩ := h
  obtain ⟨e, he, hc⟩ := ent_of_trod hf
  refine ⟨e, he, ?_⟩
  simp only [Value.cells] at hc
  rw [show cs = ⟨cs.toList⟩ from rfl, hc]
end Go.Proofs.Ytnncedndlhfdkab

/-
  Entries in memory, one behind another.
-/
namespace Go.Proofs.Ytnncedndlhfdkab
open Go.ChangeShapes Go.WideShapes Go.ChangeAt Go.RowKit Go.Deep
set_option linter.unusedVariables false

abbrev Ent.cells (e : Ent) : List Value := [.string e.row, .string e.fam, .string e.qual, .int .u64 e.ts, .int .i64 e.kind, .string e.val]
def cellsE (es : List Ent) : List Value := es.flatMap Ent.cells
theorem cellsE_nil : cellsE [] = [] := rfl
theorem cellsE_cons (e : Ent) (es : List Ent) : cellsE (e :: es) = e.cells ++ cellsE es := by simp [cellsE]
theorem cellsE_append (es fs : List Ent) : cellsE (es ++ fs) = cellsE es ++ cellsE fs := by simp [cellsE]
theorem length_cellsE (es : List Ent) : (cellsE es).length = es.length * 6 := by
  induction es with
  | nil => rfl
  | cons e es ih => rw [cellsE_cons, List.length_append, ih]; simp; omega
theorem cellsE_get (es : List Ent) : ∀ (k : Nat) (e : Ent), es[k]? = some e → ∀ j, j < 6 → (cellsE es)[k * 6 + j]? = e.cells[j]? := by
  induction es with
  | nil => intro k e h; simp at h
  | cons f es ih =>
    intro k e h j hj
    rw [cellsE_cons]
    cases k with
    | zero =>
      simp at h; subst h
      rw [List.getElem?_append_left (by show 0 * 6 + j < 6; omega)]
      simp
    | succ k =>
      simp at h
      rw [List.getElem?_append_right (by show 6 ≤ (k + 1) * 6 + j; omega)]
      have : (k + 1) * 6 + j - f.cells.length = k * 6 + j := by show (k + 1) * 6 + j - 6 = _; omega
      rw [this]; exact ih k e h j hj
theorem cellsE_set (es : List Ent) : ∀ (k : Nat) (e e' : Ent) (u : Value) (j : Nat), es[k]? = some e → j < 6 → e'.cells = e.cells.set j u → (cellsE es).set (k * 6 + j) u = cellsE (es.set k e') := by
  induction es with
  | nil => intro k e e' u j h; simp at h
  | cons f es ih =>
    intro k e e' u j h hj hc
    rw [cellsE_cons]
    cases k with
    | zero =>
      simp at h; subst h
      rw [List.set_append_left _ _ (by show 0 * 6 + j < 6; omega), List.set_cons_zero, cellsE_cons, hc]
      simp
    | succ k =>
      simp at h
      rw [List.set_append_right _ _ (by show 6 ≤ (k + 1) * 6 + j; omega), List.set_cons_succ, cellsE_cons]
      have : (k + 1) * 6 + j - f.cells.length = k * 6 + j := by show (k + 1) * 6 + j - 6 = _; omega
      rw [this, ih k e e' u j h hj hc]

/-- The entries 'es' lie at ⟨b, off⟩, six cells each. -/
def EntsAt (w : World) (b off : Nat) (es : List Ent) : Prop :=
  ∀ i e, es[i]? = some e → w.cell? ⟨b, off + i * 6, none⟩ = some (.string e.row) ∧ w.cell? ⟨b, off + i * 6 + 1, none⟩ = some (.string e.fam) ∧ w.cell? ⟨b, off + i * 6 + 2, none⟩ = some (.string e.qual) ∧
    w.cell? ⟨b, off + i * 6 + 3, none⟩ = some (.int .u64 e.ts) ∧ w.cell? ⟨b, off + i * 6 + 4, none⟩ = some (.int .i64 e.kind) ∧ w.cell? ⟨b, off + i * 6 + 5, none⟩ = some (.string e.val)

theorem EntsAt.below {B : Nat} {w w' : World} {b off : Nat} {es : List Ent} (h : EntsAt w b off es) (hb : Below B w w') (hlt : b < B) : EntsAt w' b off es := by
  intro i e he
  have := h i e he
  refine ⟨?_, ?_, ?_, ?_, ?_, ?_⟩
  all_goals rw [hb.cell (by exact hlt)]
  · exact this.1
  · exact this.2.1
  · exact this.2.2.1
  · exact this.2.2.2.1
  · exact this.2.2.2.2.1
  · exact this.2.2.2.2.2

/-- A row of the call's own holds the entries 'es'. -/
def OwnE (w : World) (base g cap : Nat) (es : List Ent) : Prop := w.ownsRow base 62 6 (.slice (some ⟨g, 0, none⟩) es.length cap) es.length (cellsE es)

theorem OwnE.at {w : World} {base g cap : Nat} {es : List Ent} (h : OwnE w base g cap es) : EntsAt w g 0 es := by
  intro i e he
  have hi : i < es.length := (List.getElem?_eq_some_iff.1 he).1
  have c := fun j (hj : j < 6) => (World.ownsRow.cellAt h (i * 6 + j) (by omega)).trans (cellsE_get es i e he j hj)
  refine ⟨?_, ?_, ?_, ?_, ?_, ?_⟩
  · simpa using c 0 (by omega)
  · simpa using c 1 (by omega)
  · simpa using c 2 (by omega)
  · simpa using c 3 (by omega)
  · simpa using c 4 (by omega)
  · simpa using c 5 (by omega)
theorem OwnE.lt {w : World} {base g cap : Nat} {es : List Ent} (h : OwnE w base g cap es) : base ≤ g ∧ g < w.heap.size := World.ownsRow.lt h g rfl
theorem OwnE.below {B : Nat} {w w' : World} {base g cap : Nat} {es : List Ent} (h : OwnE w base g cap es) (hb : Below B w w') (hg : g < B) : OwnE w' base g cap es := by
  refine ⟨h.1, ?_⟩
  rcases h.2 with hn | ⟨g', cap', cur, hv, h1, h2, rest⟩
  · exact .inl hn
  · simp only [Value.slice.injEq, Option.some.injEq, Addr.mk.injEq, and_true, true_and] at hv
    obtain ⟨rfl, rfl⟩ := hv
    exact .inr ⟨g, cap, cur, rfl, h1, by rw [hb.block g hg]; exact h2, rest⟩
theorem OwnE.set {w : World} {base g cap : Nat} {es : List Ent} (h : OwnE w base g cap es) (k j : Nat) (e e' : Ent) (u : Value) (hk : es[k]? = some e) (hj : j < 6) (hc : e'.cells = e.cells.set j u) :
    OwnE (w.setCell ⟨g, k * 6 + j, none⟩ u) base g cap (es.set k e') := by
  have := (World.ownsRow.stored h (k * 6 + j) u).1
  rw [cellsE_set es k e e' u j hk hj hc] at this
  unfold OwnE
  rw [List.length_set]
  exact this

theorem OwnE.put {w : World} {base g cap : Nat} {es : List Ent} (h : OwnE w base g cap es) (k : Nat) (f e : Ent) (hk : es[k]? = some f) :
    OwnE ((((((w.setCell ⟨g, k * 6, none⟩ (.string e.row)).setCell ⟨g, k * 6 + 1, none⟩ (.string e.fam)).setCell ⟨g, k * 6 + 2, none⟩ (.string e.qual)).setCell ⟨g, k * 6 + 3, none⟩ (.int .u64 e.ts)).setCell ⟨g, k * 6 + 4, none⟩ (.int .i64 e.kind)).setCell ⟨g, k * 6 + 5, none⟩ (.string e.val)) base g cap (es.set k e) := by
  have hlt : k < es.length := (List.getElem?_eq_some_iff.1 hk).1
  have g1 := h.set k 0 f { f with row := e.row } (.string e.row) hk (by omega) rfl
  have g2 := g1.set k 1 { f with row := e.row } { f with row := e.row, fam := e.fam } (.string e.fam) (by simp [hlt]) (by omega) rfl
  have g3 := g2.set k 2 { f with row := e.row, fam := e.fam } { f with row := e.row, fam := e.fam, qual := e.qual } (.string e.qual) (by simp [hlt]) (by omega) rfl
  have g4 := g3.set k 3 { f with row := e.row, fam := e.fam, qual := e.qual } { f with row := e.row, fam := e.fam, qual := e.qual, ts := e.ts } (.int .u64 e.ts) (by simp [hlt]) (by omega) rfl
  have g5 := g4.set k 4 { f with row := e.row, fam := e.fam, qual := e.qual, ts := e.ts } { f with row := e.row, fam := e.fam, qual := e.qual, ts := e.ts, kind := e.kind } (.int .i64 e.kind) (by simp [hlt]) (by omega) rfl
  have g6 := g5.set k 5 { f with row := e.row, fam := e.fam, qual := e.qual, ts := e.ts, kind := e.kind } e (.string e.val) (by simp [hlt]) (by omega) rfl
  simpa only [List.set_set, Nat.add_zero] using g6
theorem below_put {B : Nat} {a w : World} (h : Below B a w) {g : Nat} (hg : B ≤ g) (o0 o1 o2 o3 o4 o5 : Nat) (v0 v1 v2 v3 v4 v5 : Value) :
    Below B a ((((((w.setCell ⟨g, o0, none⟩ v0).setCell ⟨g, o1, none⟩ v1).setCell ⟨g, o2, none⟩ v2).setCell ⟨g, o3, none⟩ v3).setCell ⟨g, o4, none⟩ v4).setCell ⟨g, o5, none⟩ v5) :=
  (((((h.setCell hg _).setCell hg _).setCell hg _).setCell hg _).setCell hg _).setCell hg _
theorem take_set_succ {es fs : List Ent} {k : Nat} {e : Ent} (h : fs.take k = es.take k) (hl : fs.length = es.length) (he : es[k]? = some e) : (fs.set k e).take (k + 1) = es.take (k + 1) := by
  have hlt : k < es.length := (List.getElem?_eq_some_iff.1 he).1
  apply List.ext_getElem?
  intro j
  have hj := congrArg (fun l => l[j]?) h
  simp only [List.getElem?_take] at hj ⊢
  rw [List.getElem?_set]
  by_cases h1 : j < k
  · have h2 : j < k + 1 := by omega
    have h3 : ¬ k = j := by omega
    simp only [h1, h2, h3, if_true, if_false] at hj ⊢
    exact hj
  · by_cases h2 : k = j
    · subst h2
      have h3 : k < k + 1 := by omega
      have h4 : k < fs.length := by omega
      simp only [h3, h4, if_true, he]
    · have h3 : ¬ j < k + 1 := by omega
      simp only [h3, if_false]

set_option maxHeartbeats 400000 in
theorem szEntryS_core (b off cap : Nat) (es : List Ent) (left : Int) (w : World) (hE : EntsAt w b off es) (hok : ∀ e ∈ es, e.ok) (hB : b < w.heap.size) (hlen : es.length ≤ cap) (hcap : cap ≤ maxLen) (h0 : 0 ≤ left) (h1 : left ≤ 2 ^ 40) :
    Calls Try.prog 18 #[.slice (some ⟨b, off, none⟩) es.length cap, .int .i64 left] w fun e w' =>
      ∃ x, e = .returned (.int .i64 x) ∧ (x = -1 ∨ (0 ≤ x ∧ x + es.length ≤ left)) ∧ Below w.heap.size w w' := by
  have HE : Hid (EntsAt w b off es) := hE
  have HO : Hid (∀ e ∈ es, e.ok) := hok
  clear hE hok
  unfold maxLen at hcap
  by_cases hle : left < es.length
  · have hle' : left - es.length < 0 := by omega
    go_enter Try.func18, Try.ntmps18
    go_wp2
    go_ret
    exact ⟨_, rfl, .inl rfl, Below.refl _ _⟩
  have hle' : 0 ≤ left - es.length := by omega
  go_enter Try.func18, Try.ntmps18
  go_wp2
  go_loopw [1, 5] (fun l i wr => ∃ (k : Nat) (x : Int), k ≤ es.length ∧ i = .int .i64 k ∧ l = .int .i64 x ∧ 0 ≤ x ∧ x + es.length ≤ left ∧ Below w.heap.size w wr) (fun _ i _ => es.length - (intOf i).toNat)
  case atStart => exact ⟨0, _, Nat.zero_le _, rfl, rfl, hle', by omega, Below.refl _ _⟩
  case round =>
    obtain ⟨k, x, hk, rfl, rfl, hx0, hx1, hb⟩ := hrel
    by_cases hlt : k < es.length
    · obtain ⟨e, he⟩ : ∃ e, es[k]? = some e := ⟨_, List.getElem?_eq_getElem hlt⟩
      obtain ⟨c0, c1, c2, c3, c4, c5⟩ := (HE.out.below hb hB) k e he
      have ok := HO.out e (List.mem_of_getElem? he)
      have HK : Hid e.ok := ok
      clear ok he
      go_wp2_with fail
      refine (szEntry_core e.row e.fam e.qual e.val e.ts e.kind _ _ HK.out.row HK.out.fam HK.out.qual HK.out.val (by omega) (by omega)).mono ?_
      rintro e w1 ⟨y, rfl, hy, hb1⟩
      have hsz := hb.size
      have hb2 := hb.trans (hb1.mono hsz)
      clear c0 c1 c2 c3 c4 c5 hb1
      by_cases hy0 : y < 0
      · go_wp2_with fail
        go_ret
        exact ⟨_, rfl, .inl rfl, hb2⟩
      · have hy1 : 0 ≤ y := by omega
        have hy2 : y + es.length ≤ left := by omega
        go_wp2_with fail
        go_roundw
        case rel => exact ⟨k + 1, y, by omega, by go_num, rfl, hy1, hy2, hb2⟩
        case measure => simp [intOf]; omega
    · go_wp2
      go_ret
      exact ⟨_, rfl, .inr ⟨hx0, hx1⟩, hb⟩

theorem Try.infoEnt : (Try.prog.info? 62).map (fun i => (i.zero, i.size, i.bytes)) = some (some (.agg #[.string ⟨#[]⟩, .string ⟨#[]⟩, .string ⟨#[]⟩, .int .u64 0, .int .i64 0, .string ⟨#[]⟩]), 6, 80) := by kernel_rfl

def zeroE : Ent := ⟨⟨#[]⟩, ⟨#[]⟩, ⟨#[]⟩, 0, 0, ⟨#[]⟩⟩
theorem made_zero (n : Nat) : (madeCells #[.string ⟨#[]⟩, .string ⟨#[]⟩, .string ⟨#[]⟩, .int .u64 0, .int .i64 0, .string ⟨#[]⟩] (n * 6)).toList = cellsE (List.replicate n zeroE) := by
  apply List.ext_getElem?
  intro j
  by_cases hj : j < n * 6
  · have h := cellsE_get (List.replicate n zeroE) (j / 6) zeroE (by rw [List.getElem?_replicate, if_pos (by omega)]) (j % 6) (Nat.mod_lt _ (by omega))
    rw [show j / 6 * 6 + j % 6 = j by omega] at h
    rw [h]
    have h6 : j % 6 < 6 := Nat.mod_lt _ (by omega)
    simp [madeCells, hj]
    generalize j % 6 = m at *
    match m, h6 with
    | 0, _ => rfl
    | 1, _ => rfl
    | 2, _ => rfl
    | 3, _ => rfl
    | 4, _ => rfl
    | 5, _ => rfl
  · have h1 : (cellsE (List.replicate n zeroE)).length ≤ j := by rw [length_cellsE, List.length_replicate]; omega
    rw [List.getElem?_eq_none h1]
    simp [madeCells, hj]

set_option maxHeartbeats 400000 in
set_option maxRecDepth 100000 in
theorem toEntryS_core (b off cap : Nat) (es : List Ent) (w : World) (hE : EntsAt w b off es) (hB : b < w.heap.size) (hlen : es.length ≤ cap) (hcap : cap ≤ maxLen) (h1 : es.length ≤ 1048576) :
    Calls Try.prog 20 #[.slice (some ⟨b, off, none⟩) es.length cap] w fun e w' =>
      ∃ g, e = .returned (.slice (some ⟨g, 0, none⟩) es.length es.length) ∧ OwnE w' w.heap.size g es.length es ∧ Below w.heap.size w w' := by
  have HE : Hid (EntsAt w b off es) := hE
  clear hE
  unfold maxLen at hcap
  obtain ⟨i, hi, hz0, hz1, hz2⟩ := info_parts Try.infoEnt
  have HI : Hid (Try.prog.info? 62 = some i ∧ i.zero = some (.agg #[.string ⟨#[]⟩, .string ⟨#[]⟩, .string ⟨#[]⟩, .int .u64 0, .int .i64 0, .string ⟨#[]⟩]) ∧ i.size = 6 ∧ i.bytes = 80) := ⟨hi, hz0, hz1, hz2⟩
  clear hi hz0 hz1 hz2
  go_enter Try.func20, Try.ntmps20
  go_wp2_with (at_make; refine wpList_make_full _ rfl _ _ 27 rfl w.heap.size 62 i _ 6 Try.underlying27 HI.out.1 HI.out.2.1 HI.out.2.2.1 _ _ _ _ es.length rfl rfl ?_ ?_ ?hb ?hm ?hs ?_)
  case hb => rw [HI.out.2.2.2]; omega
  case hm => unfold maxLen; omega
  case hs => exact Nat.le_refl _
  · rfl
  · rfl
  intro w1 hown hgrow
  rw [made_zero] at hown
  have hown1 : OwnE w1 w.heap.size w.heap.size es.length (List.replicate es.length zeroE) := by
    unfold OwnE; rw [List.length_replicate]; exact hown
  have HW : Hid (OwnE w1 w.heap.size w.heap.size es.length (List.replicate es.length zeroE)) := hown1
  have hb1 : Below w.heap.size w w1 := (Below.refl _ _).grown hgrow (Nat.le_refl _) (fun k hk => by cases hk)
  clear hown hown1 hgrow
  go_wp2_with fail
  go_loopw [4] (fun i wr => ∃ (k : Nat) (fs : List Ent), k ≤ es.length ∧ i = .int .i64 k ∧ fs.length = es.length ∧ fs.take k = es.take k ∧ OwnE wr w.heap.size w.heap.size es.length fs ∧ Below w.heap.size w wr) (fun i _ => es.length - (intOf i).toNat)
  case atStart => exact ⟨0, _, Nat.zero_le _, rfl, List.length_replicate .., rfl, HW.out, hb1⟩
  case round =>
    obtain ⟨k, fs, hk, rfl, hfl, hft, hO, hb⟩ := hrel
    have HO : Hid (fs.length = es.length ∧ fs.take k = es.take k ∧ OwnE wr w.heap.size w.heap.size es.length fs) := ⟨hfl, hft, hO⟩
    clear hfl hft hO
    by_cases hlt : k < es.length
    · obtain ⟨e, he⟩ : ∃ e, es[k]? = some e := ⟨_, List.getElem?_eq_getElem hlt⟩
      obtain ⟨c0, c1, c2, c3, c4, c5⟩ := (HE.out.below hb hB) k e he
      have HG : Hid (es[k]? = some e) := he
      clear he
      go_wp2_with fail
      refine (toEntry_core e.row e.fam e.qual e.val e.ts e.kind _).mono ?_
      rintro e' w2 ⟨rfl, hb2⟩
      have hO2 := (HO.out.2.2).below hb2 (HO.out.2.2).lt.2
      obtain ⟨f, hf⟩ : ∃ f, fs[k]? = some f := ⟨_, List.getElem?_eq_getElem (by rw [HO.out.1]; exact hlt)⟩
      obtain ⟨d0, d1, d2, d3, d4, d5⟩ := hO2.at k f hf
      simp only [Nat.zero_add] at d0 d1 d2 d3 d4 d5
      have hfz := fun j => World.ownsRow.frozenAt hO2 j
      have HO2 : Hid (OwnE w2 w.heap.size w.heap.size es.length fs ∧ fs[k]? = some f) := ⟨hO2, hf⟩
      clear hO2 hf c0 c1 c2 c3 c4 c5
      go_wp2_with fail
      go_roundw
      case rel => exact ⟨k + 1, fs.set k e, by omega, by go_num, by rw [List.length_set]; exact HO.out.1, take_set_succ HO.out.2.1 HO.out.1 HG.out, HO2.out.1.put k f e HO2.out.2, below_put (hb.trans (hb2.mono hb.size)) (Nat.le_refl _) _ _ _ _ _ _ _ _ _ _ _ _⟩
      case measure => simp [intOf]; omega
    · have hfs : fs = es := by
        have h := HO.out.2.1
        rw [List.take_of_length_le (by have := HO.out.1; omega), List.take_of_length_le (by omega)] at h
        exact h
      go_wp2
      go_ret
      exact ⟨_, rfl, by rw [← hfs] at HO ⊢; exact HO.out.2.2, hb⟩
end Go.Proofs.Ytnncedndlhfdkab

/-
  Rows held against each other; rows of no entries; runs by value.
-/
namespace Go.Proofs.Ytnncedndlhfdkab
open Go.ChangeShapes Go.WideShapes Go.ChangeAt Go.RowKit Go.Deep
set_option linter.unusedVariables false

set_option maxHeartbeats 400000 in
theorem eqEntry_same (a : Ent) (w : World) :
    Calls Try.prog 56 #[a.v, a.v] w fun e w' => e = .returned (.bool true) ∧ Below w.heap.size w w' := by
  unfold Ent.v
  go_enter Try.func56, Try.ntmps56
  go_wp2
  go_ret
  exact ⟨rfl, ((Below.refl _ _).alloc (Nat.le_refl _) _).alloc (by simp) _⟩

set_option maxHeartbeats 1000000 in
theorem eqEntryS_same (b off cap b' off' cap' : Nat) (es : List Ent) (w : World) (hE : EntsAt w b off es) (hE' : EntsAt w b' off' es) (hB : b < w.heap.size) (hB' : b' < w.heap.size) (hlen : es.length ≤ maxLen) :
    Calls Try.prog 22 #[.slice (some ⟨b, off, none⟩) es.length cap, .slice (some ⟨b', off', none⟩) es.length cap'] w fun e w' =>
      e = .returned (.bool true) ∧ Below w.heap.size w w' := by
  have HE : Hid (EntsAt w b off es ∧ EntsAt w b' off' es) := ⟨hE, hE'⟩
  clear hE hE'
  unfold maxLen at hlen
  go_enter Try.func22, Try.ntmps22
  go_wp2
  go_loopw [5] (fun i wr => ∃ (k : Nat), k ≤ es.length ∧ i = .int .i64 k ∧ Below w.heap.size w wr) (fun i _ => es.length - (intOf i).toNat)
  case atStart => exact ⟨0, Nat.zero_le _, rfl, Below.refl _ _⟩
  case round =>
    obtain ⟨k, hk, rfl, hb⟩ := hrel
    have hs2 := hb.size
    by_cases hlt : k < es.length
    · obtain ⟨e, he⟩ : ∃ e, es[k]? = some e := ⟨_, List.getElem?_eq_getElem hlt⟩
      obtain ⟨c0, c1, c2, c3, c4, c5⟩ := HE.out.1.below hb hB k e he
      obtain ⟨d0, d1, d2, d3, d4, d5⟩ := HE.out.2.below hb hB' k e he
      clear he
      go_upto_region 6 with fail
      go_cut [26] (fun s wx => s = .bool false ∧ Below w.heap.size w wx)
      case first =>
        have z2 : (k : Int) < (es.length : Int) := by omega
        go_region_with (go_at_call 56; refine (eqEntry_same e _).mono ?_; rintro e' w' ⟨rfl, hbb⟩)
        all_goals go_wp2_with fail
        all_goals go_meet
        all_goals exact ⟨rfl, hb.drew.trans (hbb.mono (by simp; omega))⟩
      case rest =>
      obtain ⟨rfl, h3⟩ := hcut
      clear c0 c1 c2 c3 c4 c5 d0 d1 d2 d3 d4 d5
      go_wp2_with fail
      go_roundw
      case rel => exact ⟨k + 1, by omega, by go_num, h3⟩
      case measure => simp [intOf]; omega
    · go_wp2_with fail
      go_ret
      exact ⟨rfl, hb⟩

/-! ### Rows of no entries -/

set_option maxHeartbeats 400000 in
theorem eqEntryS_zero (a a' : Option Addr) (cap cap' : Nat) (w : World) :
    Calls Try.prog 22 #[.slice a 0 cap, .slice a' 0 cap'] w fun e w' => e = .returned (.bool true) ∧ Below w.heap.size w w' := by
  go_enter Try.func22, Try.ntmps22
  go_wp2
  go_loopw [5] (fun i wr => i = .int .i64 0 ∧ Below w.heap.size w wr) (fun i _ => 0)
  case atStart => exact ⟨rfl, Below.refl _ _⟩
  case round =>
    obtain ⟨rfl, hb⟩ := hrel
    go_wp2_with fail
    go_ret
    exact ⟨rfl, hb⟩

set_option maxHeartbeats 400000 in
theorem szEntryS_zero (a : Option Addr) (cap : Nat) (left : Int) (w : World) (h0 : 0 ≤ left) (h1 : left ≤ 2 ^ 40) :
    Calls Try.prog 18 #[.slice a 0 cap, .int .i64 left] w fun e w' => e = .returned (.int .i64 left) ∧ Below w.heap.size w w' := by
  go_enter Try.func18, Try.ntmps18
  go_wp2
  go_loopw [1, 5] (fun l i wr => l = .int .i64 left ∧ i = .int .i64 0 ∧ Below w.heap.size w wr) (fun _ i _ => 0)
  case atStart => exact ⟨rfl, rfl, Below.refl _ _⟩
  case round =>
    obtain ⟨rfl, rfl, hb⟩ := hrel
    go_wp2_with fail
    go_ret
    exact ⟨rfl, hb⟩

set_option maxHeartbeats 400000 in
set_option maxRecDepth 100000 in
theorem toEntryS_zero (a : Option Addr) (cap : Nat) (w : World) :
    Calls Try.prog 20 #[.slice a 0 cap] w fun e w' =>
      ∃ g, e = .returned (.slice (some ⟨g, 0, none⟩) 0 0) ∧ OwnE w' w.heap.size g 0 [] ∧ Below w.heap.size w w' := by
  obtain ⟨i, hi, hz0, hz1, hz2⟩ := info_parts Try.infoEnt
  have HI : Hid (Try.prog.info? 62 = some i ∧ i.zero = some (.agg #[.string ⟨#[]⟩, .string ⟨#[]⟩, .string ⟨#[]⟩, .int .u64 0, .int .i64 0, .string ⟨#[]⟩]) ∧ i.size = 6 ∧ i.bytes = 80) := ⟨hi, hz0, hz1, hz2⟩
  clear hi hz0 hz1 hz2
  go_enter Try.func20, Try.ntmps20
  go_wp2_with (at_make; refine wpList_make_full _ rfl _ _ 27 rfl w.heap.size 62 i _ 6 Try.underlying27 HI.out.1 HI.out.2.1 HI.out.2.2.1 _ _ _ _ 0 rfl rfl ?_ ?_ ?hb ?hm ?hs ?_)
  case hb => rw [HI.out.2.2.2]; omega
  case hm => unfold maxLen; omega
  case hs => exact Nat.le_refl _
  · rfl
  · rfl
  intro w1 hown hgrow
  have HW : Hid (OwnE w1 w.heap.size w.heap.size 0 []) := by
    have h0 := made_zero 0
    rw [Nat.zero_mul] at h0
    rw [h0] at hown
    exact hown
  have hb1 : Below w.heap.size w w1 := (Below.refl _ _).grown hgrow (Nat.le_refl _) (fun k hk => by cases hk)
  clear hown hgrow
  go_wp2_with fail
  go_loopw [4] (fun i wr => i = .int .i64 0 ∧ wr = w1) (fun i _ => 0)
  case atStart => exact ⟨rfl, rfl⟩
  case round =>
    obtain ⟨rfl, rfl⟩ := hrel
    go_wp2_with fail
    go_ret
    exact ⟨_, rfl, HW.out, hb1⟩

/-! ### A slice of entries, whatever its make -/

/-- What is read of a slice of entries that came in. -/
def InEnts (w : World) (v : Value) (es : List Ent) : Prop :=
  (∃ a cap, v = .slice a 0 cap ∧ es = []) ∨
  ∃ b off cap, v = .slice (some ⟨b, off, none⟩) es.length cap ∧ EntsAt w b off es ∧ b < w.heap.size ∧ es.length ≤ cap ∧ cap ≤ maxLen
theorem InEnts.below {B : Nat} {w w' : World} {v : Value} {es : List Ent} (h : InEnts w v es) (hb : Below B w w') (hB : w.heap.size ≤ B) : InEnts w' v es := by
  rcases h with h | ⟨b, off, cap, hv, hE, hlt, h1, h2⟩
  · exact .inl h
  · exact .inr ⟨b, off, cap, hv, hE.below hb (by omega), by have := hb.size; omega, h1, h2⟩
theorem InEnts.own {w : World} {base g cap : Nat} {es : List Ent} (h : OwnE w base g cap es) (h1 : es.length ≤ cap) (h2 : cap ≤ maxLen) : InEnts w (.slice (some ⟨g, 0, none⟩) es.length cap) es :=
  .inr ⟨g, 0, cap, rfl, h.at, h.lt.2, h1, h2⟩

theorem szEntryS_any (v : Value) (es : List Ent) (left : Int) (w : World) (h : InEnts w v es) (hok : ∀ e ∈ es, e.ok) (h0 : 0 ≤ left) (h1 : left ≤ 2 ^ 40) :
    Calls Try.prog 18 #[v, .int .i64 left] w fun e w' =>
      ∃ x, e = .returned (.int .i64 x) ∧ (x = -1 ∨ (0 ≤ x ∧ x + es.length ≤ left)) ∧ Below w.heap.size w w' := by
  rcases h with ⟨a, cap, rfl, rfl⟩ | ⟨b, off, cap, rfl, hE, hlt, g1, g2⟩
  · exact (szEntryS_zero a cap left w h0 h1).mono fun e w' ⟨he, hb⟩ => ⟨left, he, .inr ⟨h0, by simp⟩, hb⟩
  · exact szEntryS_core b off cap es left w hE hok hlt g1 g2 h0 h1
theorem toEntryS_any (v : Value) (es : List Ent) (w : World) (h : InEnts w v es) (h1 : es.length ≤ 1048576) :
    Calls Try.prog 20 #[v] w fun e w' =>
      ∃ g, e = .returned (.slice (some ⟨g, 0, none⟩) es.length es.length) ∧ OwnE w' w.heap.size g es.length es ∧ Below w.heap.size w w' := by
  rcases h with ⟨a, cap, rfl, rfl⟩ | ⟨b, off, cap, rfl, hE, hlt, g1, g2⟩
  · exact toEntryS_zero a cap w
  · exact toEntryS_core b off cap es w hE hlt g1 g2 h1
theorem eqEntryS_any (v v' : Value) (es : List Ent) (w : World) (h : InEnts w v es) (h' : InEnts w v' es) :
    Calls Try.prog 22 #[v, v'] w fun e w' => e = .returned (.bool true) ∧ Below w.heap.size w w' := by
  rcases h with ⟨a, cap, rfl, rfl⟩ | ⟨b, off, cap, rfl, hE, hlt, g1, g2⟩
  · rcases h' with ⟨a', cap', rfl, _⟩ | ⟨b', off', cap', rfl, hE', hlt', g1', g2'⟩
    · exact eqEntryS_zero a a' cap cap' w
    · exact eqEntryS_zero a _ cap cap' w
  · rcases h' with ⟨a', cap', rfl, rfl⟩ | ⟨b', off', cap', rfl, hE', hlt', g1', g2'⟩
    · exact eqEntryS_zero _ a' cap cap' w
    · exact eqEntryS_same b off cap b' off' cap' es w hE hE' hlt hlt' (Nat.le_trans g1 g2)
end Go.Proofs.Ytnncedndlhfdkab

/-
  Slices of entries and runs that come in, opened.
-/
namespace Go.Proofs.Ytnncedndlhfdkab
open Go.ChangeShapes Go.WideShapes Go.ChangeAt Go.RowKit Go.Deep
set_option linter.unusedVariables false

theorem list_of_forall {α : Type} {P : Nat → α → Prop} : ∀ n, (∀ i, i < n → ∃ x, P i x) → ∃ l : List α, l.length = n ∧ ∀ i x, l[i]? = some x → P i x
  | 0, _ => ⟨[], rfl, fun i x h => by simp at h⟩
  | n + 1, h => by
    obtain ⟨l, hl, hp⟩ := list_of_forall n (fun i hi => h i (by omega))
    obtain ⟨x, hx⟩ := h n (by omega)
    refine ⟨l ++ [x], by simp [hl], fun i y hy => ?_⟩
    by_cases hi : i < l.length
    · rw [List.getElem?_append_left hi] at hy; exact hp i y hy
    · rw [List.getElem?_append_right (by omega)] at hy
      have : i - l.length = 0 := by
        have := (List.getElem?_eq_some_iff.1 hy).1
        simp at this; omega
      rw [this] at hy
      simp at hy
      subst hy
      rw [show i = n by omega]; exact hx

set_option maxRecDepth 100000 in
theorem ents_of_trod {H : Type} {enc : TypeId × Value → H} {w : World} {base : Nat} {held : Bool} {fuel : Nat} {v : Value} {x : DataW H × List MemPlace}
    (h : DataW.trod enc Try.prog w base (fun _ => true) held fuel 22 [v] = some x) : ∃ es : List Ent, InEnts w v es ∧ ∀ e ∈ es, e.ok := by
  rcases open_slice Try.underlying22 h with ⟨hcs, _⟩ | ⟨a, len, cap, m, n, D, Pl, hcs, hba, hl, hm, hmm, _, hel⟩
  · simp only [List.cons.injEq, and_true] at hcs
    exact ⟨[], .inl ⟨none, 0, hcs, rfl⟩, by simp⟩
  · simp only [List.cons.injEq, and_true] at hcs
    subst hcs
    rw [if_pos rfl] at hmm
    subst hmm
    have hel6 : ∀ i, i < m → ∃ cs', w.cells? base (a.add (i * 6)) 6 = some cs' ∧ DataW.trod enc Try.prog w base (fun _ => true) held n 77 cs' = some (D i, Pl i) := fun i hi => by
      have := hel i hi
      rw [Try.cellsEnt] at this
      exact this
    clear hel
    have HM : Hid (m ≤ maxLen) := hm
    clear hm
    by_cases h0 : len = 0
    · subst h0; exact ⟨[], .inl ⟨_, _, rfl, rfl⟩, by simp⟩
    · obtain ⟨b, off, spot⟩ := a
      have hspot : spot = none := by
        obtain ⟨cs', hc, _⟩ := hel6 0 (by omega)
        obtain ⟨_, hlen, hget⟩ := World.cells?_some hc
        have h1 := hget 0 (by omega)
        have h2 : (w.cell? ((Addr.add ⟨b, off, spot⟩ (0 * 6)).add 0)).isSome = true := by rw [h1]; simp; omega
        obtain ⟨u, hu⟩ := Option.isSome_iff_exists.1 h2
        simpa [Addr.add] using World.cell?_spot hu
      subst hspot
      obtain ⟨es, hes, hp⟩ := list_of_forall (P := fun i (e : Ent) => e.ok ∧ (w.cell? ⟨b, off + i * 6, none⟩ = some (.string e.row) ∧ w.cell? ⟨b, off + i * 6 + 1, none⟩ = some (.string e.fam) ∧ w.cell? ⟨b, off + i * 6 + 2, none⟩ = some (.string e.qual) ∧
          w.cell? ⟨b, off + i * 6 + 3, none⟩ = some (.int .u64 e.ts) ∧ w.cell? ⟨b, off + i * 6 + 4, none⟩ = some (.int .i64 e.kind) ∧ w.cell? ⟨b, off + i * 6 + 5, none⟩ = some (.string e.val))) len (fun i hi => by
        obtain ⟨cs', hc, ht⟩ := hel6 i (by omega)
        obtain ⟨e, ok, rfl⟩ := ent_of_trod ht
        obtain ⟨_, hlen, hget⟩ := World.cells?_some hc
        refine ⟨e, ok, ?_, ?_, ?_, ?_, ?_, ?_⟩
        · simpa [Addr.add_mid] using hget 0 (by omega)
        · simpa [Addr.add_mid] using hget 1 (by omega)
        · simpa [Addr.add_mid] using hget 2 (by omega)
        · simpa [Addr.add_mid] using hget 3 (by omega)
        · simpa [Addr.add_mid] using hget 4 (by omega)
        · simpa [Addr.add_mid] using hget 5 (by omega))
      have hlt : b < w.heap.size := by
        obtain ⟨cs', hc, _⟩ := hel6 0 (by omega)
        simpa [Addr.add] using World.cells?_block hc (by omega)
      subst hes
      refine ⟨es, .inr ⟨b, off, m, rfl, fun i e he => (hp i e he).2, hlt, hl, HM.out⟩, fun e he => ?_⟩
      obtain ⟨i, hi⟩ := List.getElem?_of_mem he
      exact (hp i e hi).1

/-! ### Runs by value -/

theorem OwnE.mono {w : World} {base base' g cap : Nat} {es : List Ent} (h : OwnE w base g cap es) (hb : base' ≤ base) : OwnE w base' g cap es := by
  refine ⟨h.1, ?_⟩
  rcases h.2 with hn | ⟨g', cap', cur, hv, h1, rest⟩
  · exact .inl hn
  · exact .inr ⟨g', cap', cur, hv, Nat.le_trans hb h1, rest⟩

set_option maxRecDepth 100000 in
theorem open_run {H : Type} {enc : TypeId × Value → H} {w : World} {base b0 : Nat} {held : Bool} {r : Reach} {v : Value} {d : DataW H} {p : List MemPlace}
    (hv : Value.okWide Try.prog w r b0 24 v) (h : DataW.Trod enc Try.prog w base (fun _ => true) held 24 v d p) :
    ∃ (u : Value) (es : List Ent), v = .agg #[u] ∧ InEnts w u es ∧ ∀ e ∈ es, e.ok := by
  obtain ⟨cs, rfl, hsz⟩ := okWide_struct Try.underlying24 hv
  obtain ⟨fuel, hf⟩ := h
  obtain ⟨y0, n, _, hl, h0⟩ := trod_struct1 Try.underlying24 hf
  have h1 : Try.prog.cellsOf 24 = 1 := by kernel_rfl
  have h2 : Try.prog.cellsOf 22 = 1 := by kernel_rfl
  rw [h1] at hsz
  obtain ⟨l⟩ := cs
  match l, hsz with
  | [u], _ =>
    simp [h2, Value.cells] at h0
    obtain ⟨es, he, ok⟩ := ents_of_trod h0
    exact ⟨u, es, rfl, he, ok⟩

set_option maxHeartbeats 400000 in
theorem szRun_any (u : Value) (es : List Ent) (left : Int) (w : World) (h : InEnts w u es) (hok : ∀ e ∈ es, e.ok) (h0 : 0 ≤ left) (h1 : left ≤ 2 ^ 40) :
    Calls Try.prog 8 #[.agg #[u], .int .i64 left] w fun e w' =>
      ∃ x, e = .returned (.int .i64 x) ∧ (x = -1 ∨ (0 ≤ x ∧ x + es.length ≤ left)) ∧ Below w.heap.size w w' := by
  have HE : Hid (InEnts w u es ∧ ∀ e ∈ es, e.ok) := ⟨h, hok⟩
  have hu : u.cells = #[u] := by
    rcases h with ⟨a, cap, rfl, _⟩ | ⟨b, off, cap, rfl, _⟩ <;> rfl
  clear h hok
  go_enter Try.func8, Try.ntmps8
  go_wp2_with fail
  refine (szEntryS_any u es left _ (HE.out.1.below ((Below.refl _ _).alloc (Nat.le_refl _) _) (Nat.le_refl _)) HE.out.2 h0 h1).mono ?_
  rintro e w1 ⟨x, rfl, hx, hb1⟩
  have k1 : Below w.heap.size w w1 := ((Below.refl _ _).alloc (Nat.le_refl _) (Obj.cells #[u] 24)).trans (hb1.mono (by simp))
  have HX : Hid (x = -1 ∨ (0 ≤ x ∧ x + es.length ≤ left)) := hx
  by_cases hx0 : x < 0
  · clear hx
    go_wp2_with fail
    go_ret
    exact ⟨_, rfl, .inl rfl, k1⟩
  · clear hx
    go_wp2_with fail
    go_ret
    exact ⟨_, rfl, HX.out, k1⟩

set_option maxHeartbeats 400000 in
theorem toRun_any (u : Value) (es : List Ent) (w : World) (h : InEnts w u es) (h1 : es.length ≤ 1048576) :
    Calls Try.prog 10 #[.agg #[u]] w fun e w' =>
      ∃ g, e = .returned (.agg #[.slice (some ⟨g, 0, none⟩) es.length es.length]) ∧ OwnE w' w.heap.size g es.length es ∧ Below w.heap.size w w' := by
  have HE : Hid (InEnts w u es) := h
  have hu : u.cells = #[u] := by
    rcases h with ⟨a, cap, rfl, _⟩ | ⟨b, off, cap, rfl, _⟩ <;> rfl
  clear h
  go_enter Try.func10, Try.ntmps10
  go_wp2_with fail
  refine (toEntryS_any u es _ (HE.out.below ((((Below.refl _ _).alloc (Nat.le_refl _) _).alloc (by simp) _).alloc (by simp; omega) _) (Nat.le_refl _)) h1).mono ?_
  rintro e w1 ⟨g, rfl, hO, hb1⟩
  obtain ⟨hc1, hf1⟩ := bcell hb1
  have k1 : Below w.heap.size w w1 := ((((Below.refl _ _).alloc (Nat.le_refl _) (Obj.cells #[u] 24)).alloc (by simp) (Obj.cells #[.slice none 0 0] 29)).alloc (by simp; omega) (Obj.cells #[.slice none 0 0] 29)).trans (hb1.mono (by simp; omega))
  have HO : Hid (OwnE w1 (w.heap.size + 1 + 1 + 1) g es.length es) := by
    show OwnE w1 (w.heap.size + 1 + 1 + 1) g es.length es
    simpa using hO
  clear hO
  go_wp2_with fail
  refine bodyPost_ret (v := .agg #[.slice (some ⟨g, 0, none⟩) es.length es.length]) (by simp [results, Try.results10, go_sem, hc1]) rfl ⟨g, rfl, ?_, ?_⟩
  · exact OwnE.mono (ownsRow_setCell_below (ownsRow_setCell_below HO.out (by show w.heap.size + 1 + 1 < _; omega) _) (by show w.heap.size + 1 < _; omega) _) (by omega)
  · exact (k1.setCell (by show w.heap.size ≤ w.heap.size + 1 + 1; omega) _).setCell (by show w.heap.size ≤ w.heap.size + 1; omega) _

set_option maxHeartbeats 400000 in
theorem eqRun_any (u u' : Value) (es : List Ent) (w : World) (h : InEnts w u es) (h' : InEnts w u' es) :
    Calls Try.prog 12 #[.agg #[u], .agg #[u']] w fun e w' => e = .returned (.bool true) ∧ Below w.heap.size w w' := by
  have HE : Hid (InEnts w u es ∧ InEnts w u' es) := ⟨h, h'⟩
  have hu : u.cells = #[u] := by
    rcases h with ⟨a, cap, rfl, _⟩ | ⟨b, off, cap, rfl, _⟩ <;> rfl
  have hu' : u'.cells = #[u'] := by
    rcases h' with ⟨a, cap, rfl, _⟩ | ⟨b, off, cap, rfl, _⟩ <;> rfl
  clear h h'
  go_enter Try.func12, Try.ntmps12
  go_wp2_with fail
  have k0 : Below w.heap.size w ((w.alloc (Obj.cells #[u] 29)).alloc (Obj.cells #[u'] 29)) := ((Below.refl _ _).alloc (Nat.le_refl _) _).alloc (by simp) _
  refine (eqEntryS_any u u' es _ (HE.out.1.below k0 (Nat.le_refl _)) (HE.out.2.below k0 (Nat.le_refl _))).mono ?_
  rintro e w1 ⟨rfl, hb1⟩
  go_wp2_with fail
  go_ret
  exact ⟨rfl, k0.trans (hb1.mono (by simp; omega))⟩
end Go.Proofs.Ytnncedndlhfdkab

/-
  The marks that a law lays into rows and looks for.
-/
namespace Go.Proofs.Ytnncedndlhfdkab
open Go.ChangeShapes Go.WideShapes Go.ChangeAt Go.RowKit Go.Deep
set_option linter.unusedVariables false

def digF : Nat → Nat → List UInt8
  | 0, _ => []
  | f + 1, k => if k = 0 then [] else digF f (k / 10) ++ [UInt8.ofNat (48 + k % 10)]
theorem digF_zero (f : Nat) : digF f 0 = [] := by cases f <;> simp [digF]
theorem digF_more : ∀ (f k : Nat), k ≤ f → digF f k = digF k k
  | 0, k, h => by rw [show k = 0 by omega]
  | f + 1, k, h => by
    by_cases h0 : k = 0
    · subst h0; rw [digF_zero, digF_zero]
    · obtain ⟨j, rfl⟩ : ∃ j, k = j + 1 := ⟨k - 1, by omega⟩
      have h1 : (j + 1) / 10 ≤ j := by omega
      unfold digF
      rw [if_neg h0, if_neg h0, digF_more f _ (by omega), digF_more j _ h1]
def dig (k : Nat) : List UInt8 := digF k k
theorem dig_step {k : Nat} (h : 0 < k) : dig k = dig (k / 10) ++ [UInt8.ofNat (48 + k % 10)] := by
  obtain ⟨j, rfl⟩ : ∃ j, k = j + 1 := ⟨k - 1, by omega⟩
  show digF (j + 1) (j + 1) = _
  rw [digF, if_neg (by omega), digF_more j _ (by omega)]; rfl
/-- The mark's text. -/
def mText (k : Nat) : ByteArray := ⟨(109 :: dig k).toArray⟩

theorem mText_eq {k : Nat} {out : ByteArray} (h : dig k = out.data.toList) : mText k = ⟨#[109]⟩ ++ out := by
  obtain ⟨a⟩ := out
  unfold mText
  rw [ByteArray.mk_append_mk, h]
  simp

set_option maxHeartbeats 400000 in
set_option maxRecDepth 100000 in
theorem markText_nat (k : Nat) (w : World) (h0 : 0 < k) (h1 : k ≤ 2 ^ 40) :
    Calls Try.prog 57 #[.int .i64 k] w fun e w' => e = .returned (.string (mText k)) ∧ Below w.heap.size w w' := by
  go_enter Try.func57, Try.ntmps57
  go_wp2
  go_loopw [0, 3] (fun c o wr => ∃ (j : Nat) (out : ByteArray), c = .int .i64 j ∧ j + out.size ≤ k ∧ o = .string out ∧ dig k = dig j ++ out.data.toList ∧ Below w.heap.size w wr) (fun c _ _ => (intOf c).toNat)
  case atStart => exact ⟨k, ⟨#[]⟩, rfl, Nat.le_refl _, rfl, by simp, Below.refl _ _⟩
  case round =>
    obtain ⟨j, out, rfl, hj, rfl, hd, hb⟩ := hrel
    have HD : Hid (dig k = dig j ++ out.data.toList) := hd
    clear hd
    by_cases hp : 0 < j
    · obtain ⟨d, hd⟩ : ∃ d : UInt8, d = UInt8.ofNat (48 + j % 10) := ⟨_, rfl⟩
      have hdn : (d.toNat : Int) = 48 + (j : Int) % 10 := by
        rw [hd, UInt8.toNat_ofNat']
        omega
      have hcv : ((convert 117 9 (.slice (some ⟨wr.heap.size, 0, none⟩) 1 1)).run Try.prog (wr.alloc (Obj.cells #[.int .u8 (48 + (j : Int) % 10)] 5))) = .ok (.string ⟨#[d]⟩) (wr.alloc (Obj.cells #[.int .u8 (48 + (j : Int) % 10)] 5)) := by
        refine run_convert_bytes_back (P := Try.prog) (wr.alloc (Obj.cells #[.int .u8 (48 + (j : Int) % 10)] 5)) 117 9 5 ⟨wr.heap.size, 0, none⟩ 1 [d] Try.underlying117 Try.underlying5 Try.underlying9 ?_
        intro i hi
        obtain rfl : i = 0 := by simpa using hi
        simp [Addr.add, hdn]
      have HN : Hid (d = UInt8.ofNat (48 + j % 10)) := hd
      clear hd hdn
      go_wp2_with fail
      refine ⟨⟨j / 10, ⟨#[d]⟩ ++ out, by go_num, ?_, rfl, ?_, hb.alloc hb.size _⟩, ?_⟩
      · go_light
        rw [ByteArray.size_append]
        show j / 10 + (1 + out.size) ≤ k
        omega
      · go_light
        rw [HD.out, dig_step hp, HN.out]
        simp
      · go_light
        simp [intOf]; omega
    · go_wp2_with fail
      go_ret
      refine ⟨?_, hb⟩
      have e : mText k = ⟨#[109]⟩ ++ out := mText_eq (by rw [HD.out, show j = 0 by omega]; rfl)
      rw [e]; rfl

theorem markText_any (a : Int) (w : World) (h0 : 0 < a) (h1 : a ≤ 2 ^ 40) :
    Calls Try.prog 57 #[.int .i64 a] w fun e w' => e = .returned (.string (mText a.toNat)) ∧ Below w.heap.size w w' := by
  obtain ⟨k, rfl⟩ := Int.eq_ofNat_of_zero_le (by omega : 0 ≤ a)
  rw [Int.toNat_natCast]
  exact markText_nat k w (by omega) (by omega)

/-- The entry that the marks from 'k' on make. -/
def mEnt (k : Int) : Ent := ⟨mText k.toNat, mText (k + 1).toNat, mText (k + 1 + 1).toNat, k + 1 + 1 + 1, k + 1 + 1 + 1 + 1, mText (k + 1 + 1 + 1 + 1 + 1).toNat⟩
/-- The first 'i' of the entries are marked, from 'k' on. -/
def marked (k : Int) (es : List Ent) (i : Nat) : Prop := ∀ j : Nat, j < i → es[j]? = some (mEnt (k + j * 6))

theorem grown_of_below {w w' : World} (h : Below w.heap.size w w') (r : Option Nat) : w.grownBy w' r := ⟨h.os, h.tape, h.output, h.size, fun k hk _ => h.block k hk⟩
theorem grown_set (w : World) (g o : Nat) (u : Value) : w.grownBy (w.setCell ⟨g, o, none⟩ u) (some g) := by
  have h : Below g w (w.setCell ⟨g, o, none⟩ u) := (Below.refl g w).setCell (Nat.le_refl _) u
  exact ⟨h.os, h.tape, h.output, h.size, fun k hk hne => Below.heap_setCell w ⟨g, o, none⟩ u k (fun e => hne (by rw [e]))⟩
theorem OwnE.upd {w : World} {base g cap m j : Nat} {fs : List Ent} {f f' : Ent} {u : Value} (h : OwnE w base g cap (fs.set m f)) (hm : m < fs.length) (hj : j < 6) (hc : f'.cells = f.cells.set j u) :
    OwnE (w.setCell ⟨g, m * 6 + j, none⟩ u) base g cap (fs.set m f') := by
  have := h.set m j f f' u (by simp [hm]) hj hc
  rwa [List.set_set] at this
theorem marked_set {k : Int} {fs : List Ent} {m : Nat} (h : marked k fs m) (hm : m < fs.length) : marked k (fs.set m (mEnt (k + m * 6))) (m + 1) := by
  intro j hj
  by_cases e : j = m
  · subst e; simp [hm]
  · rw [List.getElem?_set_ne (by omega)]; exact h j (by omega)

set_option maxHeartbeats 1000000 in
theorem markEntryS_core (base g cap : Nat) (es : List Ent) (k : Int) (w : World) (hO : OwnE w base g cap es) (h0 : 0 < k) (h1 : k ≤ 2 ^ 30) (hn : es.length ≤ 1048576) :
    Calls Try.prog 23 #[.slice (some ⟨g, 0, none⟩) es.length cap, .int .i64 k] w fun e w' =>
      ∃ fs, e = .returned (.int .i64 (k + es.length * 6)) ∧ OwnE w' base g cap fs ∧ fs.length = es.length ∧ marked k fs es.length ∧ w.grownBy w' (some g) := by
  have HO : Hid (OwnE w base g cap es) := hO
  clear hO
  go_enter Try.func23, Try.ntmps23
  go_wp2
  go_loopw [1, 5] (fun c i wr => ∃ (m : Nat) (a : Int) (fs : List Ent), m ≤ es.length ∧ i = .int .i64 m ∧ c = .int .i64 a ∧ a = k + m * 6 ∧ OwnE wr base g cap fs ∧ fs.length = es.length ∧ marked k fs m ∧ w.grownBy wr (some g)) (fun _ i _ => es.length - (intOf i).toNat)
  case atStart => exact ⟨0, k, es, Nat.zero_le _, rfl, rfl, by simp, HO.out, rfl, fun j hj => by omega, grown_of_below (Below.refl _ _) _⟩
  case round =>
    obtain ⟨m, a, fs, hm, rfl, rfl, ha, hO, hfl, hmk, hgr⟩ := hrel
    have HR : Hid (a = k + m * 6 ∧ OwnE wr base g cap fs ∧ fs.length = es.length ∧ marked k fs m) := ⟨ha, hO, hfl, hmk⟩
    have ha0 : 0 < a := by omega
    have ha1 : a ≤ 2 ^ 31 := by omega
    have HG : Hid (w.grownBy wr (some g)) := hgr
    clear hO hfl hmk ha hgr
    by_cases hlt : m < es.length
    · obtain ⟨f, hf⟩ : ∃ f, fs[m]? = some f := ⟨_, List.getElem?_eq_getElem (by rw [HR.out.2.2.1]; exact hlt)⟩
      have HF : Hid (fs[m]? = some f ∧ m < fs.length) := ⟨hf, by rw [HR.out.2.2.1]; exact hlt⟩
      clear hf
      go_wp2_with fail
      refine (markText_any a _ (by omega) (by omega)).mono ?_
      rintro e w1 ⟨rfl, hb1⟩
      have hO1 := HR.out.2.1.below hb1 HR.out.2.1.lt.2
      have c1 := (hO1.at m f HF.out.1).1
      simp only [Nat.zero_add] at c1
      have z1 := fun j => World.ownsRow.frozenAt hO1 j
      have hO1' := hO1.set m 0 f { f with row := mText a.toNat } (.string (mText a.toNat)) HF.out.1 (by omega) rfl
      have H1 : Hid (OwnE (w1.setCell ⟨g, m * 6, none⟩ (.string (mText a.toNat))) base g cap (fs.set m { f with row := mText a.toNat }) ∧ w.grownBy (w1.setCell ⟨g, m * 6, none⟩ (.string (mText a.toNat))) (some g)) := ⟨hO1', (HG.out.trans (grown_of_below hb1 _)).trans (grown_set _ _ _ _)⟩
      clear hO1 hO1' hb1
      go_wp2_with fail
      refine (markText_any (a + 1) _ (by omega) (by omega)).mono ?_
      rintro e w2 ⟨rfl, hb2⟩
      have hO2 := H1.out.1.below hb2 H1.out.1.lt.2
      have c2 := (hO2.at m _ (by simp [HF.out.2]; rfl)).2.1
      simp only [Nat.zero_add] at c2
      have z2 := fun j => World.ownsRow.frozenAt hO2 j
      have H2 : Hid (OwnE (w2.setCell ⟨g, m * 6 + 1, none⟩ (.string (mText (a + 1).toNat))) base g cap (fs.set m { f with row := mText a.toNat, fam := mText (a + 1).toNat }) ∧ w.grownBy (w2.setCell ⟨g, m * 6 + 1, none⟩ (.string (mText (a + 1).toNat))) (some g)) :=
        ⟨hO2.upd HF.out.2 (by omega) rfl, (H1.out.2.trans (grown_of_below hb2 _)).trans (grown_set _ _ _ _)⟩
      clear hO2 hb2 c1 z1
      go_wp2_with fail
      refine (markText_any (a + 1 + 1) _ (by omega) (by omega)).mono ?_
      rintro e w3 ⟨rfl, hb3⟩
      have hO3 := H2.out.1.below hb3 H2.out.1.lt.2
      obtain ⟨_, _, c3, c4, c5, _⟩ := hO3.at m _ (by simp [HF.out.2]; rfl)
      simp only [Nat.zero_add] at c3 c4 c5
      have z3 := fun j => World.ownsRow.frozenAt hO3 j
      have H3 : Hid (OwnE w3 base g cap (fs.set m { f with row := mText a.toNat, fam := mText (a + 1).toNat }) ∧ w.grownBy w3 (some g)) := ⟨hO3, H2.out.2.trans (grown_of_below hb3 _)⟩
      clear hO3 hb3 c2 z2
      go_wp2_with fail
      refine (markText_any (a + 1 + 1 + 1 + 1 + 1) _ (by omega) (by omega)).mono ?_
      rintro e w4 ⟨rfl, hb4⟩
      have hO3 := ((H3.out.1.upd (j := 2) (u := .string (mText (a + 1 + 1).toNat)) (f' := { f with row := mText a.toNat, fam := mText (a + 1).toNat, qual := mText (a + 1 + 1).toNat }) HF.out.2 (by omega) rfl).upd (j := 3) (u := .int .u64 (a + 1 + 1 + 1))
        (f' := { f with row := mText a.toNat, fam := mText (a + 1).toNat, qual := mText (a + 1 + 1).toNat, ts := a + 1 + 1 + 1 }) HF.out.2 (by omega) rfl).upd (j := 4) (u := .int .i64 (a + 1 + 1 + 1 + 1))
        (f' := { f with row := mText a.toNat, fam := mText (a + 1).toNat, qual := mText (a + 1 + 1).toNat, ts := a + 1 + 1 + 1, kind := a + 1 + 1 + 1 + 1 }) HF.out.2 (by omega) rfl
      have hO4 := hO3.below hb4 hO3.lt.2
      have c6 := (hO4.at m _ (by simp [HF.out.2]; rfl)).2.2.2.2.2
      simp only [Nat.zero_add] at c6
      have z4 := fun j => World.ownsRow.frozenAt hO4 j
      have H4 : Hid (OwnE (w4.setCell ⟨g, m * 6 + 5, none⟩ (.string (mText (a + 1 + 1 + 1 + 1 + 1).toNat))) base g cap (fs.set m (mEnt a)) ∧ w.grownBy (w4.setCell ⟨g, m * 6 + 5, none⟩ (.string (mText (a + 1 + 1 + 1 + 1 + 1).toNat))) (some g)) :=
        ⟨hO4.upd HF.out.2 (by omega) rfl, (((((H3.out.2.trans (grown_set _ _ _ _)).trans (grown_set _ _ _ _)).trans (grown_set _ _ _ _)).trans (grown_of_below hb4 _)).trans (grown_set _ _ _ _))⟩
      have HE : Hid (a = k + m * 6) := HR.out.1
      clear hO3 hO4 hb4 c3 c4 c5 z3
      go_wp2_with fail
      refine ⟨⟨m + 1, a + 1 + 1 + 1 + 1 + 1 + 1, fs.set m (mEnt a), by omega, by go_num, rfl, ?_, H4.out.1, by rw [List.length_set]; exact HR.out.2.2.1, ?_, H4.out.2⟩, ?_⟩
      · go_light
        have := HE.out
        omega
      · go_light
        have := marked_set HR.out.2.2.2 HF.out.2
        rw [← HE.out] at this
        exact this
      · go_light
        simp [intOf]; omega
    · go_wp2_with fail
      go_ret
      have e1 : m = es.length := by omega
      refine ⟨fs, ?_, HR.out.2.1, HR.out.2.2.1, ?_, HG.out⟩
      · rw [HR.out.1, e1]; rfl
      · rw [← e1]; exact HR.out.2.2.2
end Go.Proofs.Ytnncedndlhfdkab

/-
  What has turned between two worlds.
-/
namespace Go.Proofs.Ytnncedndlhfdkab
open Go.ChangeShapes Go.WideShapes Go.ChangeAt Go.RowKit Go.Deep
set_option linter.unusedVariables false
set_option linter.unusedSimpArgs false

/-- From 'w' to 'w'': only what lies in blocks of 'S' has turned, and new blocks came. -/
structure Chg (S : Nat → Prop) (w w' : World) : Prop where
  os : w'.os = w.os
  tape : w'.tape = w.tape
  output : w'.output = w.output
  size : w.heap.size ≤ w'.heap.size
  block : ∀ k, k < w.heap.size → ¬ S k → w'.heap[k]? = w.heap[k]?
theorem Chg.refl (S : Nat → Prop) (w : World) : Chg S w w := ⟨rfl, rfl, rfl, Nat.le_refl _, fun _ _ _ => rfl⟩
theorem Chg.trans {S : Nat → Prop} {a b c : World} (h : Chg S a b) (k : Chg S b c) : Chg S a c :=
  ⟨k.os.trans h.os, k.tape.trans h.tape, k.output.trans h.output, Nat.le_trans h.size k.size, fun i hi hn => (k.block i (Nat.lt_of_lt_of_le hi h.size) hn).trans (h.block i hi hn)⟩
theorem Chg.mono {S T : Nat → Prop} {w w' : World} (h : Chg S w w') (hs : ∀ k, S k → T k) : Chg T w w' := ⟨h.os, h.tape, h.output, h.size, fun k hk hn => h.block k hk (fun q => hn (hs k q))⟩
theorem Chg.of_below {S : Nat → Prop} {w w' : World} (h : Below w.heap.size w w') : Chg S w w' := ⟨h.os, h.tape, h.output, h.size, fun k hk _ => h.block k hk⟩
theorem Chg.of_grown {S : Nat → Prop} {w w' : World} {row : Option Nat} (h : w.grownBy w' row) (hs : ∀ k, row = some k → S k) : Chg S w w' :=
  ⟨h.os, h.tape, h.output, h.size, fun k hk hn => h.block k hk (fun q => hn (hs k q.symm))⟩
theorem Chg.of_set {S : Nat → Prop} (w : World) (g o : Nat) (u : Value) (hs : S g) : Chg S w (w.setCell ⟨g, o, none⟩ u) := Chg.of_grown (grown_set w g o u) (fun k hk => by cases hk; exact hs)
theorem Chg.below {S : Nat → Prop} {B : Nat} {a w w' : World} (h : Below B a w) (k : Chg S w w') (hB : B ≤ w.heap.size) (hs : ∀ k, S k → B ≤ k) : Below B a w' :=
  h.trans ⟨k.os, k.tape, k.output, k.size, fun i hi => k.block i (by omega) (fun q => by have := hs i q; omega)⟩
theorem Chg.cell {S : Nat → Prop} {w w' : World} (h : Chg S w w') {p : Addr} (hp : p.block < w.heap.size) (hn : ¬ S p.block) : w'.cell? p = w.cell? p := World.cell?_of_block (w := w) (h.block p.block hp hn)
theorem Chg.frozen {S : Nat → Prop} {w w' : World} (h : Chg S w w') {p : Addr} (hp : p.block < w.heap.size) (hn : ¬ S p.block) : w'.frozen? p = w.frozen? p := World.frozen?_of_block (w := w) (h.block p.block hp hn)
theorem EntsAt.chg {S : Nat → Prop} {w w' : World} {b off : Nat} {es : List Ent} (h : EntsAt w b off es) (hb : Chg S w w') (hlt : b < w.heap.size) (hn : ¬ S b) : EntsAt w' b off es := by
  intro i e he
  have := h i e he
  refine ⟨?_, ?_, ?_, ?_, ?_, ?_⟩
  all_goals rw [hb.cell (by exact hlt) (by exact hn)]
  · exact this.1
  · exact this.2.1
  · exact this.2.2.1
  · exact this.2.2.2.1
  · exact this.2.2.2.2.1
  · exact this.2.2.2.2.2
theorem own_apart {w : World} {base e size : Nat} {v : Value} {n : Nat} {xs : List Value} {base' e' size' : Nat} {v' : Value} {n' : Nat} {xs' : List Value} (h : w.ownsRow base e size v n xs) (h' : w.ownsRow base' e' size' v' n' xs') (hne : e ≠ e') : ∀ k, v.ownBlock = some k → v'.ownBlock ≠ some k := by
  intro k hk hk'
  rcases h.2 with ⟨rfl, _⟩ | ⟨g1, cap1, cur, rfl, _, hc, _⟩
  · simp [Value.ownBlock] at hk
  · rcases h'.2 with ⟨rfl, _⟩ | ⟨g2, cap2, cur2, rfl, _, hc2, _⟩
    · simp [Value.ownBlock] at hk'
    · simp [Value.ownBlock] at hk hk'
      subst hk hk'
      rw [hc] at hc2
      simp at hc2
      exact hne hc2.2
theorem own_chg {S : Nat → Prop} {w w' : World} {base e size : Nat} {v : Value} {n : Nat} {xs : List Value} (h : w.ownsRow base e size v n xs) (hb : Chg S w w') (hn : ∀ k, v.ownBlock = some k → ¬ S k) : w'.ownsRow base e size v n xs := by
  refine ⟨h.1, ?_⟩
  rcases h.2 with hz | ⟨g, cap, cur, rfl, h1, hg, rest⟩
  · exact .inl hz
  · refine .inr ⟨g, cap, cur, rfl, h1, ?_, rest⟩
    have hlt : g < w.heap.size := by
      rcases Nat.lt_or_ge g w.heap.size with q | q
      · exact q
      · rw [Array.getElem?_eq_none q] at hg; cases hg
    rw [hb.block g hlt (hn g rfl)]; exact hg

end Go.Proofs.Ytnncedndlhfdkab

/-
  Variables of a struct's type that lie in memory, as rows of one element.
-/
namespace Go.Proofs.Ytnncedndlhfdkab
open Go.ChangeShapes Go.WideShapes Go.ChangeAt Go.RowKit Go.Deep
set_option linter.unusedVariables false

def BoxAt (w : World) (base t sz g : Nat) (vs : List Value) : Prop := w.ownsRow base t sz (.slice (some ⟨g, 0, none⟩) 1 1) 1 vs
theorem BoxAt.len {w : World} {base t sz g : Nat} {vs : List Value} (h : BoxAt w base t sz g vs) : vs.length = sz := by have := h.1; omega
theorem BoxAt.lt {w : World} {base t sz g : Nat} {vs : List Value} (h : BoxAt w base t sz g vs) : base ≤ g ∧ g < w.heap.size := World.ownsRow.lt h g rfl
theorem BoxAt.chg {S : Nat → Prop} {w w' : World} {base t sz g : Nat} {vs : List Value} (h : BoxAt w base t sz g vs) (hc : Chg S w w') (hn : ¬ S g) : BoxAt w' base t sz g vs := own_chg h hc (fun k q => by simp [Value.ownBlock] at q; subst q; exact hn)
theorem BoxAt.below {w w' : World} {base t sz g : Nat} {vs : List Value} (h : BoxAt w base t sz g vs) (hb : Below w.heap.size w w') : BoxAt w' base t sz g vs := h.chg (Chg.of_below hb) (S := fun _ => False) (fun q => q)
theorem BoxAt.cell {w : World} {base t sz g : Nat} {vs : List Value} (h : BoxAt w base t sz g vs) {j : Nat} {v : Value} (hv : vs[j]? = some v) : w.cell? ⟨g, j, none⟩ = some v := by
  have hj := (List.getElem?_eq_some_iff.1 hv).1
  rw [World.ownsRow.cellAt h j (by have := h.len; omega), hv]
theorem BoxAt.frozen {w : World} {base t sz g : Nat} {vs : List Value} (h : BoxAt w base t sz g vs) (j : Nat) : w.frozen? ⟨g, j, none⟩ = false := World.ownsRow.frozenAt h j
theorem BoxAt.set {w : World} {base t sz g : Nat} {vs : List Value} (h : BoxAt w base t sz g vs) (j : Nat) (u : Value) : BoxAt (w.setCell ⟨g, j, none⟩ u) base t sz g (vs.set j u) := (World.ownsRow.stored h j u).1
theorem BoxAt.beside {w : World} {base t sz g : Nat} {vs : List Value} (h : BoxAt w base t sz g vs) {k : Nat} (hk : ¬ g = k) (j : Nat) (u : Value) : BoxAt (w.setCell ⟨k, j, none⟩ u) base t sz g vs := h.chg (Chg.of_set w k j u (S := fun q => q = k) rfl) hk
theorem boxAt_new (w : World) {base t sz : Nat} (cs : Array Value) (hb : base ≤ w.heap.size) (hs : cs.size = sz) : BoxAt (w.alloc (.cells cs t)) base t sz w.heap.size cs.toList :=
  World.ownsRow_lit w cs 1 hb (by decide) (by omega)
/-- Three cells stored. -/
def set3 (w : World) (g : Nat) (a b c : Value) : World := ((w.setCell ⟨g, 0, none⟩ a).setCell ⟨g, 1, none⟩ b).setCell ⟨g, 2, none⟩ c
theorem BoxAt.set3 {w : World} {base t g : Nat} {vs : List Value} (h : BoxAt w base t 3 g vs) (a b c : Value) : BoxAt (set3 w g a b c) base t 3 g [a, b, c] := by
  have h1 := ((h.set 0 a).set 1 b).set 2 c
  have hl := h.len
  match vs, hl with
  | [x, y, z], _ => exact h1
theorem BoxAt.beside3 {w : World} {base t sz g : Nat} {vs : List Value} (h : BoxAt w base t sz g vs) {k : Nat} (hk : ¬ g = k) (a b c : Value) : BoxAt (Go.Proofs.Ytnncedndlhfdkab.set3 w k a b c) base t sz g vs :=
  ((h.beside hk 0 a).beside hk 1 b).beside hk 2 c
theorem below_set {B : Nat} {a w : World} (h : Below B a w) {k : Nat} (hk : B ≤ k) (j : Nat) (u : Value) : Below B a (w.setCell ⟨k, j, none⟩ u) := h.setCell (p := ⟨k, j, none⟩) hk u
theorem below_set3 {B : Nat} {a w : World} (h : Below B a w) {k : Nat} (hk : B ≤ k) (x y z : Value) : Below B a (set3 w k x y z) := below_set (below_set (below_set h hk 0 x) hk 1 y) hk 2 z
theorem size_set (w : World) (k j : Nat) (u : Value) : (w.setCell ⟨k, j, none⟩ u).heap.size = w.heap.size := by
  simp [World.setCell]
end Go.Proofs.Ytnncedndlhfdkab

