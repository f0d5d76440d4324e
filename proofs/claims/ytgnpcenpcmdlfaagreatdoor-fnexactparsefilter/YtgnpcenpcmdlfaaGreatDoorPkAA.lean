import Derived.Test.YtgnpcenpcmdlfaaGreatDoorRows
import Derived.WalkKit
import Derived.ProofKit
import Derived.OpenShut
import Derived.ShutString
import Derived.ChangeOld
import Derived.Below
import Derived.WalkSpells
import Derived.WalkLawsBesides
import Derived.Outline
import Derived.Deep.Light
import Derived.Lib.SmallJoins
import Derived.OwnWalk
import Derived.Deep.MidRow
import Derived.Deep.DeepCutAuto
import Derived.Deep.RegionWith
import Derived.Deep.QuietTactic
import Derived.BigQuiet
import Derived.Lib.Bytealg
import Derived.Lib.Slices
import Derived.Lib.Walk

/-
  Patterns as nodes, the grammar, and the check that goes over the bytes from the left.
-/
namespace Go.Proofs.YtgnpcenpcmdlfaaGreatDoor
set_option linter.unusedVariables false
set_option linter.unusedSimpArgs false

/-- A pattern as nodes. -/
inductive Pat where
  | byte (b : UInt8)
  | cls (f : UInt8 → Bool)
  | rep (t : Pat) (opt rpt : Bool)
  | alt (os : List (List Pat))

abbrev isOp (c : UInt8) : Prop := c = 42 ∨ c = 43 ∨ c = 63
abbrev isEnd (c : UInt8) : Prop := isOp c ∨ c = 124 ∨ c = 41 ∨ c = 93

/-- One ch of a class at i: the byte, where it ends, whether it is there. -/
def chM (p : List UInt8) (i : Nat) : UInt8 × Nat × Bool :=
  match p[i]? with
  | none => (0, i, false)
  | some c => if c = 93 ∨ c = 45 then (0, i, false) else if c = 92 then (match p[i + 1]? with | none => (0, i + 1, false) | some d => (d, i + 2, true)) else (c, i + 1, true)
theorem chM_gt {p : List UInt8} {i k : Nat} {c : UInt8} (h : chM p i = (c, k, true)) : i < k ∧ k ≤ p.length := by
  unfold chM at h
  split at h
  · cases h
  · next c' hc =>
    have h0 := (List.getElem?_eq_some_iff.1 hc).1
    split at h
    · cases h
    · split at h
      · split at h
        · cases h
        · next d hd =>
          have h1 := (List.getElem?_eq_some_iff.1 hd).1
          simp only [Prod.mk.injEq] at h
          omega
      · simp only [Prod.mk.injEq] at h
        omega
/-- An item of a class at j: its ends and where the next one begins, or the fault. -/
def itemM (p : List UInt8) (j : Nat) : (UInt8 × UInt8 × Nat) ⊕ (Int × Nat) :=
  match chM p j with
  | (_, k, false) => .inr (2, k)
  | (lo, k, true) =>
    if p[k]? = some 45 then
      match chM p (k + 1) with
      | (_, m, false) => .inr (2, m)
      | (hi, m, true) => if hi < lo then .inr (4, j) else .inl (lo, hi, m)
    else .inl (lo, lo, k)
theorem itemM_gt {p : List UInt8} {j k : Nat} {a b : UInt8} (h : itemM p j = .inl (a, b, k)) : j < k ∧ k ≤ p.length ∧ a ≤ b := by
  unfold itemM at h
  split at h
  · cases h
  · next lo k' hk =>
    have h1 := chM_gt hk
    split at h
    · split at h
      · cases h
      · next hi m hm =>
        have h2 := chM_gt hm
        split at h
        · cases h
        · next hle =>
          simp only [Sum.inl.injEq, Prod.mk.injEq] at h
          obtain ⟨rfl, rfl, rfl⟩ := h
          exact ⟨by omega, by omega, UInt8.not_lt.1 hle⟩
    · simp only [Sum.inl.injEq, Prod.mk.injEq] at h
      obtain ⟨rfl, rfl, rfl⟩ := h
      exact ⟨by omega, by omega, UInt8.le_refl _⟩
/-- The rest of a class, behind at least one item or at its first: the items' set and where the class ends, or the fault. -/
def clsM (p : List UInt8) (j : Nat) (items : Bool) (f : UInt8 → Bool) : ((UInt8 → Bool) × Nat) ⊕ (Int × Nat) :=
  if h : j < p.length then
    if p[j]? = some 93 ∧ items = true then .inl (f, j + 1)
    else match hi : itemM p j with
      | .inr e => .inr e
      | .inl (a, b, k) => clsM p k true (fun c => f c || (decide (a ≤ c) && decide (c ≤ b)))
  else .inr (2, p.length)
termination_by p.length - j
decreasing_by have := itemM_gt hi; omega
/-- A class behind its '['. -/
def classM (p : List UInt8) (i : Nat) : ((UInt8 → Bool) × Nat) ⊕ (Int × Nat) :=
  if p[i]? = some 94 then (match clsM p (i + 1) false (fun _ => false) with | .inl (f, k) => .inl (fun c => !f c, k) | .inr e => .inr e)
  else clsM p i false (fun _ => false)
theorem clsM_gt : ∀ (n : Nat) {p : List UInt8} {j : Nat} {b : Bool} {f g : UInt8 → Bool} {k : Nat}, p.length - j ≤ n → clsM p j b f = .inl (g, k) → j < k ∧ k ≤ p.length
  | n, p, j, b, f, g, k, hn, h => by
    unfold clsM at h
    split at h
    · next hj =>
      split at h
      · simp only [Sum.inl.injEq, Prod.mk.injEq] at h
        omega
      · split at h
        · cases h
        · next a b' k' hk =>
          have h1 := itemM_gt hk
          match n, hn with
          | 0, hn => omega
          | n + 1, hn =>
            have h2 := clsM_gt n (by omega) h
            omega
    · cases h
theorem classM_gt {p : List UInt8} {i : Nat} {g : UInt8 → Bool} {k : Nat} (h : classM p i = .inl (g, k)) : i < k ∧ k ≤ p.length := by
  unfold classM at h
  split at h
  · split at h
    · next hc =>
      have := clsM_gt _ (Nat.le_refl _) hc
      simp only [Sum.inl.injEq, Prod.mk.injEq] at h
      omega
    · cases h
  · exact clsM_gt _ (Nat.le_refl _) h
theorem itemM_err {p : List UInt8} {j : Nat} {c : Int} {k : Nat} (h : itemM p j = .inr (c, k)) : ¬ c = 0 := by
  unfold itemM at h
  split at h
  · simp only [Sum.inr.injEq, Prod.mk.injEq] at h; omega
  · split at h
    · split at h
      · simp only [Sum.inr.injEq, Prod.mk.injEq] at h; omega
      · split at h
        · simp only [Sum.inr.injEq, Prod.mk.injEq] at h; omega
        · cases h
    · cases h
theorem clsM_err : ∀ (n : Nat) {p : List UInt8} {j : Nat} {b : Bool} {f : UInt8 → Bool} {c : Int} {k : Nat}, p.length - j ≤ n → clsM p j b f = .inr (c, k) → ¬ c = 0
  | n, p, j, b, f, c, k, hn, h => by
    unfold clsM at h
    split at h
    · split at h
      · cases h
      · split at h
        · next e he =>
          simp only [Sum.inr.injEq] at h
          subst h
          exact itemM_err he
        · next a b' k' hk =>
          have h1 := itemM_gt hk
          match n, hn with
          | 0, hn => omega
          | n + 1, hn => exact clsM_err n (by omega) h
    · simp only [Sum.inr.injEq, Prod.mk.injEq] at h; omega
theorem classM_err {p : List UInt8} {i : Nat} {c : Int} {k : Nat} (h : classM p i = .inr (c, k)) : ¬ c = 0 := by
  unfold classM at h
  split at h
  · split at h
    · cases h
    · next e he =>
      simp only [Sum.inr.injEq] at h
      subst h
      exact clsM_err _ (Nat.le_refl _) he
  · exact clsM_err _ (Nat.le_refl _) h
/-- The check, from place i on: so many are open, an atom stands before or none. -/
def chkM (p : List UInt8) (i o : Nat) (a : Bool) : Int × Nat :=
  if h : i < p.length then
    if p[i] = 40 then (if o = 20 then (3, i) else chkM p (i + 1) (o + 1) false)
    else if p[i] = 41 then (if o = 0 then (2, i) else chkM p (i + 1) (o - 1) true)
    else if p[i] = 124 then chkM p (i + 1) o false
    else if p[i] = 42 ∨ p[i] = 43 ∨ p[i] = 63 then (if a = true then chkM p (i + 1) o true else (2, i))
    else if p[i] = 91 then (match hc : classM p (i + 1) with | .inr e => e | .inl (f, k) => chkM p k o true)
    else if p[i] = 93 then (2, i)
    else if p[i] = 92 then (if i + 1 = p.length then (2, p.length) else chkM p (i + 2) o true)
    else chkM p (i + 1) o true
  else if 0 < o then (2, p.length) else (0, 0)
termination_by p.length - i
decreasing_by
  all_goals first
    | (have := classM_gt hc; omega)
    | omega

variable {p : List UInt8} {i o : Nat} {a : Bool} {c : UInt8}
theorem lt_of_at (h : p[i]? = some c) : i < p.length := (List.getElem?_eq_some_iff.1 h).1
theorem get_of_at (h : p[i]? = some c) : p[i]'(lt_of_at h) = c := (List.getElem?_eq_some_iff.1 h).2
theorem chk_end (h : ¬ i < p.length) : chkM p i o a = if 0 < o then (2, p.length) else (0, 0) := by rw [chkM, dif_neg h]
theorem chk_open (h : p[i]? = some 40) : chkM p i o a = if o = 20 then (3, i) else chkM p (i + 1) (o + 1) false := by
  rw [chkM, dif_pos (lt_of_at h), if_pos (get_of_at h)]
theorem chk_close (h : p[i]? = some 41) : chkM p i o a = if o = 0 then (2, i) else chkM p (i + 1) (o - 1) true := by
  rw [chkM, dif_pos (lt_of_at h), get_of_at h]; simp
theorem chk_bar (h : p[i]? = some 124) : chkM p i o a = chkM p (i + 1) o false := by
  rw [chkM, dif_pos (lt_of_at h), get_of_at h]; simp
theorem chk_op (h : p[i]? = some c) (hc : isOp c) : chkM p i o a = if a = true then chkM p (i + 1) o true else (2, i) := by
  rw [chkM, dif_pos (lt_of_at h), get_of_at h]
  rcases hc with rfl | rfl | rfl <;> simp
theorem chk_rb (h : p[i]? = some 93) : chkM p i o a = (2, i) := by
  rw [chkM, dif_pos (lt_of_at h), get_of_at h]; simp
theorem chk_class (h : p[i]? = some 91) : chkM p i o a = match classM p (i + 1) with | .inr e => e | .inl (f, k) => chkM p k o true := by
  rw [chkM, dif_pos (lt_of_at h), get_of_at h]
  simp only [show ¬ (91 : UInt8) = 40 by decide, show ¬ (91 : UInt8) = 41 by decide, show ¬ (91 : UInt8) = 124 by decide, show ¬ ((91 : UInt8) = 42 ∨ (91 : UInt8) = 43 ∨ (91 : UInt8) = 63) by decide, if_false, if_true]
  split <;> (next hc => rw [hc])
theorem chk_esc (h : p[i]? = some 92) : chkM p i o a = if i + 1 = p.length then (2, p.length) else chkM p (i + 2) o true := by
  rw [chkM, dif_pos (lt_of_at h), get_of_at h]; simp
theorem chk_plain (h : p[i]? = some c) (h1 : ¬ isEnd c) (h2 : ¬ c = 40) (h3 : ¬ c = 91) (h4 : ¬ c = 92) : chkM p i o a = chkM p (i + 1) o true := by
  rw [chkM, dif_pos (lt_of_at h), get_of_at h]
  unfold isEnd isOp at h1
  simp only [not_or] at h1
  obtain ⟨⟨g1, g2, g3⟩, g4, g5, g6⟩ := h1
  simp [h2, h3, h4, g1, g2, g3, g4, g5, g6]
/-- Where no sign of repetition stands, it is one whether an atom stands before. -/
theorem chk_flag (h : ∀ c, p[i]? = some c → ¬ isOp c) (a b : Bool) : chkM p i o a = chkM p i o b := by
  by_cases hi : i < p.length
  · obtain ⟨c, hc⟩ : ∃ c, p[i]? = some c := ⟨_, List.getElem?_eq_getElem hi⟩
    have hn := h c hc
    by_cases h1 : c = 40
    · subst h1; rw [chk_open hc, chk_open hc]
    by_cases h2 : c = 41
    · subst h2; rw [chk_close hc, chk_close hc]
    by_cases h3 : c = 124
    · subst h3; rw [chk_bar hc, chk_bar hc]
    by_cases h4 : c = 93
    · subst h4; rw [chk_rb hc, chk_rb hc]
    by_cases h5 : c = 91
    · subst h5; rw [chk_class hc, chk_class hc]
    by_cases h6 : c = 92
    · subst h6; rw [chk_esc hc, chk_esc hc]
    have he : ¬ isEnd c := fun q => q.elim hn (fun q => q.elim h3 (fun q => q.elim h2 h4))
    rw [chk_plain hc he h1 h5 h6, chk_plain hc he h1 h5 h6]
  · rw [chk_end hi, chk_end hi]
end Go.Proofs.YtgnpcenpcmdlfaaGreatDoor

/-
  Filters as lists of nodes: trees in postfix order, their shapes.
-/
namespace Go.Proofs.YtgnpcenpcmdlfaaGreatDoor
set_option linter.unusedVariables false
set_option linter.unusedSimpArgs false

structure Nd where
  kind : Int
  s : ByteArray
  hi : Bool
  t : ByteArray
  lo : Int
  up : Int
  n : Int
def arity (k : Int) : Nat := if k = 14 ∨ k = 15 then 2 else if k = 16 then 3 else 0
theorem arity_le (k : Int) : arity k ≤ 3 := by unfold arity; split <;> (try split) <;> omega

/-- So many trees, one behind another. -/
inductive IsT : Nat → List Nd → Prop
  | nil : IsT 0 []
  | snoc {k : Nat} {xs : List Nd} (n : Nd) (h : IsT (k + arity n.kind) xs) : IsT (k + 1) (xs ++ [n])
theorem IsT.inv_nil {k : Nat} {xs : List Nd} (h : IsT k xs) (e : xs = []) : k = 0 := by
  cases h with
  | nil => rfl
  | snoc n h => simp at e
theorem IsT.inv_snoc {k : Nat} {xs ys : List Nd} {n : Nd} (h : IsT k ys) (e : ys = xs ++ [n]) : ∃ j, k = j + 1 ∧ IsT (j + arity n.kind) xs := by
  cases h with
  | nil => simp at e
  | snoc m h =>
    have := List.append_inj' e rfl
    obtain ⟨rfl, h2⟩ := this
    simp at h2
    subst h2
    exact ⟨_, rfl, h⟩
theorem IsT.zero {xs : List Nd} (h : IsT 0 xs) : xs = [] := by
  cases h with
  | nil => rfl
theorem IsT.len {k : Nat} {xs : List Nd} (h : IsT k xs) : k ≤ xs.length := by
  induction h with
  | nil => exact Nat.le_refl _
  | snoc n h ih => simp; omega
theorem IsT.split : ∀ {m : Nat} {xs : List Nd}, IsT m xs → ∀ {k j : Nat}, m = k + j → ∃ a b, xs = a ++ b ∧ IsT k a ∧ IsT j b := by
  intro m xs h
  induction h with
  | nil => intro k j e; obtain ⟨rfl, rfl⟩ : k = 0 ∧ j = 0 := by omega
           exact ⟨[], [], rfl, .nil, .nil⟩
  | @snoc q ys n h ih =>
    intro k j e
    cases j with
    | zero => exact ⟨ys ++ [n], [], by simp, by rw [show k = q + 1 by omega]; exact .snoc n h, .nil⟩
    | succ j =>
      obtain ⟨a, b, rfl, ha, hb⟩ := ih (k := k) (j := j + arity n.kind) (by omega)
      exact ⟨a, b ++ [n], by simp, ha, .snoc n hb⟩
/-- What has been asked for, from the right. -/
inductive Sc : Nat → List Nd → Prop
  | nil : Sc 1 []
  | cons {m : Nat} {ys : List Nd} (n : Nd) (h : Sc (m + 1) ys) : Sc (m + arity n.kind) (n :: ys)
theorem Sc.inv {m : Nat} {n : Nd} {ys : List Nd} (h : Sc m (n :: ys)) : ∃ q, m = q + arity n.kind ∧ Sc (q + 1) ys := by
  cases h with
  | cons _ h => exact ⟨_, rfl, h⟩
theorem Sc.one : ∀ {ys : List Nd} {m k : Nat}, Sc m ys → Sc k ys → m = k
  | [], _, _, .nil, .nil => rfl
  | n :: ys, m, k, h, g => by
    obtain ⟨a, rfl, ha⟩ := h.inv
    obtain ⟨b, rfl, hb⟩ := g.inv
    have := Sc.one ha hb
    omega
theorem Sc.tree : ∀ {ys : List Nd} {m : Nat}, Sc m ys → ∀ {pre : List Nd}, IsT m pre ↔ IsT 1 (pre ++ ys)
  | [], _, .nil, pre => by simp
  | n :: ys, m, h, pre => by
    obtain ⟨q, rfl, hq⟩ := h.inv
    have ih := Sc.tree hq (pre := pre ++ [n])
    rw [List.append_assoc] at ih
    rw [show pre ++ n :: ys = pre ++ ([n] ++ ys) from rfl, ← ih]
    constructor
    · intro h; exact .snoc n h
    · intro h
      obtain ⟨j, hj, h2⟩ := h.inv_snoc rfl
      rw [show q = j by omega]; exact h2
theorem IsT.sc {j : Nat} {b : List Nd} (h : IsT j b) : ∀ {m : Nat} {ys : List Nd}, Sc (m + j) ys → Sc m (b ++ ys) := by
  induction h with
  | nil => intro m ys h; exact h
  | @snoc k xs n h ih =>
    intro m ys hs
    rw [List.append_assoc]
    apply ih
    show Sc (m + (k + arity n.kind)) (n :: ys)
    rw [← Nat.add_assoc]
    exact .cons n hs
theorem IsT.sc0 {b : List Nd} (h : IsT 1 b) : Sc 0 b := by
  have := h.sc (m := 0) (ys := []) .nil
  simpa using this
/-- A tree at the end: one alone. -/
theorem tree_one {xs : List Nd} {i j : Nat} (hi : IsT 1 (xs.drop i)) (hj : IsT 1 (xs.drop j)) (hij : i ≤ j) (hjl : j ≤ xs.length) : i = j := by
  have h0 := hj.sc0
  have e : xs.drop i = (xs.drop i).take (j - i) ++ xs.drop j := by
    conv => lhs; rw [← List.take_append_drop (j - i) (xs.drop i)]
    rw [List.drop_drop, show i + (j - i) = j by omega]
  rw [e] at hi
  have h1 := (h0.tree.2 hi).zero
  have h2 := congrArg List.length h1
  simp at h2
  omega
/-- Where the asking comes to no end no tree stands. -/
theorem sc_none {xs : List Nd} : ∀ {i m : Nat}, Sc (m + 1) (xs.drop i) → ∀ j, i ≤ j → j ≤ xs.length → ¬ IsT 1 (xs.drop j) := by
  intro i m h j hij hjl ht
  obtain ⟨d, rfl⟩ : ∃ d, j = i + d := ⟨j - i, by omega⟩
  clear hij
  induction d generalizing i m with
  | zero => have := h.one ht.sc0; omega
  | succ d ih =>
    rw [List.drop_eq_getElem_cons (by omega)] at h
    obtain ⟨q, _, hq⟩ := h.inv
    exact ih (i := i + 1) (m := q) hq (by omega) (by rw [show i + 1 + d = i + (d + 1) by omega]; exact ht)

structure Shape where
  valid : Bool
  kind : Int
  nest : Nat
def strong (k : Int) : Nat := if k = 15 then 1 else if k = 14 then 2 else 3
/-- Whether an operand counts as one level. -/
def level (op : Int) (i : Nat) (kid : Int) : Bool := decide (op = 16) || (if i = 0 then decide (strong kid < strong op) else decide (strong kid ≤ strong op))
def nestFrom (op : Int) : Nat → Nat → List Shape → Nat
  | _, a, [] => a
  | i, a, o :: os => nestFrom op (i + 1) (max a (o.nest + if level op i o.kind then 1 else 0)) os
variable (G : Nd → Bool)
def shapeM (n : Nd) (os : List Shape) : Shape := ⟨G n && os.all (·.valid), n.kind, nestFrom n.kind 0 0 os⟩
def stepM (st : List Shape) (n : Nd) : Option (List Shape) :=
  if st.length < arity n.kind then none else some (st.take (st.length - arity n.kind) ++ [shapeM G n (st.drop (st.length - arity n.kind))])
def foldM (st : List Shape) : List Nd → Option (List Shape)
  | [] => some st
  | n :: ns => match stepM G st n with
    | none => none
    | some st' => foldM st' ns
theorem foldM_append (st : List Shape) (xs ys : List Nd) : foldM G st (xs ++ ys) = (foldM G st xs).bind (fun s => foldM G s ys) := by
  induction xs generalizing st with
  | nil => rfl
  | cons x xs ih =>
    simp only [List.cons_append, foldM]
    cases stepM G st x with
    | none => rfl
    | some s => exact ih s
/-- The shapes of trees, one behind another. -/
inductive ShT : List Shape → List Nd → Prop
  | nil : ShT [] []
  | snoc {ss os : List Shape} {xs : List Nd} (n : Nd) (ho : os.length = arity n.kind) (h : ShT (ss ++ os) xs) : ShT (ss ++ [shapeM G n os]) (xs ++ [n])
theorem IsT.shapes {k : Nat} {xs : List Nd} (h : IsT k xs) : ∃ ss, ss.length = k ∧ ShT G ss xs := by
  induction h with
  | nil => exact ⟨[], rfl, .nil⟩
  | @snoc k xs n h ih =>
    obtain ⟨ss, hl, hs⟩ := ih
    refine ⟨ss.take k ++ [shapeM G n (ss.drop k)], by simp; omega, .snoc n (by simp; omega) ?_⟩
    rw [List.take_append_drop]; exact hs
theorem ShT.tree {ss : List Shape} {xs : List Nd} (h : ShT G ss xs) : IsT ss.length xs := by
  induction h with
  | nil => exact .nil
  | @snoc ss os xs n ho h ih =>
    rw [List.length_append]
    refine IsT.snoc n ?_
    rw [← ho, ← List.length_append]; exact ih
theorem ShT.fold {ss : List Shape} {xs : List Nd} (h : ShT G ss xs) : ∀ st, foldM G st xs = some (st ++ ss) := by
  induction h with
  | nil => intro st; simp [foldM]
  | @snoc ss os xs n ho h ih =>
    intro st
    rw [foldM_append, ih]
    simp only [Option.bind_some, foldM, stepM]
    rw [if_neg (by simp; omega)]
    have hl : (st ++ (ss ++ os)).length - arity n.kind = (st ++ ss).length := by simp; omega
    rw [hl, ← List.append_assoc, List.take_left, List.drop_left, List.append_assoc]
theorem fold_from : ∀ {xs pre : List Nd} {st ss : List Shape}, ShT G st pre → foldM G st xs = some ss → ShT G ss (pre ++ xs)
  | [], pre, st, ss, h, e => by
    simp [foldM] at e; subst e; simpa using h
  | n :: xs, pre, st, ss, h, e => by
    simp only [foldM, stepM] at e
    by_cases hl : st.length < arity n.kind
    · rw [if_pos hl] at e; cases e
    · rw [if_neg hl] at e
      have h1 : ShT G (st.take (st.length - arity n.kind) ++ [shapeM G n (st.drop (st.length - arity n.kind))]) (pre ++ [n]) := by
        refine .snoc n (by simp; omega) ?_
        rw [List.take_append_drop]; exact h
      have h2 := fold_from h1 e
      rw [List.append_assoc] at h2
      exact h2
theorem fold_tree {xs : List Nd} {ss : List Shape} (h : foldM G [] xs = some ss) : ShT G ss xs := by
  simpa using fold_from G (pre := []) .nil h
theorem ShT.valid {ss : List Shape} {xs : List Nd} (h : ShT G ss xs) : ss.all (·.valid) = xs.all G := by
  induction h with
  | nil => rfl
  | @snoc ss os xs n ho h ih =>
    rw [List.all_append, List.all_append, ← ih, List.all_append]
    simp [shapeM]
    cases G n <;> cases ss.all (·.valid) <;> cases os.all (·.valid) <;> rfl
theorem ShT.split {ss : List Shape} {xs : List Nd} (h : ShT G ss xs) : ∀ {a b : List Shape}, ss = a ++ b → ∃ ys zs, xs = ys ++ zs ∧ ShT G a ys ∧ ShT G b zs := by
  induction h with
  | nil => intro a b e; obtain ⟨rfl, rfl⟩ : a = [] ∧ b = [] := by simpa using e.symm
           exact ⟨[], [], rfl, .nil, .nil⟩
  | @snoc ss os xs n ho h ih =>
    intro a b e
    rcases List.eq_nil_or_concat b with rfl | ⟨b', z, rfl⟩
    · simp at e; subst e
      exact ⟨xs ++ [n], [], by simp, .snoc n ho h, .nil⟩
    · rw [List.concat_eq_append, ← List.append_assoc] at e
      have e2 := List.append_inj' e rfl
      obtain ⟨e3, e4⟩ := e2
      simp at e4
      subst e3 e4
      obtain ⟨ys, zs, rfl, h1, h2⟩ := ih (a := a) (b := b' ++ os) (by simp)
      refine ⟨ys, zs ++ [n], by simp, h1, ?_⟩
      rw [List.concat_eq_append]
      exact .snoc n ho h2
/-- What ValidFilter comes to. -/
def validF (xs : List Nd) : Bool := decide (xs.length ≤ 200) && (match foldM G [] xs with
  | some [sh] => sh.valid && decide (sh.nest ≤ 20)
  | _ => false)
theorem ShT.inv {s : Shape} {xs : List Nd} (h : ShT G [s] xs) : ∃ ys n os, xs = ys ++ [n] ∧ os.length = arity n.kind ∧ ShT G os ys ∧ s = shapeM G n os := by
  generalize hs : [s] = ss at h
  cases h with
  | nil => cases hs
  | @snoc ss os xs n ho h =>
    have e := List.append_inj' (s₁ := []) (t₁ := [s]) hs rfl
    obtain ⟨e1, e2⟩ := e
    subst e1
    simp at e2
    exact ⟨xs, n, os, rfl, ho, h, e2⟩
/-- The operands of a node, one by one. -/
inductive Kids : List Shape → List (List Nd) → Prop
  | nil : Kids [] []
  | cons {o : Shape} {os : List Shape} {k : List Nd} {ks : List (List Nd)} (h : ShT G [o] k) (t : Kids os ks) : Kids (o :: os) (k :: ks)
theorem ShT.kids : ∀ {os : List Shape} {ys : List Nd}, ShT G os ys → ∃ ks, ys = ks.flatten ∧ Kids G os ks
  | [], ys, h => by
    have := h.tree.zero
    subst this
    exact ⟨[], rfl, .nil⟩
  | o :: os, ys, h => by
    obtain ⟨a, b, rfl, h1, h2⟩ := ShT.split G h (a := [o]) (b := os) rfl
    obtain ⟨ks, rfl, hk⟩ := ShT.kids h2
    exact ⟨a :: ks, rfl, .cons h1 hk⟩
theorem Kids.length {os : List Shape} {ks : List (List Nd)} (h : Kids G os ks) : os.length = ks.length := by
  induction h with
  | nil => rfl
  | cons _ _ ih => simp [ih]
theorem Kids.tree {os : List Shape} {ks : List (List Nd)} (h : Kids G os ks) : ∀ k ∈ ks, IsT 1 k := by
  induction h with
  | nil => intro k hk; cases hk
  | cons h1 _ ih =>
    intro k hk
    rcases List.mem_cons.1 hk with rfl | hk
    · exact h1.tree
    · exact ih k hk
theorem Kids.nth {os : List Shape} {ks : List (List Nd)} (h : Kids G os ks) : ∀ {j : Nat} {k : List Nd}, ks[j]? = some k → ∃ o, os[j]? = some o ∧ ShT G [o] k := by
  induction h with
  | nil => intro j k hk; simp at hk
  | cons h1 _ ih =>
    intro j k hk
    cases j with
    | zero => simp at hk; subst hk; exact ⟨_, rfl, h1⟩
    | succ j => simp at hk; simpa using ih hk
theorem nestFrom_le (op : Int) (B : Nat) : ∀ {os : List Shape} {i a : Nat}, a ≤ B → (∀ o ∈ os, o.nest + 1 ≤ B) → nestFrom op i a os ≤ B
  | [], i, a, h, _ => h
  | o :: os, i, a, h, g => by
    unfold nestFrom
    apply nestFrom_le op B
    · have := g o (by simp)
      split <;> omega
    · exact fun o' ho => g o' (by simp [ho])
theorem kid_len {os : List Shape} {ks : List (List Nd)} (h : Kids G os ks) {o : Shape} (ho : o ∈ os) : ∃ k ∈ ks, ShT G [o] k := by
  induction h with
  | nil => cases ho
  | cons h1 _ ih =>
    rcases List.mem_cons.1 ho with rfl | ho
    · exact ⟨_, by simp, h1⟩
    · obtain ⟨k, hk, h2⟩ := ih ho
      exact ⟨k, by simp [hk], h2⟩
theorem len_flat {ks : List (List Nd)} {k : List Nd} (h : k ∈ ks) : k.length ≤ ks.flatten.length := by
  induction ks with
  | nil => cases h
  | cons a ks ih =>
    simp only [List.flatten_cons, List.length_append]
    rcases List.mem_cons.1 h with rfl | h
    · omega
    · have := ih h; omega
theorem nest_len : ∀ (n : Nat) {s : Shape} {xs : List Nd}, xs.length ≤ n → ShT G [s] xs → s.nest ≤ xs.length
  | 0, s, xs, hn, h => by
    obtain ⟨ys, e, os, rfl, _⟩ := h.inv
    simp at hn
  | n + 1, s, xs, hn, h => by
    obtain ⟨ys, e, os, rfl, _, h2, rfl⟩ := h.inv
    obtain ⟨ks, rfl, hK⟩ := h2.kids
    simp only [List.length_append, List.length_singleton] at hn ⊢
    refine nestFrom_le e.kind _ (Nat.zero_le _) fun o ho => ?_
    obtain ⟨k, hk, h3⟩ := kid_len G hK ho
    have h4 := len_flat hk
    have h5 := nest_len n (by omega) h3
    omega
end Go.Proofs.YtgnpcenpcmdlfaaGreatDoor

/-
  Entries by value: the contracts of szEntry, toEntry, spec.ValidEntry, impl.ValidEntry.
-/
namespace Go.Proofs.YtgnpcenpcmdlfaaGreatDoor
open Go.ChangeShapes Go.WideShapes Go.ChangeAt Go.RowKit
open Go.ChangeMaps (open_string shut_string)

/-- An entry as Lean has it. -/
structure Ent where
  row : ByteArray
  fam : ByteArray
  qual : ByteArray
  ts : Int
  kind : Int
  val : ByteArray

abbrev Ent.v (e : Ent) : Value := .agg #[.string e.row, .string e.fam, .string e.qual, .int .u64 e.ts, .int .i64 e.kind, .string e.val]
/-- It fits its types. -/
structure Ent.ok (e : Ent) : Prop where
  row : e.row.size ≤ maxLen
  fam : e.fam.size ≤ maxLen
  qual : e.qual.size ≤ maxLen
  val : e.val.size ≤ maxLen
  ts : (Lit.int .u64 e.ts).wf = true
  kind : (Lit.int .i64 e.kind).wf = true

def Ent.bulk (e : Ent) : Int := e.row.size + e.fam.size + e.qual.size + e.val.size

theorem ret_bool {a b : Bool} (h : a = b) : Ending.returned (.bool a) = .returned (.bool b) := by rw [h]

theorem isE (v : ByteArray) : v.toList.isEmpty = decide (v.size = 0) := by
  rw [ByteArray.toList_eq, Bool.eq_iff_iff]
  simp [← ByteArray.size_data]

theorem orE (k : Int) (v : ByteArray) (h : ¬ k = 0) : (k == 0 || v.toList.isEmpty) = decide (v.size = 0) := by
  rw [isE]; simp [h]

def vE (r f q : ByteArray) (k : Int) (v : ByteArray) : Bool :=
  decide (1 ≤ r.size ∧ r.size ≤ 64 ∧ 1 ≤ f.size ∧ f.size ≤ 16 ∧ q.size ≤ 64 ∧ v.size ≤ 200 ∧ 0 ≤ k ∧ k ≤ 2 ∧ (k = 0 ∨ v.size = 0))

end Go.Proofs.YtgnpcenpcmdlfaaGreatDoor

/-
  Arguments opened: an entry that can be read is six plain values.
-/
namespace Go.Proofs.YtgnpcenpcmdlfaaGreatDoor
open Go.ChangeShapes Go.WideShapes Go.ChangeAt Go.RowKit Go.Deep

theorem Tryz.cellsStr : Tryz.prog.cellsOf 9 = 1 := by kernel_rfl
theorem Tryz.cellsU64 : Tryz.prog.cellsOf 50 = 1 := by kernel_rfl
theorem Tryz.cellsI64 : Tryz.prog.cellsOf 2 = 1 := by kernel_rfl
theorem Tryz.cellsBool : Tryz.prog.cellsOf 4 = 1 := by kernel_rfl

theorem bcell {W w1 : World} (hb : Below W.heap.size W w1) : (∀ b o, b < W.heap.size → w1.cell? ⟨b, o, none⟩ = W.cell? ⟨b, o, none⟩) ∧ (∀ b o, b < W.heap.size → w1.frozen? ⟨b, o, none⟩ = W.frozen? ⟨b, o, none⟩) :=
  ⟨fun b o h => hb.cell (p := ⟨b, o, none⟩) h, fun b o h => hb.frozen (p := ⟨b, o, none⟩) h⟩

theorem list6 {α : Type} {cs : List α} (h : cs.length = 6) : ∃ c0 c1 c2 c3 c4 c5, cs = [c0, c1, c2, c3, c4, c5] := by
  match cs, h with
  | [c0, c1, c2, c3, c4, c5], _ => exact ⟨c0, c1, c2, c3, c4, c5, rfl⟩
theorem array6 {α : Type} {cs : Array α} (h : cs.size = 6) : ∃ c0 c1 c2 c3 c4 c5, cs = #[c0, c1, c2, c3, c4, c5] := by
  obtain ⟨l⟩ := cs
  obtain ⟨c0, c1, c2, c3, c4, c5, rfl⟩ := list6 h
  exact ⟨c0, c1, c2, c3, c4, c5, rfl⟩

end Go.Proofs.YtgnpcenpcmdlfaaGreatDoor

/-
  Entries in memory, one behind another.
-/
namespace Go.Proofs.YtgnpcenpcmdlfaaGreatDoor
open Go.ChangeShapes Go.WideShapes Go.ChangeAt Go.RowKit Go.Deep
set_option linter.unusedVariables false

abbrev Ent.cells (e : Ent) : List Value := [.string e.row, .string e.fam, .string e.qual, .int .u64 e.ts, .int .i64 e.kind, .string e.val]
def cellsE (es : List Ent) : List Value := es.flatMap Ent.cells
theorem cellsE_nil : cellsE [] = [] := rfl
theorem cellsE_cons (e : Ent) (es : List Ent) : cellsE (e :: es) = e.cells ++ cellsE es := by simp [cellsE]
theorem cellsE_append (es fs : List Ent) : cellsE (es ++ fs) = cellsE es ++ cellsE fs := by simp [cellsE]
theorem length_cellsE (es : List Ent) : (cellsE es).length = es.length * 6 := by
  induction es with
  | nil => rfl
  | cons e es ih => rw [cellsE_cons, List.length_append, ih]; simp; omega
theorem cellsE_get (es : List Ent) : ∀ (k : Nat) (e : Ent), es[k]? = some e → ∀ j, j < 6 → (cellsE es)[k * 6 + j]? = e.cells[j]? := by
  induction es with
  | nil => intro k e h; simp at h
  | cons f es ih =>
    intro k e h j hj
    rw [cellsE_cons]
    cases k with
    | zero =>
      simp at h; subst h
      rw [List.getElem?_append_left (by show 0 * 6 + j < 6; omega)]
      simp
    | succ k =>
      simp at h
      rw [List.getElem?_append_right (by show 6 ≤ (k + 1) * 6 + j; omega)]
      have : (k + 1) * 6 + j - f.cells.length = k * 6 + j := by show (k + 1) * 6 + j - 6 = _; omega
      rw [this]; exact ih k e h j hj
theorem cellsE_set (es : List Ent) : ∀ (k : Nat) (e e' : Ent) (u : Value) (j : Nat), es[k]? = some e → j < 6 → e'.cells = e.cells.set j u → (cellsE es).set (k * 6 + j) u = cellsE (es.set k e') := by
  induction es with
  | nil => intro k e e' u j h; simp at h
  | cons f es ih =>
    intro k e e' u j h hj hc
    rw [cellsE_cons]
    cases k with
    | zero =>
      simp at h; subst h
      rw [List.set_append_left _ _ (by show 0 * 6 + j < 6; omega), List.set_cons_zero, cellsE_cons, hc]
      simp
    | succ k =>
      simp at h
      rw [List.set_append_right _ _ (by show 6 ≤ (k + 1) * 6 + j; omega), List.set_cons_succ, cellsE_cons]
      have : (k + 1) * 6 + j - f.cells.length = k * 6 + j := by show (k + 1) * 6 + j - 6 = _; omega
      rw [this, ih k e e' u j h hj hc]

/-- The entries 'es' lie at ⟨b, off⟩, six cells each. -/
def EntsAt (w : World) (b off : Nat) (es : List Ent) : Prop :=
  ∀ i e, es[i]? = some e → w.cell? ⟨b, off + i * 6, none⟩ = some (.string e.row) ∧ w.cell? ⟨b, off + i * 6 + 1, none⟩ = some (.string e.fam) ∧ w.cell? ⟨b, off + i * 6 + 2, none⟩ = some (.string e.qual) ∧
    w.cell? ⟨b, off + i * 6 + 3, none⟩ = some (.int .u64 e.ts) ∧ w.cell? ⟨b, off + i * 6 + 4, none⟩ = some (.int .i64 e.kind) ∧ w.cell? ⟨b, off + i * 6 + 5, none⟩ = some (.string e.val)

theorem EntsAt.below {B : Nat} {w w' : World} {b off : Nat} {es : List Ent} (h : EntsAt w b off es) (hb : Below B w w') (hlt : b < B) : EntsAt w' b off es := by
  intro i e he
  have := h i e he
  refine ⟨?_, ?_, ?_, ?_, ?_, ?_⟩
  all_goals rw [hb.cell (by exact hlt)]
  · exact this.1
  · exact this.2.1
  · exact this.2.2.1
  · exact this.2.2.2.1
  · exact this.2.2.2.2.1
  · exact this.2.2.2.2.2

theorem below_put {B : Nat} {a w : World} (h : Below B a w) {g : Nat} (hg : B ≤ g) (o0 o1 o2 o3 o4 o5 : Nat) (v0 v1 v2 v3 v4 v5 : Value) :
    Below B a ((((((w.setCell ⟨g, o0, none⟩ v0).setCell ⟨g, o1, none⟩ v1).setCell ⟨g, o2, none⟩ v2).setCell ⟨g, o3, none⟩ v3).setCell ⟨g, o4, none⟩ v4).setCell ⟨g, o5, none⟩ v5) :=
  (((((h.setCell hg _).setCell hg _).setCell hg _).setCell hg _).setCell hg _).setCell hg _
theorem take_set_succ {es fs : List Ent} {k : Nat} {e : Ent} (h : fs.take k = es.take k) (hl : fs.length = es.length) (he : es[k]? = some e) : (fs.set k e).take (k + 1) = es.take (k + 1) := by
  have hlt : k < es.length := (List.getElem?_eq_some_iff.1 he).1
  apply List.ext_getElem?
  intro j
  have hj := congrArg (fun l => l[j]?) h
  simp only [List.getElem?_take] at hj ⊢
  rw [List.getElem?_set]
  by_cases h1 : j < k
  · have h2 : j < k + 1 := by omega
    have h3 : ¬ k = j := by omega
    simp only [h1, h2, h3, if_true, if_false] at hj ⊢
    exact hj
  · by_cases h2 : k = j
    · subst h2
      have h3 : k < k + 1 := by omega
      have h4 : k < fs.length := by omega
      simp only [h3, h4, if_true, he]
    · have h3 : ¬ j < k + 1 := by omega
      simp only [h3, if_false]

def zeroE : Ent := ⟨⟨#[]⟩, ⟨#[]⟩, ⟨#[]⟩, 0, 0, ⟨#[]⟩⟩
theorem made_zero (n : Nat) : (madeCells #[.string ⟨#[]⟩, .string ⟨#[]⟩, .string ⟨#[]⟩, .int .u64 0, .int .i64 0, .string ⟨#[]⟩] (n * 6)).toList = cellsE (List.replicate n zeroE) := by
  apply List.ext_getElem?
  intro j
  by_cases hj : j < n * 6
  · have h := cellsE_get (List.replicate n zeroE) (j / 6) zeroE (by rw [List.getElem?_replicate, if_pos (by omega)]) (j % 6) (Nat.mod_lt _ (by omega))
    rw [show j / 6 * 6 + j % 6 = j by omega] at h
    rw [h]
    have h6 : j % 6 < 6 := Nat.mod_lt _ (by omega)
    simp [madeCells, hj]
    generalize j % 6 = m at *
    match m, h6 with
    | 0, _ => rfl
    | 1, _ => rfl
    | 2, _ => rfl
    | 3, _ => rfl
    | 4, _ => rfl
    | 5, _ => rfl
  · have h1 : (cellsE (List.replicate n zeroE)).length ≤ j := by rw [length_cellsE, List.length_replicate]; omega
    rw [List.getElem?_eq_none h1]
    simp [madeCells, hj]

end Go.Proofs.YtgnpcenpcmdlfaaGreatDoor

/-
  Rows held against each other; rows of no entries; runs by value.
-/
namespace Go.Proofs.YtgnpcenpcmdlfaaGreatDoor
open Go.ChangeShapes Go.WideShapes Go.ChangeAt Go.RowKit Go.Deep
set_option linter.unusedVariables false

/-! ### Rows of no entries -/

/-! ### A slice of entries, whatever its make -/

/-- What is read of a slice of entries that came in. -/
def InEnts (w : World) (v : Value) (es : List Ent) : Prop :=
  (∃ a cap, v = .slice a 0 cap ∧ es = []) ∨
  ∃ b off cap, v = .slice (some ⟨b, off, none⟩) es.length cap ∧ EntsAt w b off es ∧ b < w.heap.size ∧ es.length ≤ cap ∧ cap ≤ maxLen
theorem InEnts.below {B : Nat} {w w' : World} {v : Value} {es : List Ent} (h : InEnts w v es) (hb : Below B w w') (hB : w.heap.size ≤ B) : InEnts w' v es := by
  rcases h with h | ⟨b, off, cap, hv, hE, hlt, h1, h2⟩
  · exact .inl h
  · exact .inr ⟨b, off, cap, hv, hE.below hb (by omega), by have := hb.size; omega, h1, h2⟩
end Go.Proofs.YtgnpcenpcmdlfaaGreatDoor

/-
  Slices of entries and runs that come in, opened.
-/
namespace Go.Proofs.YtgnpcenpcmdlfaaGreatDoor
open Go.ChangeShapes Go.WideShapes Go.ChangeAt Go.RowKit Go.Deep
set_option linter.unusedVariables false

theorem list_of_forall {α : Type} {P : Nat → α → Prop} : ∀ n, (∀ i, i < n → ∃ x, P i x) → ∃ l : List α, l.length = n ∧ ∀ i x, l[i]? = some x → P i x
  | 0, _ => ⟨[], rfl, fun i x h => by simp at h⟩
  | n + 1, h => by
    obtain ⟨l, hl, hp⟩ := list_of_forall n (fun i hi => h i (by omega))
    obtain ⟨x, hx⟩ := h n (by omega)
    refine ⟨l ++ [x], by simp [hl], fun i y hy => ?_⟩
    by_cases hi : i < l.length
    · rw [List.getElem?_append_left hi] at hy; exact hp i y hy
    · rw [List.getElem?_append_right (by omega)] at hy
      have : i - l.length = 0 := by
        have := (List.getElem?_eq_some_iff.1 hy).1
        simp at this; omega
      rw [this] at hy
      simp at hy
      subst hy
      rw [show i = n by omega]; exact hx

/-! ### Runs by value -/

end Go.Proofs.YtgnpcenpcmdlfaaGreatDoor

/-
  The marks that a law lays into rows and looks for.
-/
namespace Go.Proofs.YtgnpcenpcmdlfaaGreatDoor
open Go.ChangeShapes Go.WideShapes Go.ChangeAt Go.RowKit Go.Deep
set_option linter.unusedVariables false

def digF : Nat → Nat → List UInt8
  | 0, _ => []
  | f + 1, k => if k = 0 then [] else digF f (k / 10) ++ [UInt8.ofNat (48 + k % 10)]
theorem digF_zero (f : Nat) : digF f 0 = [] := by cases f <;> simp [digF]
theorem digF_more : ∀ (f k : Nat), k ≤ f → digF f k = digF k k
  | 0, k, h => by rw [show k = 0 by omega]
  | f + 1, k, h => by
    by_cases h0 : k = 0
    · subst h0; rw [digF_zero, digF_zero]
    · obtain ⟨j, rfl⟩ : ∃ j, k = j + 1 := ⟨k - 1, by omega⟩
      have h1 : (j + 1) / 10 ≤ j := by omega
      unfold digF
      rw [if_neg h0, if_neg h0, digF_more f _ (by omega), digF_more j _ h1]
def dig (k : Nat) : List UInt8 := digF k k
theorem dig_step {k : Nat} (h : 0 < k) : dig k = dig (k / 10) ++ [UInt8.ofNat (48 + k % 10)] := by
  obtain ⟨j, rfl⟩ : ∃ j, k = j + 1 := ⟨k - 1, by omega⟩
  show digF (j + 1) (j + 1) = _
  rw [digF, if_neg (by omega), digF_more j _ (by omega)]; rfl
/-- The mark's text. -/
def mText (k : Nat) : ByteArray := ⟨(109 :: dig k).toArray⟩

theorem mText_eq {k : Nat} {out : ByteArray} (h : dig k = out.data.toList) : mText k = ⟨#[109]⟩ ++ out := by
  obtain ⟨a⟩ := out
  unfold mText
  rw [ByteArray.mk_append_mk, h]
  simp

set_option maxHeartbeats 400000 in
set_option maxRecDepth 100000 in
theorem markText_nat (k : Nat) (w : World) (h0 : 0 < k) (h1 : k ≤ 2 ^ 40) :
    Calls Tryz.prog 98 #[.int .i64 k] w fun e w' => e = .returned (.string (mText k)) ∧ Below w.heap.size w w' := by
  go_enter Tryz.func98, Tryz.ntmps98
  go_wp2
  go_loopw [0, 3] (fun c o wr => ∃ (j : Nat) (out : ByteArray), c = .int .i64 j ∧ j + out.size ≤ k ∧ o = .string out ∧ dig k = dig j ++ out.data.toList ∧ Below w.heap.size w wr) (fun c _ _ => (intOf c).toNat)
  case atStart => exact ⟨k, ⟨#[]⟩, rfl, Nat.le_refl _, rfl, by simp, Below.refl _ _⟩
  case round =>
    obtain ⟨j, out, rfl, hj, rfl, hd, hb⟩ := hrel
    have HD : Hid (dig k = dig j ++ out.data.toList) := hd
    clear hd
    by_cases hp : 0 < j
    · obtain ⟨d, hd⟩ : ∃ d : UInt8, d = UInt8.ofNat (48 + j % 10) := ⟨_, rfl⟩
      have hdn : (d.toNat : Int) = 48 + (j : Int) % 10 := by
        rw [hd, UInt8.toNat_ofNat']
        omega
      have hcv : ((convert 22 9 (.slice (some ⟨wr.heap.size, 0, none⟩) 1 1)).run Tryz.prog (wr.alloc (Obj.cells #[.int .u8 (48 + (j : Int) % 10)] 5))) = .ok (.string ⟨#[d]⟩) (wr.alloc (Obj.cells #[.int .u8 (48 + (j : Int) % 10)] 5)) := by
        refine run_convert_bytes_back (P := Tryz.prog) (wr.alloc (Obj.cells #[.int .u8 (48 + (j : Int) % 10)] 5)) 22 9 5 ⟨wr.heap.size, 0, none⟩ 1 [d] Tryz.underlying22 Tryz.underlying5 Tryz.underlying9 ?_
        intro i hi
        obtain rfl : i = 0 := by simpa using hi
        simp [Addr.add, hdn]
      have HN : Hid (d = UInt8.ofNat (48 + j % 10)) := hd
      clear hd hdn
      go_wp2_with fail
      refine ⟨⟨j / 10, ⟨#[d]⟩ ++ out, by go_num, ?_, rfl, ?_, hb.alloc hb.size _⟩, ?_⟩
      · go_light
        rw [ByteArray.size_append]
        show j / 10 + (1 + out.size) ≤ k
        omega
      · go_light
        rw [HD.out, dig_step hp, HN.out]
        simp
      · go_light
        simp [intOf]; omega
    · go_wp2_with fail
      go_ret
      refine ⟨?_, hb⟩
      have e : mText k = ⟨#[109]⟩ ++ out := mText_eq (by rw [HD.out, show j = 0 by omega]; rfl)
      rw [e]; rfl

theorem markText_any (a : Int) (w : World) (h0 : 0 < a) (h1 : a ≤ 2 ^ 40) :
    Calls Tryz.prog 98 #[.int .i64 a] w fun e w' => e = .returned (.string (mText a.toNat)) ∧ Below w.heap.size w w' := by
  obtain ⟨k, rfl⟩ := Int.eq_ofNat_of_zero_le (by omega : 0 ≤ a)
  rw [Int.toNat_natCast]
  exact markText_nat k w (by omega) (by omega)

/-- The entry that the marks from 'k' on make. -/
def mEnt (k : Int) : Ent := ⟨mText k.toNat, mText (k + 1).toNat, mText (k + 1 + 1).toNat, k + 1 + 1 + 1, k + 1 + 1 + 1 + 1, mText (k + 1 + 1 + 1 + 1 + 1).toNat⟩
/-- The first 'i' of the entries are marked, from 'k' on. -/
def marked (k : Int) (es : List Ent) (i : Nat) : Prop := ∀ j : Nat, j < i → es[j]? = some (mEnt (k + j * 6))

theorem grown_of_below {w w' : World} (h : Below w.heap.size w w') (r : Option Nat) : w.grownBy w' r := ⟨h.os, h.tape, h.output, h.size, fun k hk _ => h.block k hk⟩
theorem grown_set (w : World) (g o : Nat) (u : Value) : w.grownBy (w.setCell ⟨g, o, none⟩ u) (some g) := by
  have h : Below g w (w.setCell ⟨g, o, none⟩ u) := (Below.refl g w).setCell (Nat.le_refl _) u
  exact ⟨h.os, h.tape, h.output, h.size, fun k hk hne => Below.heap_setCell w ⟨g, o, none⟩ u k (fun e => hne (by rw [e]))⟩
theorem marked_set {k : Int} {fs : List Ent} {m : Nat} (h : marked k fs m) (hm : m < fs.length) : marked k (fs.set m (mEnt (k + m * 6))) (m + 1) := by
  intro j hj
  by_cases e : j = m
  · subst e; simp [hm]
  · rw [List.getElem?_set_ne (by omega)]; exact h j (by omega)

end Go.Proofs.YtgnpcenpcmdlfaaGreatDoor

/-
  What has turned between two worlds.
-/
namespace Go.Proofs.YtgnpcenpcmdlfaaGreatDoor
open Go.ChangeShapes Go.WideShapes Go.ChangeAt Go.RowKit Go.Deep
set_option linter.unusedVariables false
set_option linter.unusedSimpArgs false

/-- From 'w' to 'w'': only what lies in blocks of 'S' has turned, and new blocks came. -/
structure Chg (S : Nat → Prop) (w w' : World) : Prop where
  os : w'.os = w.os
  tape : w'.tape = w.tape
  output : w'.output = w.output
  size : w.heap.size ≤ w'.heap.size
  block : ∀ k, k < w.heap.size → ¬ S k → w'.heap[k]? = w.heap[k]?
theorem Chg.refl (S : Nat → Prop) (w : World) : Chg S w w := ⟨rfl, rfl, rfl, Nat.le_refl _, fun _ _ _ => rfl⟩
theorem Chg.trans {S : Nat → Prop} {a b c : World} (h : Chg S a b) (k : Chg S b c) : Chg S a c :=
  ⟨k.os.trans h.os, k.tape.trans h.tape, k.output.trans h.output, Nat.le_trans h.size k.size, fun i hi hn => (k.block i (Nat.lt_of_lt_of_le hi h.size) hn).trans (h.block i hi hn)⟩
theorem Chg.mono {S T : Nat → Prop} {w w' : World} (h : Chg S w w') (hs : ∀ k, S k → T k) : Chg T w w' := ⟨h.os, h.tape, h.output, h.size, fun k hk hn => h.block k hk (fun q => hn (hs k q))⟩
theorem Chg.of_below {S : Nat → Prop} {w w' : World} (h : Below w.heap.size w w') : Chg S w w' := ⟨h.os, h.tape, h.output, h.size, fun k hk _ => h.block k hk⟩
theorem Chg.of_grown {S : Nat → Prop} {w w' : World} {row : Option Nat} (h : w.grownBy w' row) (hs : ∀ k, row = some k → S k) : Chg S w w' :=
  ⟨h.os, h.tape, h.output, h.size, fun k hk hn => h.block k hk (fun q => hn (hs k q.symm))⟩
theorem Chg.of_set {S : Nat → Prop} (w : World) (g o : Nat) (u : Value) (hs : S g) : Chg S w (w.setCell ⟨g, o, none⟩ u) := Chg.of_grown (grown_set w g o u) (fun k hk => by cases hk; exact hs)
theorem Chg.below {S : Nat → Prop} {B : Nat} {a w w' : World} (h : Below B a w) (k : Chg S w w') (hB : B ≤ w.heap.size) (hs : ∀ k, S k → B ≤ k) : Below B a w' :=
  h.trans ⟨k.os, k.tape, k.output, k.size, fun i hi => k.block i (by omega) (fun q => by have := hs i q; omega)⟩
theorem Chg.cell {S : Nat → Prop} {w w' : World} (h : Chg S w w') {p : Addr} (hp : p.block < w.heap.size) (hn : ¬ S p.block) : w'.cell? p = w.cell? p := World.cell?_of_block (w := w) (h.block p.block hp hn)
theorem Chg.frozen {S : Nat → Prop} {w w' : World} (h : Chg S w w') {p : Addr} (hp : p.block < w.heap.size) (hn : ¬ S p.block) : w'.frozen? p = w.frozen? p := World.frozen?_of_block (w := w) (h.block p.block hp hn)
theorem EntsAt.chg {S : Nat → Prop} {w w' : World} {b off : Nat} {es : List Ent} (h : EntsAt w b off es) (hb : Chg S w w') (hlt : b < w.heap.size) (hn : ¬ S b) : EntsAt w' b off es := by
  intro i e he
  have := h i e he
  refine ⟨?_, ?_, ?_, ?_, ?_, ?_⟩
  all_goals rw [hb.cell (by exact hlt) (by exact hn)]
  · exact this.1
  · exact this.2.1
  · exact this.2.2.1
  · exact this.2.2.2.1
  · exact this.2.2.2.2.1
  · exact this.2.2.2.2.2
theorem own_apart {w : World} {base e size : Nat} {v : Value} {n : Nat} {xs : List Value} {base' e' size' : Nat} {v' : Value} {n' : Nat} {xs' : List Value} (h : w.ownsRow base e size v n xs) (h' : w.ownsRow base' e' size' v' n' xs') (hne : e ≠ e') : ∀ k, v.ownBlock = some k → v'.ownBlock ≠ some k := by
  intro k hk hk'
  rcases h.2 with ⟨rfl, _⟩ | ⟨g1, cap1, cur, rfl, _, hc, _⟩
  · simp [Value.ownBlock] at hk
  · rcases h'.2 with ⟨rfl, _⟩ | ⟨g2, cap2, cur2, rfl, _, hc2, _⟩
    · simp [Value.ownBlock] at hk'
    · simp [Value.ownBlock] at hk hk'
      subst hk hk'
      rw [hc] at hc2
      simp at hc2
      exact hne hc2.2
theorem own_chg {S : Nat → Prop} {w w' : World} {base e size : Nat} {v : Value} {n : Nat} {xs : List Value} (h : w.ownsRow base e size v n xs) (hb : Chg S w w') (hn : ∀ k, v.ownBlock = some k → ¬ S k) : w'.ownsRow base e size v n xs := by
  refine ⟨h.1, ?_⟩
  rcases h.2 with hz | ⟨g, cap, cur, rfl, h1, hg, rest⟩
  · exact .inl hz
  · refine .inr ⟨g, cap, cur, rfl, h1, ?_, rest⟩
    have hlt : g < w.heap.size := by
      rcases Nat.lt_or_ge g w.heap.size with q | q
      · exact q
      · rw [Array.getElem?_eq_none q] at hg; cases hg
    rw [hb.block g hlt (hn g rfl)]; exact hg

end Go.Proofs.YtgnpcenpcmdlfaaGreatDoor

/-
  Variables of a struct's type that lie in memory, as rows of one element.
-/
namespace Go.Proofs.YtgnpcenpcmdlfaaGreatDoor
open Go.ChangeShapes Go.WideShapes Go.ChangeAt Go.RowKit Go.Deep
set_option linter.unusedVariables false

def BoxAt (w : World) (base t sz g : Nat) (vs : List Value) : Prop := w.ownsRow base t sz (.slice (some ⟨g, 0, none⟩) 1 1) 1 vs
theorem BoxAt.len {w : World} {base t sz g : Nat} {vs : List Value} (h : BoxAt w base t sz g vs) : vs.length = sz := by have := h.1; omega
theorem BoxAt.lt {w : World} {base t sz g : Nat} {vs : List Value} (h : BoxAt w base t sz g vs) : base ≤ g ∧ g < w.heap.size := World.ownsRow.lt h g rfl
theorem BoxAt.chg {S : Nat → Prop} {w w' : World} {base t sz g : Nat} {vs : List Value} (h : BoxAt w base t sz g vs) (hc : Chg S w w') (hn : ¬ S g) : BoxAt w' base t sz g vs := own_chg h hc (fun k q => by simp [Value.ownBlock] at q; subst q; exact hn)
theorem BoxAt.below {w w' : World} {base t sz g : Nat} {vs : List Value} (h : BoxAt w base t sz g vs) (hb : Below w.heap.size w w') : BoxAt w' base t sz g vs := h.chg (Chg.of_below hb) (S := fun _ => False) (fun q => q)
theorem BoxAt.cell {w : World} {base t sz g : Nat} {vs : List Value} (h : BoxAt w base t sz g vs) {j : Nat} {v : Value} (hv : vs[j]? = some v) : w.cell? ⟨g, j, none⟩ = some v := by
  have hj := (List.getElem?_eq_some_iff.1 hv).1
  rw [World.ownsRow.cellAt h j (by have := h.len; omega), hv]
theorem BoxAt.frozen {w : World} {base t sz g : Nat} {vs : List Value} (h : BoxAt w base t sz g vs) (j : Nat) : w.frozen? ⟨g, j, none⟩ = false := World.ownsRow.frozenAt h j
theorem BoxAt.set {w : World} {base t sz g : Nat} {vs : List Value} (h : BoxAt w base t sz g vs) (j : Nat) (u : Value) : BoxAt (w.setCell ⟨g, j, none⟩ u) base t sz g (vs.set j u) := (World.ownsRow.stored h j u).1
theorem BoxAt.beside {w : World} {base t sz g : Nat} {vs : List Value} (h : BoxAt w base t sz g vs) {k : Nat} (hk : ¬ g = k) (j : Nat) (u : Value) : BoxAt (w.setCell ⟨k, j, none⟩ u) base t sz g vs := h.chg (Chg.of_set w k j u (S := fun q => q = k) rfl) hk
theorem boxAt_new (w : World) {base t sz : Nat} (cs : Array Value) (hb : base ≤ w.heap.size) (hs : cs.size = sz) : BoxAt (w.alloc (.cells cs t)) base t sz w.heap.size cs.toList :=
  World.ownsRow_lit w cs 1 hb (by decide) (by omega)
/-- Three cells stored. -/
def set3 (w : World) (g : Nat) (a b c : Value) : World := ((w.setCell ⟨g, 0, none⟩ a).setCell ⟨g, 1, none⟩ b).setCell ⟨g, 2, none⟩ c
theorem BoxAt.set3 {w : World} {base t g : Nat} {vs : List Value} (h : BoxAt w base t 3 g vs) (a b c : Value) : BoxAt (set3 w g a b c) base t 3 g [a, b, c] := by
  have h1 := ((h.set 0 a).set 1 b).set 2 c
  have hl := h.len
  match vs, hl with
  | [x, y, z], _ => exact h1
theorem BoxAt.beside3 {w : World} {base t sz g : Nat} {vs : List Value} (h : BoxAt w base t sz g vs) {k : Nat} (hk : ¬ g = k) (a b c : Value) : BoxAt (Go.Proofs.YtgnpcenpcmdlfaaGreatDoor.set3 w k a b c) base t sz g vs :=
  ((h.beside hk 0 a).beside hk 1 b).beside hk 2 c
theorem below_set {B : Nat} {a w : World} (h : Below B a w) {k : Nat} (hk : B ≤ k) (j : Nat) (u : Value) : Below B a (w.setCell ⟨k, j, none⟩ u) := h.setCell (p := ⟨k, j, none⟩) hk u
theorem below_set3 {B : Nat} {a w : World} (h : Below B a w) {k : Nat} (hk : B ≤ k) (x y z : Value) : Below B a (set3 w k x y z) := below_set (below_set (below_set h hk 0 x) hk 1 y) hk 2 z
theorem size_set (w : World) (k j : Nat) (u : Value) : (w.setCell ⟨k, j, none⟩ u).heap.size = w.heap.size := by
  simp [World.setCell]
end Go.Proofs.YtgnpcenpcmdlfaaGreatDoor

/-
  Nodes of filters in memory: szNode, toNode, eqNode and their lists; filters that come in.
-/
namespace Go.Proofs.YtgnpcenpcmdlfaaGreatDoor
open Go.ChangeShapes Go.WideShapes Go.ChangeAt Go.RowKit Go.Deep
set_option linter.unusedVariables false
set_option linter.unusedSimpArgs false
set_option maxRecDepth 100000

structure Nd.ok (e : Nd) : Prop where
  s : e.s.size ≤ maxLen
  t : e.t.size ≤ maxLen
  kind : (Lit.int .i64 e.kind).wf = true
  lo : (Lit.int .u64 e.lo).wf = true
  up : (Lit.int .u64 e.up).wf = true
  n : (Lit.int .i64 e.n).wf = true
abbrev Nd.seven (e : Nd) : List Value := [.int .i64 e.kind, .string e.s, .bool e.hi, .string e.t, .int .u64 e.lo, .int .u64 e.up, .int .i64 e.n]
abbrev Nd.v (e : Nd) : Value := .agg #[.int .i64 e.kind, .string e.s, .bool e.hi, .string e.t, .int .u64 e.lo, .int .u64 e.up, .int .i64 e.n]
def zeroN : Nd := ⟨0, ⟨#[]⟩, false, ⟨#[]⟩, 0, 0, 0⟩
def cellsN (es : List Nd) : List Value := es.flatMap Nd.seven
theorem cellsN_cons (e : Nd) (es : List Nd) : cellsN (e :: es) = e.seven ++ cellsN es := by simp [cellsN]
theorem length_cellsN (es : List Nd) : (cellsN es).length = es.length * 7 := by
  induction es with
  | nil => rfl
  | cons e es ih => rw [cellsN_cons, List.length_append, ih]; simp; omega
theorem cellsN_get (es : List Nd) : ∀ (k : Nat) (e : Nd), es[k]? = some e → ∀ j, j < 7 → (cellsN es)[k * 7 + j]? = e.seven[j]? := by
  induction es with
  | nil => intro k e h; simp at h
  | cons f es ih =>
    intro k e h j hj
    rw [cellsN_cons]
    cases k with
    | zero =>
      simp at h; subst h
      rw [List.getElem?_append_left (by show 0 * 7 + j < 7; omega)]
      simp
    | succ k =>
      simp at h
      rw [List.getElem?_append_right (by show 7 ≤ (k + 1) * 7 + j; omega)]
      have : (k + 1) * 7 + j - f.seven.length = k * 7 + j := by show (k + 1) * 7 + j - 7 = _; omega
      rw [this]; exact ih k e h j hj
theorem cellsN_set (es : List Nd) : ∀ (k : Nat) (e e' : Nd) (u : Value) (j : Nat), es[k]? = some e → j < 7 → e'.seven = e.seven.set j u → (cellsN es).set (k * 7 + j) u = cellsN (es.set k e') := by
  induction es with
  | nil => intro k e e' u j h; simp at h
  | cons f es ih =>
    intro k e e' u j h hj hc
    rw [cellsN_cons]
    cases k with
    | zero =>
      simp at h; subst h
      rw [List.set_append_left _ _ (by show 0 * 7 + j < 7; omega), List.set_cons_zero, cellsN_cons, hc]
      simp
    | succ k =>
      simp at h
      rw [List.set_append_right _ _ (by show 7 ≤ (k + 1) * 7 + j; omega), List.set_cons_succ, cellsN_cons]
      have : (k + 1) * 7 + j - f.seven.length = k * 7 + j := by show (k + 1) * 7 + j - 7 = _; omega
      rw [this, ih k e e' u j h hj hc]

/-- The nodes 'es' lie at ⟨b, off⟩, seven cells each. -/
def NdsAt (w : World) (b off : Nat) (es : List Nd) : Prop :=
  ∀ i e, es[i]? = some e → w.cell? ⟨b, off + i * 7, none⟩ = some (.int .i64 e.kind) ∧ w.cell? ⟨b, off + i * 7 + 1, none⟩ = some (.string e.s) ∧ w.cell? ⟨b, off + i * 7 + 2, none⟩ = some (.bool e.hi) ∧ w.cell? ⟨b, off + i * 7 + 3, none⟩ = some (.string e.t) ∧ w.cell? ⟨b, off + i * 7 + 4, none⟩ = some (.int .u64 e.lo) ∧ w.cell? ⟨b, off + i * 7 + 5, none⟩ = some (.int .u64 e.up) ∧ w.cell? ⟨b, off + i * 7 + 6, none⟩ = some (.int .i64 e.n)
theorem NdsAt.below {B : Nat} {w w' : World} {b off : Nat} {es : List Nd} (h : NdsAt w b off es) (hb : Below B w w') (hlt : b < B) : NdsAt w' b off es := by
  intro i e he
  have := h i e he
  refine ⟨?_, ?_, ?_, ?_, ?_, ?_, ?_⟩
  all_goals rw [hb.cell (by exact hlt)]
  · exact this.1
  · exact this.2.1
  · exact this.2.2.1
  · exact this.2.2.2.1
  · exact this.2.2.2.2.1
  · exact this.2.2.2.2.2.1
  · exact this.2.2.2.2.2.2
/-- A row of the call's own holds the nodes 'es'. -/
def OwnNd (w : World) (base g cap : Nat) (es : List Nd) : Prop := w.ownsRow base 65 7 (.slice (some ⟨g, 0, none⟩) es.length cap) es.length (cellsN es)
theorem OwnNd.at {w : World} {base g cap : Nat} {es : List Nd} (h : OwnNd w base g cap es) : NdsAt w g 0 es := by
  intro i e he
  have hi : i < es.length := (List.getElem?_eq_some_iff.1 he).1
  have c := fun j (hj : j < 7) => (World.ownsRow.cellAt h (i * 7 + j) (by omega)).trans (cellsN_get es i e he j hj)
  refine ⟨?_, ?_, ?_, ?_, ?_, ?_, ?_⟩
  · simpa using c 0 (by omega)
  · simpa using c 1 (by omega)
  · simpa using c 2 (by omega)
  · simpa using c 3 (by omega)
  · simpa using c 4 (by omega)
  · simpa using c 5 (by omega)
  · simpa using c 6 (by omega)
theorem OwnNd.lt {w : World} {base g cap : Nat} {es : List Nd} (h : OwnNd w base g cap es) : base ≤ g ∧ g < w.heap.size := World.ownsRow.lt h g rfl
theorem OwnNd.below {B : Nat} {w w' : World} {base g cap : Nat} {es : List Nd} (h : OwnNd w base g cap es) (hb : Below B w w') (hg : g < B) : OwnNd w' base g cap es := by
  refine ⟨h.1, ?_⟩
  rcases h.2 with hn | ⟨g', cap', cur, hv, h1, h2, rest⟩
  · exact .inl hn
  · simp only [Value.slice.injEq, Option.some.injEq, Addr.mk.injEq, and_true, true_and] at hv
    obtain ⟨rfl, rfl⟩ := hv
    exact .inr ⟨g, cap, cur, rfl, h1, by rw [hb.block g hg]; exact h2, rest⟩
theorem OwnNd.mono {w : World} {base base' g cap : Nat} {es : List Nd} (h : OwnNd w base g cap es) (hb : base' ≤ base) : OwnNd w base' g cap es := by
  refine ⟨h.1, ?_⟩
  rcases h.2 with hn | ⟨g', cap', cur, hv, h1, rest⟩
  · exact .inl hn
  · exact .inr ⟨g', cap', cur, hv, Nat.le_trans hb h1, rest⟩
theorem OwnNd.caps {w : World} {base g cp : Nat} {R : List Nd} (h : OwnNd w base g cp R) : R.length ≤ cp ∧ cp ≤ maxLen := by
  rcases h.2 with ⟨h0, _⟩ | ⟨g', cap', cur, hv, _, _, hn, hcap, _, _⟩
  · cases h0
  · simp only [Value.slice.injEq, Option.some.injEq, Addr.mk.injEq, and_true, true_and] at hv
    obtain ⟨rfl, rfl⟩ := hv
    exact ⟨hn, hcap⟩
theorem OwnNd.set {w : World} {base g cap : Nat} {es : List Nd} (h : OwnNd w base g cap es) (k j : Nat) (e e' : Nd) (u : Value) (hk : es[k]? = some e) (hj : j < 7) (hc : e'.seven = e.seven.set j u) :
    OwnNd (w.setCell ⟨g, k * 7 + j, none⟩ u) base g cap (es.set k e') := by
  have := (World.ownsRow.stored h (k * 7 + j) u).1
  rw [cellsN_set es k e e' u j hk hj hc] at this
  unfold OwnNd
  rw [List.length_set]
  exact this
theorem Tryz.infoNd : (Tryz.prog.info? 65).map (fun i => (i.zero, i.size, i.bytes)) = some (some (.agg #[.int .i64 0, .string ⟨#[]⟩, .bool false, .string ⟨#[]⟩, .int .u64 0, .int .u64 0, .int .i64 0]), 7, 72) := by kernel_rfl
theorem OwnNd.put {w : World} {base g cap : Nat} {es : List Nd} (h : OwnNd w base g cap es) (k : Nat) (f e : Nd) (hk : es[k]? = some f) :
    OwnNd (((((((w.setCell ⟨g, k * 7, none⟩ (.int .i64 e.kind)).setCell ⟨g, k * 7 + 1, none⟩ (.string e.s)).setCell ⟨g, k * 7 + 2, none⟩ (.bool e.hi)).setCell ⟨g, k * 7 + 3, none⟩ (.string e.t)).setCell ⟨g, k * 7 + 4, none⟩ (.int .u64 e.lo)).setCell ⟨g, k * 7 + 5, none⟩ (.int .u64 e.up)).setCell ⟨g, k * 7 + 6, none⟩ (.int .i64 e.n)) base g cap (es.set k e) := by
  have hlt : k < es.length := (List.getElem?_eq_some_iff.1 hk).1
  have g1 := h.set k 0 f ({ f with kind := e.kind }) (.int .i64 e.kind) hk (by omega) rfl
  have g2 := g1.set k 1 ({ f with kind := e.kind }) ({ f with kind := e.kind, s := e.s }) (.string e.s) (by simp [hlt]) (by omega) rfl
  have g3 := g2.set k 2 ({ f with kind := e.kind, s := e.s }) ({ f with kind := e.kind, s := e.s, hi := e.hi }) (.bool e.hi) (by simp [hlt]) (by omega) rfl
  have g4 := g3.set k 3 ({ f with kind := e.kind, s := e.s, hi := e.hi }) ({ f with kind := e.kind, s := e.s, hi := e.hi, t := e.t }) (.string e.t) (by simp [hlt]) (by omega) rfl
  have g5 := g4.set k 4 ({ f with kind := e.kind, s := e.s, hi := e.hi, t := e.t }) ({ f with kind := e.kind, s := e.s, hi := e.hi, t := e.t, lo := e.lo }) (.int .u64 e.lo) (by simp [hlt]) (by omega) rfl
  have g6 := g5.set k 5 ({ f with kind := e.kind, s := e.s, hi := e.hi, t := e.t, lo := e.lo }) ({ f with kind := e.kind, s := e.s, hi := e.hi, t := e.t, lo := e.lo, up := e.up }) (.int .u64 e.up) (by simp [hlt]) (by omega) rfl
  have g7 := g6.set k 6 ({ f with kind := e.kind, s := e.s, hi := e.hi, t := e.t, lo := e.lo, up := e.up }) e (.int .i64 e.n) (by simp [hlt]) (by omega) rfl
  simpa only [List.set_set, Nat.add_zero] using g7
theorem below_put7 {B : Nat} {a w : World} (h : Below B a w) {g : Nat} (hg : B ≤ g) (o0 o1 o2 o3 o4 o5 o6 : Nat) (v0 v1 v2 v3 v4 v5 v6 : Value) :
    Below B a (((((((w.setCell ⟨g, o0, none⟩ v0).setCell ⟨g, o1, none⟩ v1).setCell ⟨g, o2, none⟩ v2).setCell ⟨g, o3, none⟩ v3).setCell ⟨g, o4, none⟩ v4).setCell ⟨g, o5, none⟩ v5).setCell ⟨g, o6, none⟩ v6) :=
  ((((((h.setCell hg _).setCell hg _).setCell hg _).setCell hg _).setCell hg _).setCell hg _).setCell hg _
theorem takeN_succ {es fs : List Nd} {k : Nat} {e : Nd} (h : fs.take k = es.take k) (hl : fs.length = es.length) (he : es[k]? = some e) : (fs.set k e).take (k + 1) = es.take (k + 1) := by
  have hlt : k < es.length := (List.getElem?_eq_some_iff.1 he).1
  rw [List.take_set, List.take_add_one, List.take_add_one (l := es), he, List.getElem?_eq_getElem (by omega), h]
  simp only [Option.toList]
  rw [List.set_append_right _ _ (by simp; omega)]
  simp
  rw [show k - min k es.length = 0 by omega]
  rfl

set_option maxHeartbeats 400000 in
theorem eqNode_same (e : Nd) (w : World) : Calls Tryz.prog 97 #[e.v, e.v] w fun r w' => r = .returned (.bool true) ∧ Below w.heap.size w w' := by
  go_enter Tryz.func97, Tryz.ntmps97
  go_wp2
  go_ret
  exact ⟨rfl, ((Below.refl _ _).alloc (Nat.le_refl _) _).alloc (by simp) _⟩
end Go.Proofs.YtgnpcenpcmdlfaaGreatDoor

/-
  A region that draws its order and in which an operation, a call, ends in a panic: one walk in the order of the text. That operation and those behind it are taken out by
  stand-ins that leave a mark; the values of its operands, as they are when all has come up, are those that it finds.
-/
namespace Go.Proofs.YtgnpcenpcmdlfaaGreatDoor
open Go.ChangeShapes Go.WideShapes Go.ChangeAt Go.RowKit Go.Deep
set_option linter.unusedVariables false
set_option linter.unusedSimpArgs false

variable {P : Program} {C : World → Prop}
/-- The stand-in. -/
def fk (m : Value) (o : Oper) : Oper := { o with op := .move (.const m) }
/-- Every operation that lays a slot that 'o' reads is waited for by it; its own slot is nobody else's; what stands behind it waits for it. -/
def waitsB (pre : List Oper) (o : Oper) (tl : List Oper) (d : Tmp) (sl : List Tmp) : Bool :=
  sl.all (fun s => s != d && ((List.range pre.length).all (fun i => match pre[i]? with
    | some oi => oi.dst != some s || o.after.any (fun e => Region.binds .any e && e.on == i)
    | none => true) && tl.all (fun oi => oi.dst != some s))) && pre.all (fun oi => oi.dst != some d) && tl.all (fun oi => oi.dst != some d && oi.after.any (fun e => Region.binds .any e && Nat.ble pre.length e.on))
theorem get_part (pre tl : List Oper) (i : Nat) : (pre ++ tl).toArray[i]? = if i < pre.length then pre[i]? else tl[i - pre.length]? := by
  rw [List.getElem?_toArray]
  by_cases h : i < pre.length
  · rw [if_pos h, List.getElem?_append_left h]
  · rw [if_neg h, List.getElem?_append_right (by omega)]
theorem ready_fk (m : Value) (pre tl : List Oper) (listed : Array Bool) : Region.ready .any (pre ++ tl.map (fk m)).toArray listed = Region.ready .any (pre ++ tl).toArray listed := by
  unfold Region.ready
  have hz : (pre ++ tl.map (fk m)).toArray.size = (pre ++ tl).toArray.size := by simp
  rw [hz]
  congr 1
  funext i
  rw [get_part, get_part]
  by_cases h : i < pre.length
  · rw [if_pos h, if_pos h]
  · rw [if_neg h, if_neg h, List.getElem?_map]
    cases tl[i - pre.length]? <;> rfl
theorem yielded_fk (m : Value) (pre tl : List Oper) (tmps : Array Value) : yielded (pre ++ tl.map (fk m)).toArray tmps = yielded (pre ++ tl).toArray tmps := by
  funext j
  unfold yielded
  rw [get_part, get_part]
  by_cases h : j < pre.length
  · rw [if_pos h, if_pos h]
  · rw [if_neg h, if_neg h, List.getElem?_map]
    cases tl[j - pre.length]? <;> rfl
theorem put_getD (a : Act) (dst : Option Tmp) (v : Value) (s : Tmp) (h : dst ≠ some s) : (a.put dst v).tmps.getD s undef = a.tmps.getD s undef := by
  cases dst with
  | none => rfl
  | some t =>
    have hts : t ≠ s := fun q => h (by rw [q])
    show (a.tmps.setIfInBounds t v).getD s undef = _
    rw [Array.getD_eq_getD_getElem?, Array.getD_eq_getD_getElem?, Array.getElem?_setIfInBounds_ne hts]
theorem put_defers (a : Act) (dst : Option Tmp) (v : Value) : (a.put dst v).defers = a.defers := by cases dst <;> rfl
theorem listed_set (listed : Array Bool) (i j : Nat) (d : Bool) (h : listed.getD j d = true) : (listed.setIfInBounds i true).getD j d = true := by
  rw [Array.getD_eq_getD_getElem?] at h ⊢
  by_cases q : i = j
  · subst q
    rw [Array.getElem?_setIfInBounds_self]
    split
    · rfl
    · next hl => rw [Array.getElem?_eq_none (by omega)] at h; exact h
  · rw [Array.getElem?_setIfInBounds_ne q]; exact h
/-- A slot that nobody lays any more holds what it holds at the end. -/
theorem slot_end {ops : Array Oper} {Q : Act → Prop} (s : Tmp) (x : Value) (hQ : ∀ a, Q a → a.tmps.getD s undef = x) : ∀ (fuel : Nat) (listed : Array Bool) (a : Act), wpAnyQ P .any ops C Q fuel listed a →
    (∀ i oi, ops[i]? = some oi → oi.dst = some s → listed.getD i true = true) → a.tmps.getD s undef = x
  | 0, listed, a, h, _ => hQ a h.2
  | fuel + 1, listed, a, h, hl => by
    cases hr : Region.ready .any ops listed with
    | nil => exact hQ a (h.1 hr)
    | cons i rest =>
      have hi : i ∈ Region.ready .any ops listed := by rw [hr]; simp
      have hq := h.2 i hi
      obtain ⟨hun, oi, hoi, _⟩ := mem_ready.1 hi
      have hd : oi.dst ≠ some s := fun e => by
        have := hl i oi hoi e
        rw [hun] at this; cases this
      have hl' : ∀ j oj, ops[j]? = some oj → oj.dst = some s → (listed.setIfInBounds i true).getD j true = true := fun j oj hj e => listed_set _ _ _ _ (hl j oj hj e)
      unfold qOp at hq
      simp only [hoi] at hq
      split at hq
      · obtain ⟨v, _, h2⟩ := hq
        have := slot_end s x hQ fuel _ _ h2 hl'
        rwa [put_getD _ _ _ _ hd] at this
      · have := slot_end s x hQ fuel _ _ hq hl'
        rwa [put_getD _ _ _ _ hd] at this
theorem any_of_fk {m : Value} {Q : Exit → Act → World → Prop} {pre tl : List Oper} {o : Oper} {D : List Deferred} (d : Tmp) (sl : List (Tmp × Value)) (hB2 : waitsB pre o tl d (sl.map (·.1)) = true) (hdst : o.dst = some d) (hg : o.guard = none)
    (hop : ∀ (a' : Act) (w' : World) (K : Act → World → Prop), C w' → a'.defers = D → (∀ p ∈ sl, a'.tmps.getD p.1 undef = p.2) → o.wp P a' w' K Q) :
    ∀ (fuel : Nat) (listed : Array Bool) (a : Act) (w : World), wpAnyQ P .any (pre ++ (o :: tl).map (fk m)).toArray C (fun a' => a'.tmps.getD d undef = m ∧ ∀ p ∈ sl, a'.tmps.getD p.1 undef = p.2) fuel listed a → C w →
      a.tmps.getD d undef ≠ m → a.defers = D → (∀ j, pre.length ≤ j → listed.getD j false = false) → wpAny P .any (pre ++ o :: tl).toArray Q fuel listed a w
  | 0, listed, a, w, h, _, hm, _, _ => absurd h.2.1 hm
  | fuel + 1, listed, a, w, h, hw, hm, hD, hJ => by
    have hB3 := hB2
    simp only [waitsB, Bool.and_eq_true, List.all_eq_true] at hB2
    obtain ⟨⟨hS, hP⟩, hT⟩ := hB2
    refine ⟨fun hr => absurd (h.1 (by rw [ready_fk]; exact hr)).1 hm, fun i hi => ?_⟩
    have hq := h.2 i (by rw [ready_fk]; exact hi)
    obtain ⟨hun, oi, hoi, hdep⟩ := mem_ready.1 hi
    rw [get_part] at hoi
    unfold wpOp
    unfold qOp at hq
    rw [get_part] at hq ⊢
    by_cases hlt : i < pre.length
    · rw [if_pos hlt] at hoi hq ⊢
      have hne : oi.dst ≠ some d := by
        have := hP oi (List.mem_of_getElem? hoi)
        simpa using this
      have hJ' : ∀ j, pre.length ≤ j → (listed.setIfInBounds i true).getD j false = false := by
        intro j hj
        have := hJ j hj
        rw [Array.getD_eq_getD_getElem?] at this ⊢
        rw [Array.getElem?_setIfInBounds_ne (by omega)]
        exact this
      simp only [hoi] at hq ⊢
      rw [yielded_fk] at hq
      split
      · next hwt =>
        rw [if_pos hwt] at hq
        obtain ⟨v, h1, h2⟩ := hq
        refine .inl (Oper.wp_of_quiet (K := fun a' => wpAnyQ P .any (pre ++ (o :: tl).map (fk m)).toArray C (fun a' => a'.tmps.getD d undef = m ∧ ∀ p ∈ sl, a'.tmps.getD p.1 undef = p.2) fuel (listed.setIfInBounds i true) a' ∧ a'.tmps.getD d undef ≠ m ∧ a'.defers = D) hw ?_ ⟨v, h1, h2, by rw [put_getD _ _ _ _ hne]; exact hm, by rw [put_defers]; exact hD⟩)
        intro a' w' hw' hk
        exact any_of_fk d sl hB3 hdst hg hop fuel _ a' w' hk.1 hw' hk.2.1 hk.2.2 hJ'
      · next hwt =>
        rw [if_neg hwt] at hq
        exact any_of_fk d sl hB3 hdst hg hop fuel _ _ w hq hw (by rw [put_getD _ _ _ _ hne]; exact hm) (by rw [put_defers]; exact hD) hJ'
    · rw [if_neg hlt] at hoi hq ⊢
      by_cases hn : i = pre.length
      · rw [hn, Nat.sub_self] at hoi hq ⊢
        simp only [List.getElem?_cons_zero, List.map_cons, Option.some.injEq] at hoi hq ⊢
        have hw1 : ∀ y, Region.wanted o y = true := fun y => by unfold Region.wanted; rw [hg]
        have hw2 : ∀ y, Region.wanted (fk m o) y = true := fun y => by unfold Region.wanted; show (match o.guard with | none => true | some (j, want) => y j == some want) = true; rw [hg]
        simp only [hw1, hw2, if_true] at hq ⊢
        obtain ⟨v, _, h2⟩ := hq
        refine .inl (hop a w _ hw hD fun p hp => ?_)
        have hps := hS p.1 (List.mem_map.2 ⟨p, hp, rfl⟩)
        have hpd : (some d : Option Tmp) ≠ some p.1 := by
          have := hps.1
          intro q
          cases q
          simp at this
        have h3 := slot_end (C := C) p.1 p.2 (fun a' h => h.2 p hp) fuel _ _ h2 (by
          intro j oj hj e
          rw [get_part] at hj
          by_cases hjl : j < pre.length
          · rw [if_pos hjl] at hj
            have h4 := hps.2.1 j (List.mem_range.2 hjl)
            simp only [hj, Bool.or_eq_true] at h4
            rcases h4 with h4 | h4
            · rw [e] at h4; simp at h4
            · rw [Array.any_eq_true'] at h4
              obtain ⟨ed, hed, h5⟩ := h4
              simp only [Bool.and_eq_true, beq_iff_eq] at h5
              have h6 := hdep ed (by rw [← hoi]; exact hed) h5.1
              rw [h5.2] at h6
              refine listed_set _ _ _ _ ?_
              rw [Array.getD_eq_getD_getElem?] at h6 ⊢
              cases hx : listed[j]? with
              | none => rfl
              | some y => rw [hx] at h6; exact h6
          · rw [if_neg hjl] at hj
            obtain ⟨k, hk⟩ : ∃ k, j - pre.length = k := ⟨_, rfl⟩
            rw [hk, ← List.map_cons, List.getElem?_map] at hj
            cases k with
            | zero =>
              simp only [List.getElem?_cons_zero, Option.map_some, Option.some.injEq] at hj
              rw [← hj] at e
              exact absurd (hdst.symm.trans e) hpd
            | succ k =>
              simp only [List.getElem?_cons_succ] at hj
              cases ht : tl[k]? with
              | none => rw [ht] at hj; cases hj
              | some ot =>
                rw [ht] at hj
                simp only [Option.map_some, Option.some.injEq] at hj
                have h7 := hps.2.2 ot (List.mem_of_getElem? ht)
                rw [← hj] at e
                have e2 : ot.dst = some p.1 := e
                rw [e2] at h7
                simp at h7)
        have hfd : (fk m o).dst = some d := hdst
        rwa [hfd, put_getD _ _ _ _ hpd] at h3
      · exfalso
        obtain ⟨k, hk⟩ : ∃ k, i - pre.length = k + 1 := ⟨i - pre.length - 1, by omega⟩
        rw [hk] at hoi
        simp only [List.getElem?_cons_succ] at hoi
        have h8 := hT oi (List.mem_of_getElem? hoi)
        rw [Array.any_eq_true'] at h8
        obtain ⟨ed, hed, h9⟩ := h8.2
        simp only [Bool.and_eq_true] at h9
        have h10 := hdep ed hed h9.1
        rw [hJ ed.on (Nat.le_of_ble_eq_true h9.2)] at h10
        cases h10
/-- The region. -/
theorem wp_region_dies {id : Nat} {Q : Exit → Act → World → Prop} {a : Act} {w : World} (pre : List Oper) (o : Oper) (tl : List Oper) (d : Tmp) (sl : List (Tmp × Value)) (l : List Oper) (hl : l = pre ++ o :: tl) (hm : P.follows .mixedOrders = true) (hB : ∀ m, Region.lexB .any (pre ++ (o :: tl).map (fk m)).toArray = true)
    (hB2 : waitsB pre o tl d (sl.map (·.1)) = true) (hdst : o.dst = some d) (hg : o.guard = none) (hC : C { w with drawn := w.drawn + 1 })
    (h : ∀ m, wpQuiet P (pre ++ (o :: tl).map (fk m)).toArray C (fun a' => a'.tmps.getD d undef = m ∧ ∀ p ∈ sl, a'.tmps.getD p.1 undef = p.2) (pre ++ (o :: tl).map (fk m)) a)
    (hop : ∀ (a' : Act) (w' : World) (K : Act → World → Prop), C w' → a'.defers = a.defers → (∀ p ∈ sl, a'.tmps.getD p.1 undef = p.2) → o.wp P a' w' K Q) : (Code.region id l.toArray true).wp P Q a w := by
  subst hl
  obtain ⟨m, h0⟩ : ∃ m, a.tmps.getD d undef ≠ m := by
    by_cases q : a.tmps.getD d undef = .bool true
    · exact ⟨.bool false, by rw [q]; intro e; cases e⟩
    · exact ⟨.bool true, q⟩
  have hBm := hB m
  simp only [Region.lexB, Bool.and_eq_true] at hBm
  refine wp_region_any hm ?_
  have h1 := wpAnyQ_lex (C := C) (md := .any) hBm.1 (pre ++ (o :: tl).map (fk m)) 0 (Array.replicate (pre ++ (o :: tl).map (fk m)).toArray.size false) a (by simp) (by simpa using hBm.2) (h m)
  have hz : (pre ++ o :: tl).toArray.size = (pre ++ (o :: tl).map (fk m)).length := by simp
  rw [hz]
  have hz2 : (pre ++ (o :: tl).map (fk m)).toArray.size = (pre ++ (o :: tl).map (fk m)).length := by simp
  rw [hz2] at h1
  refine any_of_fk d sl hB2 hdst hg hop _ _ _ _ h1 hC h0 rfl ?_
  intro j _
  rw [Array.getD_eq_getD_getElem?, Array.getElem?_replicate]
  split <;> rfl
end Go.Proofs.YtgnpcenpcmdlfaaGreatDoor

/-
  A region that draws its order, whose operations read and whose callees leave alone what lay there: one walk.
-/
namespace Go.Proofs.YtgnpcenpcmdlfaaGreatDoor
open Go.ChangeShapes Go.WideShapes Go.ChangeAt Go.RowKit Go.Deep
set_option linter.unusedVariables false

/-- A world that has grown out of 'w'. -/
structure Out (w : World) where
  u : World
  out : Below w.heap.size w u

theorem wp_region_out {id : Nat} {Q : Exit → Act → World → Prop} {a : Act} {w : World} {l : List Oper} (hm : Tryz.prog.follows .mixedOrders = true) (hB : Region.lexB .any l.toArray = true)
    (h : wpQuiet Tryz.prog l.toArray (fun w' => ∃ n : Out w, w' = n.u) (fun a' => ∀ w', (∃ n : Out w, w' = n.u) → Q .normal a' w') l a) : (Code.region id l.toArray true).wp Tryz.prog Q a w :=
  wp_region_quiet (C := fun w' => ∃ n : Out w, w' = n.u) hm hB ⟨⟨_, (Below.refl _ _).drew⟩, rfl⟩ (by simpa using h)
theorem Calls.out_of {f : FuncId} {args : Array Value} {w : World} {n : Out w} {v : Value}
    (h : Calls Tryz.prog f args n.u fun e w' => e = .returned v ∧ Below n.u.heap.size n.u w') : Calls Tryz.prog f args n.u fun e w'' => e = .returned v ∧ ∃ m : Out w, w'' = m.u :=
  h.mono fun _ w' ⟨he, hb⟩ => ⟨he, ⟨w', n.out.trans (hb.mono n.out.size)⟩, rfl⟩
theorem ents_out {w : World} {b off j : Nat} {L : List Ent} {x : Ent} (h : EntsAt w b off L) (hb : b < w.heap.size) (hx : L[j]? = some x) :
    (∀ n : Out w, n.u.cell? ⟨b, off + j * 6, none⟩ = some (.string x.row)) ∧ (∀ n : Out w, n.u.cell? ⟨b, off + j * 6 + 1, none⟩ = some (.string x.fam)) ∧ (∀ n : Out w, n.u.cell? ⟨b, off + j * 6 + 2, none⟩ = some (.string x.qual)) ∧
    (∀ n : Out w, n.u.cell? ⟨b, off + j * 6 + 3, none⟩ = some (.int .u64 x.ts)) ∧ (∀ n : Out w, n.u.cell? ⟨b, off + j * 6 + 4, none⟩ = some (.int .i64 x.kind)) ∧ (∀ n : Out w, n.u.cell? ⟨b, off + j * 6 + 5, none⟩ = some (.string x.val)) :=
  ⟨fun n => (h.below n.out hb j x hx).1, fun n => (h.below n.out hb j x hx).2.1, fun n => (h.below n.out hb j x hx).2.2.1, fun n => (h.below n.out hb j x hx).2.2.2.1, fun n => (h.below n.out hb j x hx).2.2.2.2.1, fun n => (h.below n.out hb j x hx).2.2.2.2.2⟩
end Go.Proofs.YtgnpcenpcmdlfaaGreatDoor

/-
  (*impl.patternReader): demand, nextIn, take, skip, classByte; strings.IndexByte.
-/
namespace Go.Proofs.YtgnpcenpcmdlfaaGreatDoor
open Go.ChangeShapes Go.WideShapes Go.ChangeAt Go.RowKit Go.Deep
set_option linter.unusedVariables false
set_option linter.unusedSimpArgs false
set_option maxRecDepth 100000

/-- A panic with a placed fault. -/
abbrev pfV (c a : Int) : Value := .iface 46 (.agg #[.int .i64 c, .int .i64 a])
abbrev Pf (c a : Int) : Ending := .panicked [{ v := pfV c a, recovered := false }]
/-- The bytes of a string. -/
abbrev sb (s : ByteArray) : List UInt8 := s.data.toList
theorem sb_len (s : ByteArray) : (sb s).length = s.size := by simp [sb]
theorem sb_get {s : ByteArray} {i : Nat} {x : UInt8} (h : (sb s)[i]? = some x) : ∃ hi : i < s.size, s[i] = x := by
  have hi := (List.getElem?_eq_some_iff.1 h).1
  rw [sb_len] at hi
  refine ⟨hi, ?_⟩
  rw [List.getElem?_eq_getElem (by rw [sb_len]; exact hi)] at h
  exact Option.some.inj h

set_option maxHeartbeats 1000000 in
theorem stringsIndexByte_any (s : ByteArray) (c : UInt8) (w : World) :
    Calls Tryz.prog 61 #[.string s, .int .u8 (c.toNat : Int)] w fun e w' => e = .returned (.int .i64 (Lib.indexByte (sb s) c)) ∧ w' = w := by
  have H : Calls Tryz.prog 94 #[.string s, .int .u8 (c.toNat : Int)] w fun e w' => e = .returned (.int .i64 (Lib.indexByte (sb s) c)) ∧ w' = w := by
    go_enter Tryz.func94, Tryz.ntmps94
    go_wp2
    rw [run_callFunc_extern Tryz.func113 (by kernel_rfl) (by kernel_rfl) (by kernel_rfl) (e := Extern.BytealgIndexByte.indexByte) (by kernel_rfl), Lib.run_indexByteString]
    simp only [Result.andThen]
    rw [Oper.upon_value]
    go_wp2
    go_ret
    exact ⟨by simp, rfl⟩
  go_enter Tryz.func61, Tryz.ntmps61
  go_wp2_with (go_at_call 94; refine H.mono ?_; rintro e w' ⟨rfl, rfl⟩)
  go_ret
  exact ⟨rfl, rfl⟩
theorem indexByte_neg : ∀ (l : List UInt8) (c : UInt8), -1 ≤ Lib.indexByte l c ∧ (0 ≤ Lib.indexByte l c ↔ c ∈ l)
  | [], c => by simp [Lib.indexByte]
  | b :: l, c => by
    have ih := indexByte_neg l c
    unfold Lib.indexByte
    by_cases h : b = c
    · subst h; simp
    · have h2 : ¬ c = b := fun q => h q.symm
      by_cases h3 : Lib.indexByte l c = -1
      · have h4 : ¬ c ∈ l := fun q => by have := ih.2.2 q; omega
        simp [h, h2, h3, h4]
      · have h4 : c ∈ l := ih.2.1 (by omega)
        simp [h, h2, h3, h4]
        omega

/-- A reader in memory. -/
abbrev PrAt (w : World) (base g : Nat) (p : ByteArray) (i o : Nat) : Prop := BoxAt w base 181 3 g [.string p, .int .i64 (i : Int), .int .i64 (o : Int)]

set_option maxHeartbeats 1000000 in
theorem pdem_yes (v : Value) (w : World) : Calls Tryz.prog 143 #[v, .bool true] w fun e w' => e = .returned (.tuple #[]) ∧ w' = w := by
  go_enter Tryz.func143, Tryz.ntmps143
  go_wp2_with fail
  go_end0
  exact ⟨rfl, rfl⟩
set_option maxHeartbeats 1000000 in
theorem pdem_no {base g i o : Nat} {p : ByteArray} {w : World} (h : PrAt w base g p i o) : Calls Tryz.prog 143 #[.pointer (some ⟨g, 0, none⟩), .bool false] w fun e w' => e = Pf 2 i ∧ w' = w := by
  have c1 := h.cell (j := 1) rfl
  clear h
  go_enter Tryz.func143, Tryz.ntmps143
  go_wp2_with fail
  exact ⟨rfl, rfl, rfl⟩
theorem pdem_core (c : Bool) {base g i o : Nat} {p : ByteArray} {w : World} (h : PrAt w base g p i o) : Calls Tryz.prog 143 #[.pointer (some ⟨g, 0, none⟩), .bool c] w fun e w' => w' = w ∧ ((c = true ∧ e = .returned (.tuple #[])) ∨ (c = false ∧ e = Pf 2 i)) := by
  cases c with
  | true => exact (pdem_yes _ w).mono fun e w' ⟨he, hw⟩ => ⟨hw, .inl ⟨rfl, he⟩⟩
  | false => exact (pdem_no h).mono fun e w' ⟨he, hw⟩ => ⟨hw, .inr ⟨rfl, he⟩⟩

/-- Whether the next byte is one of these. -/
def inB (p : List UInt8) (i : Nat) (l : List UInt8) : Bool := match p[i]? with | some c => decide (c ∈ l) | none => false

set_option maxHeartbeats 2000000 in
theorem pnextIn_core {base g i o : Nat} {p : ByteArray} (s : ByteArray) {w : World} (h : PrAt w base g p i o) (hp : p.size ≤ 200) :
    Calls Tryz.prog 160 #[.pointer (some ⟨g, 0, none⟩), .string s] w fun e w' => e = .returned (.bool (inB (sb p) i (sb s))) ∧ Below w.heap.size w w' := by
  have hlt := h.lt.2
  have c0 := h.cell (j := 0) rfl
  have c1 := h.cell (j := 1) rfl
  have e0 : ∀ n : Out w, n.u.cell? ⟨g, 0, none⟩ = some (.string p) := fun n => (n.out.cell (p := ⟨g, 0, none⟩) hlt).trans c0
  have e1 : ∀ n : Out w, n.u.cell? ⟨g, 1, none⟩ = some (.int .i64 (i : Int)) := fun n => (n.out.cell (p := ⟨g, 1, none⟩) hlt).trans c1
  clear h c0 c1
  by_cases hi : i < p.size
  · obtain ⟨x, hx⟩ : ∃ x, (sb p)[i]? = some x := ⟨_, List.getElem?_eq_getElem (by rw [sb_len]; exact hi)⟩
    obtain ⟨_, gx⟩ := sb_get hx
    have z1 : (i : Int) < (p.size : Int) := by omega
    obtain ⟨r, hr⟩ : ∃ r, r = Lib.indexByte (sb s) x := ⟨_, rfl⟩
    have HR : Hid (r = Lib.indexByte (sb s) x ∧ inB (sb p) i (sb s) = decide (0 ≤ r)) := by
      refine ⟨hr, ?_⟩
      unfold inB
      rw [hx, hr]
      exact decide_eq_decide.2 (indexByte_neg _ _).2.symm
    have HI : Hid (∀ n : Out w, Calls Tryz.prog 61 #[.string s, .int .u8 (x.toNat : Int)] n.u fun e w' => e = .returned (.int .i64 r) ∧ Below n.u.heap.size n.u w') := fun n => by
      rw [HR.out.1]
      exact (stringsIndexByte_any s x n.u).mono fun e w' ⟨he, hw⟩ => ⟨he, hw ▸ Below.refl _ _⟩
    rw [HR.out.2]
    clear hx hr
    go_enter Tryz.func160, Tryz.ntmps160
    go_upto_region 1 with fail
    refine wp_region_out (by kernel_rfl) (by kernel_rfl) ?_
    repeat (go_big_quiet_step ((first | rfl | (go_at_call 61; exact Calls.out_of (HI.out _)))))
    refine wpQuiet_nil ?_
    rintro w1 ⟨⟨wx, hb1⟩, rfl⟩
    go_wp2_with fail
    go_ret
    exact ⟨rfl, hb1⟩
  · have z1 : ¬ (i : Int) < (p.size : Int) := by omega
    have HR : inB (sb p) i (sb s) = false := by
      unfold inB
      rw [List.getElem?_eq_none (by rw [sb_len]; omega)]
    rw [HR]
    clear HR
    go_enter Tryz.func160, Tryz.ntmps160
    go_upto_region 1 with fail
    refine wp_region_out (by kernel_rfl) (by kernel_rfl) ?_
    repeat (go_big_quiet_step (rfl))
    refine wpQuiet_nil ?_
    rintro w1 ⟨⟨wx, hb1⟩, rfl⟩
    go_wp2_with fail
    go_ret
    exact ⟨rfl, hb1⟩

/-- The reader one byte further. -/
theorem PrAt.next {w : World} {base g i o : Nat} {p : ByteArray} (h : PrAt w base g p i o) : PrAt (w.setCell ⟨g, 1, none⟩ (.int .i64 ((i : Int) + 1))) base g p (i + 1) o := BoxAt.set h 1 (.int .i64 ((i : Int) + 1))

set_option maxHeartbeats 2000000 in
theorem ptake_yes {base g i o : Nat} {p : ByteArray} {x : UInt8} {w : World} (h : PrAt w base g p i o) (hp : p.size ≤ 200) (hx : (sb p)[i]? = some x) :
    Calls Tryz.prog 166 #[.pointer (some ⟨g, 0, none⟩)] w fun e w' => e = .returned (.int .u8 (x.toNat : Int)) ∧ PrAt w' base g p (i + 1) o ∧ Chg (fun k => k = g) w w' := by
  have HP : Hid (PrAt w base g p i o) := h
  obtain ⟨hi, gx⟩ := sb_get hx
  have c0 := h.cell (j := 0) rfl
  have c1 := h.cell (j := 1) rfl
  have f1 := h.frozen 1
  have z1 : (i : Int) < (p.size : Int) := by omega
  clear h hx
  go_enter Tryz.func166, Tryz.ntmps166
  go_upto_region 1 with fail
  go_quiet ((go_at_call 143; exact Calls.quiet_of_same (pdem_yes _ _)))
  go_upto_region 2 with fail
  obtain ⟨W1, hW1⟩ : ∃ W1 : World, W1 = w.drewN nq := ⟨_, rfl⟩
  have hb1 : Below w.heap.size w W1 := by rw [hW1]; exact below_drewN (Below.refl _ _) _
  have HP1 : Hid (PrAt W1 base g p i o) := HP.out.below hb1
  rw [← hW1]
  clear hW1 c0 c1 f1
  have c0 := HP1.out.cell (j := 0) rfl
  have c1 := HP1.out.cell (j := 1) rfl
  have f1 := HP1.out.frozen 1
  go_quiet (rfl)
  go_wp2_with fail
  go_ret
  have hb2 : Below w.heap.size w (W1.drewN nq) := hb1.trans ((below_drewN (Below.refl _ _) _).mono hb1.size)
  exact ⟨rfl, PrAt.next (BoxAt.below HP.out hb2), (Chg.of_below hb2).trans (Chg.of_set _ g 1 _ rfl)⟩

/-- A region whose last operation is a demand of the reader's that does not hold. -/
theorem wp_region_pdem {id : Nat} {Q : Exit → Act → World → Prop} {a : Act} {w : World} {l : List Oper} {base g i o : Nat} {p : ByteArray} (d s c : Tmp) {tys : Array TypeId} {ty : TypeId} {pos : String} {aft : Array Edge} (hP : PrAt w base g p i o)
    (ho : l.getLast? = some ⟨some d, .call { callee := .value (.func 143), args := #[.tmp s, .tmp c], argTypes := tys }, ty, pos, aft, none⟩)
    (hB : ∀ m, Region.lexB .any (l.dropLast ++ [fk m ⟨some d, .call { callee := .value (.func 143), args := #[.tmp s, .tmp c], argTypes := tys }, ty, pos, aft, none⟩]).toArray = true)
    (hB2 : waitsB l.dropLast ⟨some d, .call { callee := .value (.func 143), args := #[.tmp s, .tmp c], argTypes := tys }, ty, pos, aft, none⟩ [] d [s, c] = true)
    (hQ : ∀ (a' : Act) (w' : World), Below w.heap.size w w' → a'.defers = a.defers → Q (.panic [{ v := pfV 2 i, recovered := false }]) a' w')
    (h : ∀ m, wpQuiet Tryz.prog (l.dropLast ++ [fk m ⟨some d, .call { callee := .value (.func 143), args := #[.tmp s, .tmp c], argTypes := tys }, ty, pos, aft, none⟩]).toArray (fun w' => ∃ n : Out w, w' = n.u) (fun a' => a'.tmps.getD d undef = m ∧ ∀ q ∈ [(s, Value.pointer (some ⟨g, 0, none⟩)), (c, .bool false)], a'.tmps.getD q.1 undef = q.2) (l.dropLast ++ [fk m ⟨some d, .call { callee := .value (.func 143), args := #[.tmp s, .tmp c], argTypes := tys }, ty, pos, aft, none⟩]) a) :
    (Code.region id l.toArray true).wp Tryz.prog Q a w := by
  have hl : l = l.dropLast ++ [⟨some d, .call { callee := .value (.func 143), args := #[.tmp s, .tmp c], argTypes := tys }, ty, pos, aft, none⟩] := by
    obtain ⟨l', hl'⟩ := List.getLast?_eq_some_iff.1 ho
    rw [hl']; simp
  refine wp_region_dies (C := fun w' => ∃ n : Out w, w' = n.u) l.dropLast _ [] d [(s, Value.pointer (some ⟨g, 0, none⟩)), (c, .bool false)] l hl (by kernel_rfl) hB hB2 rfl rfl ⟨⟨_, (Below.refl _ _).drew⟩, rfl⟩ h ?_
  rintro a' w' K ⟨n, rfl⟩ hd hp
  have h1 : a'.tmps.getD s undef = .pointer (some ⟨g, 0, none⟩) := hp (s, _) (by simp)
  have h2 : a'.tmps.getD c undef = .bool false := hp (c, _) (by simp)
  have h3 : a'.tmps[s]?.getD undef = .pointer (some ⟨g, 0, none⟩) := by rw [← Array.getD_eq_getD_getElem?]; exact h1
  have h4 : a'.tmps[c]?.getD undef = .bool false := by rw [← Array.getD_eq_getD_getElem?]; exact h2
  unfold Oper.wp
  have hrun : (execOp a'.eval ⟨some d, .call { callee := .value (.func 143), args := #[.tmp s, .tmp c], argTypes := tys }, ty, pos, aft, none⟩).run Tryz.prog n.u = .ok (.enter 143 #[.pointer (some ⟨g, 0, none⟩), .bool false]) n.u := by
    simp [execOp, h3, h4, go_sem, Act.eval, Tryz.func143]
  rw [hrun, Oper.upon_enter]
  refine (pdem_no (BoxAt.below hP n.out)).mono ?_
  rintro e w'' ⟨rfl, rfl⟩
  exact hQ a' n.u n.out hd
theorem pslots2 {a' : Act} {s t : Tmp} {x y : Value} (h : a'.tmps.getD s undef = x) (h2 : a'.tmps.getD t undef = y) : ∀ p ∈ [(s, x), (t, y)], a'.tmps.getD p.1 undef = p.2 := by
  intro p hp
  rcases List.mem_cons.1 hp with rfl | hp
  · exact h
  · rcases List.mem_cons.1 hp with rfl | hp
    · exact h2
    · cases hp

set_option maxHeartbeats 2000000 in
theorem ptake_no {base g i o : Nat} {p : ByteArray} {w : World} (h : PrAt w base g p i o) (hp : p.size ≤ 200) (hx : ¬ i < p.size) :
    Calls Tryz.prog 166 #[.pointer (some ⟨g, 0, none⟩)] w fun e w' => e = Pf 2 i ∧ Below w.heap.size w w' := by
  have HP : Hid (PrAt w base g p i o) := h
  have hlt := h.lt.2
  have c0 := h.cell (j := 0) rfl
  have c1 := h.cell (j := 1) rfl
  have e0 : ∀ n : Out w, n.u.cell? ⟨g, 0, none⟩ = some (.string p) := fun n => (n.out.cell (p := ⟨g, 0, none⟩) hlt).trans c0
  have e1 : ∀ n : Out w, n.u.cell? ⟨g, 1, none⟩ = some (.int .i64 (i : Int)) := fun n => (n.out.cell (p := ⟨g, 1, none⟩) hlt).trans c1
  have z1 : ¬ (i : Int) < (p.size : Int) := by omega
  clear h c0 c1
  go_enter Tryz.func166, Tryz.ntmps166
  go_upto_region 1 with fail
  refine wp_region_pdem 15 4 14 HP.out rfl (fun m => by kernel_rfl) (by kernel_rfl) ?q ?_
  case q => exact fun a' w' hb hd => ⟨hd, rfl, hb⟩
  intro m
  dsimp only [List.dropLast, fk, List.cons_append, List.nil_append]
  repeat (go_big_quiet_step (rfl))
  refine wpQuiet_nil ?_
  exact ⟨rfl, pslots2 rfl rfl⟩
theorem ptake_core {base g i o : Nat} {p : ByteArray} {w : World} (h : PrAt w base g p i o) (hp : p.size ≤ 200) (hi : i ≤ p.size) :
    Calls Tryz.prog 166 #[.pointer (some ⟨g, 0, none⟩)] w fun e w' => Chg (fun k => k = g) w w' ∧
      ((∃ x : UInt8, (sb p)[i]? = some x ∧ e = .returned (.int .u8 (x.toNat : Int)) ∧ PrAt w' base g p (i + 1) o) ∨ ((sb p)[i]? = none ∧ e = Pf 2 i)) := by
  by_cases hx : i < p.size
  · obtain ⟨x, hx⟩ : ∃ x, (sb p)[i]? = some x := ⟨_, List.getElem?_eq_getElem (by rw [sb_len]; exact hx)⟩
    exact (ptake_yes h hp hx).mono fun e w' ⟨he, h1, h2⟩ => ⟨h2, .inl ⟨x, hx, he, h1⟩⟩
  · exact (ptake_no h hp hx).mono fun e w' ⟨he, h1⟩ => ⟨Chg.of_below h1, .inr ⟨List.getElem?_eq_none (by rw [sb_len]; omega), he⟩⟩

set_option maxHeartbeats 2000000 in
theorem pskip_core {base g i o : Nat} {p : ByteArray} (c : UInt8) {w : World} (h : PrAt w base g p i o) (hp : p.size ≤ 200) :
    Calls Tryz.prog 153 #[.pointer (some ⟨g, 0, none⟩), .int .u8 (c.toNat : Int)] w fun e w' => Chg (fun k => k = g) w w' ∧
      (((sb p)[i]? = some c ∧ e = .returned (.bool true) ∧ PrAt w' base g p (i + 1) o) ∨ (¬ (sb p)[i]? = some c ∧ e = .returned (.bool false) ∧ PrAt w' base g p i o)) := by
  have HP : Hid (PrAt w base g p i o) := h
  have hlt := h.lt.2
  have c0 := h.cell (j := 0) rfl
  have c1 := h.cell (j := 1) rfl
  have e0 : ∀ n : Out w, n.u.cell? ⟨g, 0, none⟩ = some (.string p) := fun n => (n.out.cell (p := ⟨g, 0, none⟩) hlt).trans c0
  have e1 : ∀ n : Out w, n.u.cell? ⟨g, 1, none⟩ = some (.int .i64 (i : Int)) := fun n => (n.out.cell (p := ⟨g, 1, none⟩) hlt).trans c1
  clear h c0 c1
  by_cases hi : i < p.size
  · obtain ⟨x, hx⟩ : ∃ x, (sb p)[i]? = some x := ⟨_, List.getElem?_eq_getElem (by rw [sb_len]; exact hi)⟩
    obtain ⟨_, gx⟩ := sb_get hx
    have z1 : (i : Int) < (p.size : Int) := by omega
    by_cases hxc : x = c
    · subst hxc
      have HF : Hid ((sb p)[i]? = some x) := hx
      clear hx
      go_enter Tryz.func153, Tryz.ntmps153
      go_upto_region 1 with fail
      refine wp_region_out (by kernel_rfl) (by kernel_rfl) ?_
      repeat (go_big_quiet_step (rfl))
      refine wpQuiet_nil ?_
      rintro w1 ⟨⟨wx, hb1⟩, rfl⟩
      have HP1 : Hid (PrAt w1 base g p i o) := BoxAt.below HP.out hb1
      have c1 := HP1.out.cell (j := 1) rfl
      have f1 := HP1.out.frozen 1
      clear e0 e1
      go_wp2_with fail
      go_ret
      exact ⟨(Chg.of_below hb1).trans (Chg.of_set _ g 1 _ rfl), .inl ⟨HF.out, rfl, PrAt.next HP1.out⟩⟩
    · have HF : Hid (¬ (sb p)[i]? = some c) := by
        show ¬ (sb p)[i]? = some c
        rw [hx]
        exact fun q => hxc (Option.some.inj q)
      have z2 : ¬ (x.toNat : Int) = (c.toNat : Int) := fun q => hxc (UInt8.toNat_inj.1 (by omega))
      clear hx hxc
      go_enter Tryz.func153, Tryz.ntmps153
      go_upto_region 1 with fail
      refine wp_region_out (by kernel_rfl) (by kernel_rfl) ?_
      repeat (go_big_quiet_step (rfl))
      refine wpQuiet_nil ?_
      rintro w1 ⟨⟨wx, hb1⟩, rfl⟩
      have HP1 : Hid (PrAt w1 base g p i o) := BoxAt.below HP.out hb1
      clear e0 e1
      go_wp2_with fail
      go_ret
      exact ⟨Chg.of_below hb1, .inr ⟨HF.out, congrArg (fun b => Ending.returned (.bool b)) (beq_eq_false_iff_ne.2 z2), HP1.out⟩⟩
  · have z1 : ¬ (i : Int) < (p.size : Int) := by omega
    have HF : Hid (¬ (sb p)[i]? = some c) := by
      show ¬ (sb p)[i]? = some c
      rw [List.getElem?_eq_none (by rw [sb_len]; omega)]
      exact fun q => by cases q
    go_enter Tryz.func153, Tryz.ntmps153
    go_upto_region 1 with fail
    refine wp_region_out (by kernel_rfl) (by kernel_rfl) ?_
    repeat (go_big_quiet_step (rfl))
    refine wpQuiet_nil ?_
    rintro w1 ⟨⟨wx, hb1⟩, rfl⟩
    have HP1 : Hid (PrAt w1 base g p i o) := BoxAt.below HP.out hb1
    clear e0 e1
    go_wp2_with fail
    go_ret
    first
      | exact ⟨Chg.of_below hb1, .inr ⟨HF.out, rfl, HP1.out⟩⟩
      | exact ⟨Chg.of_below hb1, rfl, HP1.out⟩
end Go.Proofs.YtgnpcenpcmdlfaaGreatDoor

