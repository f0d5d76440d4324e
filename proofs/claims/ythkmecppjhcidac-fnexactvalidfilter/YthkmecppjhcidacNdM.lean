/-
  Filters as lists of nodes: trees in postfix order, their shapes.
-/
import Derived.Test.YthkmecppjhcidacRxM
namespace Go.Proofs.Ythkmecppjhcidac
set_option linter.unusedVariables false
set_option linter.unusedSimpArgs false

structure Nd where
  kind : Int
  s : ByteArray
  hi : Bool
  t : ByteArray
  lo : Int
  up : Int
  n : Int
def arity (k : Int) : Nat := if k = 14 ∨ k = 15 then 2 else if k = 16 then 3 else 0
theorem arity_le (k : Int) : arity k ≤ 3 := by unfold arity; split <;> (try split) <;> omega

/-- So many trees, one behind another. -/
inductive IsT : Nat → List Nd → Prop
  | nil : IsT 0 []
  | snoc {k : Nat} {xs : List Nd} (n : Nd) (h : IsT (k + arity n.kind) xs) : IsT (k + 1) (xs ++ [n])
theorem IsT.inv_nil {k : Nat} {xs : List Nd} (h : IsT k xs) (e : xs = []) : k = 0 := by
  cases h with
  | nil => rfl
  | snoc n h => simp at e
theorem IsT.inv_snoc {k : Nat} {xs ys : List Nd} {n : Nd} (h : IsT k ys) (e : ys = xs ++ [n]) : ∃ j, k = j + 1 ∧ IsT (j + arity n.kind) xs := by
  cases h with
  | nil => simp at e
  | snoc m h =>
    have := List.append_inj' e rfl
    obtain ⟨rfl, h2⟩ := this
    simp at h2
    subst h2
    exact ⟨_, rfl, h⟩
theorem IsT.zero {xs : List Nd} (h : IsT 0 xs) : xs = [] := by
  cases h with
  | nil => rfl
theorem IsT.len {k : Nat} {xs : List Nd} (h : IsT k xs) : k ≤ xs.length := by
  induction h with
  | nil => exact Nat.le_refl _
  | snoc n h ih => simp; omega
theorem IsT.split : ∀ {m : Nat} {xs : List Nd}, IsT m xs → ∀ {k j : Nat}, m = k + j → ∃ a b, xs = a ++ b ∧ IsT k a ∧ IsT j b := by
  intro m xs h
  induction h with
  | nil => intro k j e; obtain ⟨rfl, rfl⟩ : k = 0 ∧ j = 0 := by omega
           exact ⟨[], [], rfl, .nil, .nil⟩
  | @snoc q ys n h ih =>
    intro k j e
    cases j with
    | zero => exact ⟨ys ++ [n], [], by simp, by rw [show k = q + 1 by omega]; exact .snoc n h, .nil⟩
    | succ j =>
      obtain ⟨a, b, rfl, ha, hb⟩ := ih (k := k) (j := j + arity n.kind) (by omega)
      exact ⟨a, b ++ [n], by simp, ha, .snoc n hb⟩
/-- What has been asked for, from the right. -/
inductive Sc : Nat → List Nd → Prop
  | nil : Sc 1 []
  | cons {m : Nat} {ys : List Nd} (n : Nd) (h : Sc (m + 1) ys) : Sc (m + arity n.kind) (n :: ys)
theorem Sc.inv {m : Nat} {n : Nd} {ys : List Nd} (h : Sc m (n :: ys)) : ∃ q, m = q + arity n.kind ∧ Sc (q + 1) ys := by
  cases h with
  | cons _ h => exact ⟨_, rfl, h⟩
theorem Sc.one : ∀ {ys : List Nd} {m k : Nat}, Sc m ys → Sc k ys → m = k
  | [], _, _, .nil, .nil => rfl
  | n :: ys, m, k, h, g => by
    obtain ⟨a, rfl, ha⟩ := h.inv
    obtain ⟨b, rfl, hb⟩ := g.inv
    have := Sc.one ha hb
    omega
theorem Sc.tree : ∀ {ys : List Nd} {m : Nat}, Sc m ys → ∀ {pre : List Nd}, IsT m pre ↔ IsT 1 (pre ++ ys)
  | [], _, .nil, pre => by simp
  | n :: ys, m, h, pre => by
    obtain ⟨q, rfl, hq⟩ := h.inv
    have ih := Sc.tree hq (pre := pre ++ [n])
    rw [List.append_assoc] at ih
    rw [show pre ++ n :: ys = pre ++ ([n] ++ ys) from rfl, ← ih]
    constructor
    · intro h; exact .snoc n h
    · intro h
      obtain ⟨j, hj, h2⟩ := h.inv_snoc rfl
      rw [show q = j by omega]; exact h2
theorem IsT.sc {j : Nat} {b : List Nd} (h : IsT j b) : ∀ {m : Nat} {ys : List Nd}, Sc (m + j) ys → Sc m (b ++ ys) := by
  induction h with
  | nil => intro m ys h; exact h
  | @snoc k xs n h ih =>
    intro m ys hs
    rw [List.append_assoc]
    apply ih
    show Sc (m + (k + arity n.kind)) (n :: ys)
    rw [← Nat.add_assoc]
    exact .cons n hs
theorem IsT.sc0 {b : List Nd} (h : IsT 1 b) : Sc 0 b := by
  have := h.sc (m := 0) (ys := []) .nil
  simpa using this
/-- A tree at the end: one alone. -/
theorem tree_one {xs : List Nd} {i j : Nat} (hi : IsT 1 (xs.drop i)) (hj : IsT 1 (xs.drop j)) (hij : i ≤ j) (hjl : j ≤ xs.length) : i = j := by
  have h0 := hj.sc0
  have e : xs.drop i = (xs.drop i).take (j - i) ++ xs.drop j := by
    conv => lhs; rw [← List.take_append_drop (j - i) (xs.drop i)]
    rw [List.drop_drop, show i + (j - i) = j by omega]
  rw [e] at hi
  have h1 := (h0.tree.2 hi).zero
  have h2 := congrArg List.length h1
  simp at h2
  omega
/-- Where the asking comes to no end no tree stands. -/
theorem sc_none {xs : List Nd} : ∀ {i m : Nat}, Sc (m + 1) (xs.drop i) → ∀ j, i ≤ j → j ≤ xs.length → ¬ IsT 1 (xs.drop j) := by
  intro i m h j hij hjl ht
  obtain ⟨d, rfl⟩ : ∃ d, j = i + d := ⟨j - i, by omega⟩
  clear hij
  induction d generalizing i m with
  | zero => have := h.one ht.sc0; omega
  | succ d ih =>
    rw [List.drop_eq_getElem_cons (by omega)] at h
    obtain ⟨q, _, hq⟩ := h.inv
    exact ih (i := i + 1) (m := q) hq (by omega) (by rw [show i + 1 + d = i + (d + 1) by omega]; exact ht)

structure Shape where
  valid : Bool
  kind : Int
  nest : Nat
def strong (k : Int) : Nat := if k = 15 then 1 else if k = 14 then 2 else 3
/-- Whether an operand counts as one level. -/
def level (op : Int) (i : Nat) (kid : Int) : Bool := decide (op = 16) || (if i = 0 then decide (strong kid < strong op) else decide (strong kid ≤ strong op))
def nestFrom (op : Int) : Nat → Nat → List Shape → Nat
  | _, a, [] => a
  | i, a, o :: os => nestFrom op (i + 1) (max a (o.nest + if level op i o.kind then 1 else 0)) os
variable (G : Nd → Bool)
def shapeM (n : Nd) (os : List Shape) : Shape := ⟨G n && os.all (·.valid), n.kind, nestFrom n.kind 0 0 os⟩
def stepM (st : List Shape) (n : Nd) : Option (List Shape) :=
  if st.length < arity n.kind then none else some (st.take (st.length - arity n.kind) ++ [shapeM G n (st.drop (st.length - arity n.kind))])
def foldM (st : List Shape) : List Nd → Option (List Shape)
  | [] => some st
  | n :: ns => match stepM G st n with
    | none => none
    | some st' => foldM st' ns
theorem foldM_append (st : List Shape) (xs ys : List Nd) : foldM G st (xs ++ ys) = (foldM G st xs).bind (fun s => foldM G s ys) := by
  induction xs generalizing st with
  | nil => rfl
  | cons x xs ih =>
    simp only [List.cons_append, foldM]
    cases stepM G st x with
    | none => rfl
    | some s => exact ih s
/-- The shapes of trees, one behind another. -/
inductive ShT : List Shape → List Nd → Prop
  | nil : ShT [] []
  | snoc {ss os : List Shape} {xs : List Nd} (n : Nd) (ho : os.length = arity n.kind) (h : ShT (ss ++ os) xs) : ShT (ss ++ [shapeM G n os]) (xs ++ [n])
theorem IsT.shapes {k : Nat} {xs : List Nd} (h : IsT k xs) : ∃ ss, ss.length = k ∧ ShT G ss xs := by
  induction h with
  | nil => exact ⟨[], rfl, .nil⟩
  | @snoc k xs n h ih =>
    obtain ⟨ss, hl, hs⟩ := ih
    refine ⟨ss.take k ++ [shapeM G n (ss.drop k)], by simp; omega, .snoc n (by simp; omega) ?_⟩
    rw [List.take_append_drop]; exact hs
theorem ShT.tree {ss : List Shape} {xs : List Nd} (h : ShT G ss xs) : IsT ss.length xs := by
  induction h with
  | nil => exact .nil
  | @snoc ss os xs n ho h ih =>
    rw [List.length_append]
    refine IsT.snoc n ?_
    rw [← ho, ← List.length_append]; exact ih
theorem ShT.fold {ss : List Shape} {xs : List Nd} (h : ShT G ss xs) : ∀ st, foldM G st xs = some (st ++ ss) := by
  induction h with
  | nil => intro st; simp [foldM]
  | @snoc ss os xs n ho h ih =>
    intro st
    rw [foldM_append, ih]
    simp only [Option.bind_some, foldM, stepM]
    rw [if_neg (by simp; omega)]
    have hl : (st ++ (ss ++ os)).length - arity n.kind = (st ++ ss).length := by simp; omega
    rw [hl, ← List.append_assoc, List.take_left, List.drop_left, List.append_assoc]
theorem fold_from : ∀ {xs pre : List Nd} {st ss : List Shape}, ShT G st pre → foldM G st xs = some ss → ShT G ss (pre ++ xs)
  | [], pre, st, ss, h, e => by
    simp [foldM] at e; subst e; simpa using h
  | n :: xs, pre, st, ss, h, e => by
    simp only [foldM, stepM] at e
    by_cases hl : st.length < arity n.kind
    · rw [if_pos hl] at e; cases e
    · rw [if_neg hl] at e
      have h1 : ShT G (st.take (st.length - arity n.kind) ++ [shapeM G n (st.drop (st.length - arity n.kind))]) (pre ++ [n]) := by
        refine .snoc n (by simp; omega) ?_
        rw [List.take_append_drop]; exact h
      have h2 := fold_from h1 e
      rw [List.append_assoc] at h2
      exact h2
theorem fold_tree {xs : List Nd} {ss : List Shape} (h : foldM G [] xs = some ss) : ShT G ss xs := by
  simpa using fold_from G (pre := []) .nil h
theorem ShT.valid {ss : List Shape} {xs : List Nd} (h : ShT G ss xs) : ss.all (·.valid) = xs.all G := by
  induction h with
  | nil => rfl
  | @snoc ss os xs n ho h ih =>
    rw [List.all_append, List.all_append, ← ih, List.all_append]
    simp [shapeM]
    cases G n <;> cases ss.all (·.valid) <;> cases os.all (·.valid) <;> rfl
theorem ShT.split {ss : List Shape} {xs : List Nd} (h : ShT G ss xs) : ∀ {a b : List Shape}, ss = a ++ b → ∃ ys zs, xs = ys ++ zs ∧ ShT G a ys ∧ ShT G b zs := by
  induction h with
  | nil => intro a b e; obtain ⟨rfl, rfl⟩ : a = [] ∧ b = [] := by simpa using e.symm
           exact ⟨[], [], rfl, .nil, .nil⟩
  | @snoc ss os xs n ho h ih =>
    intro a b e
    rcases List.eq_nil_or_concat b with rfl | ⟨b', z, rfl⟩
    · simp at e; subst e
      exact ⟨xs ++ [n], [], by simp, .snoc n ho h, .nil⟩
    · rw [List.concat_eq_append, ← List.append_assoc] at e
      have e2 := List.append_inj' e rfl
      obtain ⟨e3, e4⟩ := e2
      simp at e4
      subst e3 e4
      obtain ⟨ys, zs, rfl, h1, h2⟩ := ih (a := a) (b := b' ++ os) (by simp)
      refine ⟨ys, zs ++ [n], by simp, h1, ?_⟩
      rw [List.concat_eq_append]
      exact .snoc n ho h2
/-- What ValidFilter comes to. -/
def validF (xs : List Nd) : Bool := decide (xs.length ≤ 200) && (match foldM G [] xs with
  | some [sh] => sh.valid && decide (sh.nest ≤ 20)
  | _ => false)
theorem ShT.inv {s : Shape} {xs : List Nd} (h : ShT G [s] xs) : ∃ ys n os, xs = ys ++ [n] ∧ os.length = arity n.kind ∧ ShT G os ys ∧ s = shapeM G n os := by
  generalize hs : [s] = ss at h
  cases h with
  | nil => cases hs
  | @snoc ss os xs n ho h =>
    have e := List.append_inj' (s₁ := []) (t₁ := [s]) hs rfl
    obtain ⟨e1, e2⟩ := e
    subst e1
    simp at e2
    exact ⟨xs, n, os, rfl, ho, h, e2⟩
/-- The operands of a node, one by one. -/
inductive Kids : List Shape → List (List Nd) → Prop
  | nil : Kids [] []
  | cons {o : Shape} {os : List Shape} {k : List Nd} {ks : List (List Nd)} (h : ShT G [o] k) (t : Kids os ks) : Kids (o :: os) (k :: ks)
theorem ShT.kids : ∀ {os : List Shape} {ys : List Nd}, ShT G os ys → ∃ ks, ys = ks.flatten ∧ Kids G os ks
  | [], ys, h => by
    have := h.tree.zero
    subst this
    exact ⟨[], rfl, .nil⟩
  | o :: os, ys, h => by
    obtain ⟨a, b, rfl, h1, h2⟩ := ShT.split G h (a := [o]) (b := os) rfl
    obtain ⟨ks, rfl, hk⟩ := ShT.kids h2
    exact ⟨a :: ks, rfl, .cons h1 hk⟩
theorem Kids.length {os : List Shape} {ks : List (List Nd)} (h : Kids G os ks) : os.length = ks.length := by
  induction h with
  | nil => rfl
  | cons _ _ ih => simp [ih]
theorem Kids.tree {os : List Shape} {ks : List (List Nd)} (h : Kids G os ks) : ∀ k ∈ ks, IsT 1 k := by
  induction h with
  | nil => intro k hk; cases hk
  | cons h1 _ ih =>
    intro k hk
    rcases List.mem_cons.1 hk with rfl | hk
    · exact h1.tree
    · exact ih k hk
theorem Kids.nth {os : List Shape} {ks : List (List Nd)} (h : Kids G os ks) : ∀ {j : Nat} {k : List Nd}, ks[j]? = some k → ∃ o, os[j]? = some o ∧ ShT G [o] k := by
  induction h with
  | nil => intro j k hk; simp at hk
  | cons h1 _ ih =>
    intro j k hk
    cases j with
    | zero => simp at hk; subst hk; exact ⟨_, rfl, h1⟩
    | succ j => simp at hk; simpa using ih hk
theorem nestFrom_le (op : Int) (B : Nat) : ∀ {os : List Shape} {i a : Nat}, a ≤ B → (∀ o ∈ os, o.nest + 1 ≤ B) → nestFrom op i a os ≤ B
  | [], i, a, h, _ => h
  | o :: os, i, a, h, g => by
    unfold nestFrom
    apply nestFrom_le op B
    · have := g o (by simp)
      split <;> omega
    · exact fun o' ho => g o' (by simp [ho])
theorem kid_len {os : List Shape} {ks : List (List Nd)} (h : Kids G os ks) {o : Shape} (ho : o ∈ os) : ∃ k ∈ ks, ShT G [o] k := by
  induction h with
  | nil => cases ho
  | cons h1 _ ih =>
    rcases List.mem_cons.1 ho with rfl | ho
    · exact ⟨_, by simp, h1⟩
    · obtain ⟨k, hk, h2⟩ := ih ho
      exact ⟨k, by simp [hk], h2⟩
theorem len_flat {ks : List (List Nd)} {k : List Nd} (h : k ∈ ks) : k.length ≤ ks.flatten.length := by
  induction ks with
  | nil => cases h
  | cons a ks ih =>
    simp only [List.flatten_cons, List.length_append]
    rcases List.mem_cons.1 h with rfl | h
    · omega
    · have := ih h; omega
theorem nest_len : ∀ (n : Nat) {s : Shape} {xs : List Nd}, xs.length ≤ n → ShT G [s] xs → s.nest ≤ xs.length
  | 0, s, xs, hn, h => by
    obtain ⟨ys, e, os, rfl, _⟩ := h.inv
    simp at hn
  | n + 1, s, xs, hn, h => by
    obtain ⟨ys, e, os, rfl, _, h2, rfl⟩ := h.inv
    obtain ⟨ks, rfl, hK⟩ := h2.kids
    simp only [List.length_append, List.length_singleton] at hn ⊢
    refine nestFrom_le e.kind _ (Nat.zero_le _) fun o ho => ?_
    obtain ⟨k, hk, h3⟩ := kid_len G hK ho
    have h4 := len_flat hk
    have h5 := nest_len n (by omega) h3
    omega
end Go.Proofs.Ythkmecppjhcidac
