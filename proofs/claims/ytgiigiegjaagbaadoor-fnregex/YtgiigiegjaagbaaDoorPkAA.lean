import Derived.Test.YtgiigiegjaagbaaDoorRows
import Derived.WalkKit
import Derived.ProofKit
import Derived.OpenShut
import Derived.ShutString
import Derived.ChangeOld
import Derived.Below
import Derived.WalkSpells
import Derived.WalkLawsBesides
import Derived.Outline
import Derived.Deep.Light
import Derived.Lib.SmallJoins
import Derived.OwnWalk
import Derived.Deep.MidRow
import Derived.Deep.DeepCutAuto
import Derived.Deep.RegionWith

/-
  Patterns as nodes, the grammar, and the check that goes over the bytes from the left.
-/
namespace Go.Proofs.YtgiigiegjaagbaaDoor
set_option linter.unusedVariables false
set_option linter.unusedSimpArgs false

/-- A pattern as nodes. -/
inductive Pat where
  | byte (b : UInt8)
  | cls (f : UInt8 → Bool)
  | rep (t : Pat) (opt rpt : Bool)
  | alt (os : List (List Pat))

abbrev isOp (c : UInt8) : Prop := c = 42 ∨ c = 43 ∨ c = 63
abbrev isEnd (c : UInt8) : Prop := isOp c ∨ c = 124 ∨ c = 41 ∨ c = 93

/-- One ch of a class at i: the byte, where it ends, whether it is there. -/
def chM (p : List UInt8) (i : Nat) : UInt8 × Nat × Bool :=
  match p[i]? with
  | none => (0, i, false)
  | some c => if c = 93 ∨ c = 45 then (0, i, false) else if c = 92 then (match p[i + 1]? with | none => (0, i + 1, false) | some d => (d, i + 2, true)) else (c, i + 1, true)
theorem chM_gt {p : List UInt8} {i k : Nat} {c : UInt8} (h : chM p i = (c, k, true)) : i < k ∧ k ≤ p.length := by
  unfold chM at h
  split at h
  · cases h
  · next c' hc =>
    have h0 := (List.getElem?_eq_some_iff.1 hc).1
    split at h
    · cases h
    · split at h
      · split at h
        · cases h
        · next d hd =>
          have h1 := (List.getElem?_eq_some_iff.1 hd).1
          simp only [Prod.mk.injEq] at h
          omega
      · simp only [Prod.mk.injEq] at h
        omega
/-- An item of a class at j: its ends and where the next one begins, or the fault. -/
def itemM (p : List UInt8) (j : Nat) : (UInt8 × UInt8 × Nat) ⊕ (Int × Nat) :=
  match chM p j with
  | (_, k, false) => .inr (2, k)
  | (lo, k, true) =>
    if p[k]? = some 45 then
      match chM p (k + 1) with
      | (_, m, false) => .inr (2, m)
      | (hi, m, true) => if hi < lo then .inr (4, j) else .inl (lo, hi, m)
    else .inl (lo, lo, k)
theorem itemM_gt {p : List UInt8} {j k : Nat} {a b : UInt8} (h : itemM p j = .inl (a, b, k)) : j < k ∧ k ≤ p.length ∧ a ≤ b := by
  unfold itemM at h
  split at h
  · cases h
  · next lo k' hk =>
    have h1 := chM_gt hk
    split at h
    · split at h
      · cases h
      · next hi m hm =>
        have h2 := chM_gt hm
        split at h
        · cases h
        · next hle =>
          simp only [Sum.inl.injEq, Prod.mk.injEq] at h
          obtain ⟨rfl, rfl, rfl⟩ := h
          exact ⟨by omega, by omega, UInt8.not_lt.1 hle⟩
    · simp only [Sum.inl.injEq, Prod.mk.injEq] at h
      obtain ⟨rfl, rfl, rfl⟩ := h
      exact ⟨by omega, by omega, UInt8.le_refl _⟩
/-- The rest of a class, behind at least one item or at its first: the items' set and where the class ends, or the fault. -/
def clsM (p : List UInt8) (j : Nat) (items : Bool) (f : UInt8 → Bool) : ((UInt8 → Bool) × Nat) ⊕ (Int × Nat) :=
  if h : j < p.length then
    if p[j]? = some 93 ∧ items = true then .inl (f, j + 1)
    else match hi : itemM p j with
      | .inr e => .inr e
      | .inl (a, b, k) => clsM p k true (fun c => f c || (decide (a ≤ c) && decide (c ≤ b)))
  else .inr (2, p.length)
termination_by p.length - j
decreasing_by have := itemM_gt hi; omega
/-- A class behind its '['. -/
def classM (p : List UInt8) (i : Nat) : ((UInt8 → Bool) × Nat) ⊕ (Int × Nat) :=
  if p[i]? = some 94 then (match clsM p (i + 1) false (fun _ => false) with | .inl (f, k) => .inl (fun c => !f c, k) | .inr e => .inr e)
  else clsM p i false (fun _ => false)
theorem clsM_gt : ∀ (n : Nat) {p : List UInt8} {j : Nat} {b : Bool} {f g : UInt8 → Bool} {k : Nat}, p.length - j ≤ n → clsM p j b f = .inl (g, k) → j < k ∧ k ≤ p.length
  | n, p, j, b, f, g, k, hn, h => by
    unfold clsM at h
    split at h
    · next hj =>
      split at h
      · simp only [Sum.inl.injEq, Prod.mk.injEq] at h
        omega
      · split at h
        · cases h
        · next a b' k' hk =>
          have h1 := itemM_gt hk
          match n, hn with
          | 0, hn => omega
          | n + 1, hn =>
            have h2 := clsM_gt n (by omega) h
            omega
    · cases h
theorem classM_gt {p : List UInt8} {i : Nat} {g : UInt8 → Bool} {k : Nat} (h : classM p i = .inl (g, k)) : i < k ∧ k ≤ p.length := by
  unfold classM at h
  split at h
  · split at h
    · next hc =>
      have := clsM_gt _ (Nat.le_refl _) hc
      simp only [Sum.inl.injEq, Prod.mk.injEq] at h
      omega
    · cases h
  · exact clsM_gt _ (Nat.le_refl _) h
theorem itemM_err {p : List UInt8} {j : Nat} {c : Int} {k : Nat} (h : itemM p j = .inr (c, k)) : ¬ c = 0 := by
  unfold itemM at h
  split at h
  · simp only [Sum.inr.injEq, Prod.mk.injEq] at h; omega
  · split at h
    · split at h
      · simp only [Sum.inr.injEq, Prod.mk.injEq] at h; omega
      · split at h
        · simp only [Sum.inr.injEq, Prod.mk.injEq] at h; omega
        · cases h
    · cases h
theorem clsM_err : ∀ (n : Nat) {p : List UInt8} {j : Nat} {b : Bool} {f : UInt8 → Bool} {c : Int} {k : Nat}, p.length - j ≤ n → clsM p j b f = .inr (c, k) → ¬ c = 0
  | n, p, j, b, f, c, k, hn, h => by
    unfold clsM at h
    split at h
    · split at h
      · cases h
      · split at h
        · next e he =>
          simp only [Sum.inr.injEq] at h
          subst h
          exact itemM_err he
        · next a b' k' hk =>
          have h1 := itemM_gt hk
          match n, hn with
          | 0, hn => omega
          | n + 1, hn => exact clsM_err n (by omega) h
    · simp only [Sum.inr.injEq, Prod.mk.injEq] at h; omega
theorem classM_err {p : List UInt8} {i : Nat} {c : Int} {k : Nat} (h : classM p i = .inr (c, k)) : ¬ c = 0 := by
  unfold classM at h
  split at h
  · split at h
    · cases h
    · next e he =>
      simp only [Sum.inr.injEq] at h
      subst h
      exact clsM_err _ (Nat.le_refl _) he
  · exact clsM_err _ (Nat.le_refl _) h
/-- The check, from place i on: so many are open, an atom stands before or none. -/
def chkM (p : List UInt8) (i o : Nat) (a : Bool) : Int × Nat :=
  if h : i < p.length then
    if p[i] = 40 then (if o = 20 then (3, i) else chkM p (i + 1) (o + 1) false)
    else if p[i] = 41 then (if o = 0 then (2, i) else chkM p (i + 1) (o - 1) true)
    else if p[i] = 124 then chkM p (i + 1) o false
    else if p[i] = 42 ∨ p[i] = 43 ∨ p[i] = 63 then (if a = true then chkM p (i + 1) o true else (2, i))
    else if p[i] = 91 then (match hc : classM p (i + 1) with | .inr e => e | .inl (f, k) => chkM p k o true)
    else if p[i] = 93 then (2, i)
    else if p[i] = 92 then (if i + 1 = p.length then (2, p.length) else chkM p (i + 2) o true)
    else chkM p (i + 1) o true
  else if 0 < o then (2, p.length) else (0, 0)
termination_by p.length - i
decreasing_by
  all_goals first
    | (have := classM_gt hc; omega)
    | omega

variable {p : List UInt8} {i o : Nat} {a : Bool} {c : UInt8}
theorem lt_of_at (h : p[i]? = some c) : i < p.length := (List.getElem?_eq_some_iff.1 h).1
theorem get_of_at (h : p[i]? = some c) : p[i]'(lt_of_at h) = c := (List.getElem?_eq_some_iff.1 h).2
theorem chk_end (h : ¬ i < p.length) : chkM p i o a = if 0 < o then (2, p.length) else (0, 0) := by rw [chkM, dif_neg h]
theorem chk_open (h : p[i]? = some 40) : chkM p i o a = if o = 20 then (3, i) else chkM p (i + 1) (o + 1) false := by
  rw [chkM, dif_pos (lt_of_at h), if_pos (get_of_at h)]
theorem chk_close (h : p[i]? = some 41) : chkM p i o a = if o = 0 then (2, i) else chkM p (i + 1) (o - 1) true := by
  rw [chkM, dif_pos (lt_of_at h), get_of_at h]; simp
theorem chk_bar (h : p[i]? = some 124) : chkM p i o a = chkM p (i + 1) o false := by
  rw [chkM, dif_pos (lt_of_at h), get_of_at h]; simp
theorem chk_op (h : p[i]? = some c) (hc : isOp c) : chkM p i o a = if a = true then chkM p (i + 1) o true else (2, i) := by
  rw [chkM, dif_pos (lt_of_at h), get_of_at h]
  rcases hc with rfl | rfl | rfl <;> simp
theorem chk_rb (h : p[i]? = some 93) : chkM p i o a = (2, i) := by
  rw [chkM, dif_pos (lt_of_at h), get_of_at h]; simp
theorem chk_class (h : p[i]? = some 91) : chkM p i o a = match classM p (i + 1) with | .inr e => e | .inl (f, k) => chkM p k o true := by
  rw [chkM, dif_pos (lt_of_at h), get_of_at h]
  simp only [show ¬ (91 : UInt8) = 40 by decide, show ¬ (91 : UInt8) = 41 by decide, show ¬ (91 : UInt8) = 124 by decide, show ¬ ((91 : UInt8) = 42 ∨ (91 : UInt8) = 43 ∨ (91 : UInt8) = 63) by decide, if_false, if_true]
  split <;> (next hc => rw [hc])
theorem chk_esc (h : p[i]? = some 92) : chkM p i o a = if i + 1 = p.length then (2, p.length) else chkM p (i + 2) o true := by
  rw [chkM, dif_pos (lt_of_at h), get_of_at h]; simp
theorem chk_plain (h : p[i]? = some c) (h1 : ¬ isEnd c) (h2 : ¬ c = 40) (h3 : ¬ c = 91) (h4 : ¬ c = 92) : chkM p i o a = chkM p (i + 1) o true := by
  rw [chkM, dif_pos (lt_of_at h), get_of_at h]
  unfold isEnd isOp at h1
  simp only [not_or] at h1
  obtain ⟨⟨g1, g2, g3⟩, g4, g5, g6⟩ := h1
  simp [h2, h3, h4, g1, g2, g3, g4, g5, g6]
/-- Where no sign of repetition stands, it is one whether an atom stands before. -/
theorem chk_flag (h : ∀ c, p[i]? = some c → ¬ isOp c) (a b : Bool) : chkM p i o a = chkM p i o b := by
  by_cases hi : i < p.length
  · obtain ⟨c, hc⟩ : ∃ c, p[i]? = some c := ⟨_, List.getElem?_eq_getElem hi⟩
    have hn := h c hc
    by_cases h1 : c = 40
    · subst h1; rw [chk_open hc, chk_open hc]
    by_cases h2 : c = 41
    · subst h2; rw [chk_close hc, chk_close hc]
    by_cases h3 : c = 124
    · subst h3; rw [chk_bar hc, chk_bar hc]
    by_cases h4 : c = 93
    · subst h4; rw [chk_rb hc, chk_rb hc]
    by_cases h5 : c = 91
    · subst h5; rw [chk_class hc, chk_class hc]
    by_cases h6 : c = 92
    · subst h6; rw [chk_esc hc, chk_esc hc]
    have he : ¬ isEnd c := fun q => q.elim hn (fun q => q.elim h3 (fun q => q.elim h2 h4))
    rw [chk_plain hc he h1 h5 h6, chk_plain hc he h1 h5 h6]
  · rw [chk_end hi, chk_end hi]
end Go.Proofs.YtgiigiegjaagbaaDoor

/-
  The grammar of patterns over lists of bytes, and what the check says behind a piece.
-/
namespace Go.Proofs.YtgiigiegjaagbaaDoor
set_option linter.unusedVariables false
set_option linter.unusedSimpArgs false

/-- The bytes from i up to k. -/
def cut (p : List UInt8) (i k : Nat) : List UInt8 := (p.drop i).take (k - i)
theorem cut_nil (p : List UInt8) (i : Nat) : cut p i i = [] := by simp [cut]
theorem cut_len {p : List UInt8} {i k : Nat} (h : k ≤ p.length) : (cut p i k).length = k - i := by
  simp [cut]; omega
theorem cut_cat {p : List UInt8} {i j k : Nat} (h1 : i ≤ j) (h2 : j ≤ k) : cut p i k = cut p i j ++ cut p j k := by
  unfold cut
  have : k - i = (j - i) + (k - j) := by omega
  rw [this, List.take_add, List.drop_drop]
  congr 3
  omega
theorem cut_one {p : List UInt8} {i : Nat} {c : UInt8} (h : p[i]? = some c) : cut p i (i + 1) = [c] := by
  have hi := lt_of_at h
  unfold cut
  rw [List.drop_eq_getElem_cons hi, Nat.add_sub_cancel_left, get_of_at h]
  simp

abbrev special (c : UInt8) : Prop := isEnd c ∨ c = 40 ∨ c = 91 ∨ c = 46 ∨ c = 92
def RepG (A : List UInt8 → Pat → Prop) (xs : List UInt8) (t : Pat) : Prop :=
  ∃ (ys ops : List UInt8) (a : Pat), xs = ys ++ ops ∧ A ys a ∧ (∀ c ∈ ops, isOp c) ∧ t = (if ops = [] then a else .rep a (ops.any (· != 43)) (ops.any (· != 63)))
def SeqG (A : List UInt8 → Pat → Prop) : List Pat → List UInt8 → Prop
  | [], xs => xs = []
  | t :: ts, xs => ∃ ys zs, xs = ys ++ zs ∧ RepG A ys t ∧ SeqG A ts zs
def AltG (A : List UInt8 → Pat → Prop) : List (List Pat) → List UInt8 → Prop
  | [], xs => False
  | [ts], xs => SeqG A ts xs
  | ts :: os, xs => ∃ ys zs, xs = ys ++ 124 :: zs ∧ SeqG A ts ys ∧ AltG A os zs
def AtomG : Nat → List UInt8 → Pat → Prop
  | 0, _, _ => False
  | n + 1, xs, t => (∃ c, xs = [c] ∧ ¬ special c ∧ t = .byte c) ∨ (xs = [46] ∧ t = .cls (fun _ => true)) ∨ (∃ c, xs = [92, c] ∧ t = .byte c) ∨
      (∃ ys os, xs = 40 :: ys ++ [41] ∧ AltG (AtomG n) os ys ∧ t = .alt os) ∨ (∃ p i k f, p[i]? = some 91 ∧ classM p (i + 1) = .inl (f, k) ∧ xs = cut p i k ∧ t = .cls f)
theorem RepG.mono {A B : List UInt8 → Pat → Prop} (h : ∀ xs t, A xs t → B xs t) {xs : List UInt8} {t : Pat} : RepG A xs t → RepG B xs t := fun ⟨ys, ops, a, h1, h2, h3, h4⟩ => ⟨ys, ops, a, h1, h _ _ h2, h3, h4⟩
theorem SeqG.mono {A B : List UInt8 → Pat → Prop} (h : ∀ xs t, A xs t → B xs t) : ∀ {ts : List Pat} {xs : List UInt8}, SeqG A ts xs → SeqG B ts xs
  | [], _, q => q
  | _ :: _, _, ⟨ys, zs, h1, h2, h3⟩ => ⟨ys, zs, h1, h2.mono h, SeqG.mono h h3⟩
theorem AltG.mono {A B : List UInt8 → Pat → Prop} (h : ∀ xs t, A xs t → B xs t) : ∀ {os : List (List Pat)} {xs : List UInt8}, AltG A os xs → AltG B os xs
  | [], _, q => q
  | [_], _, q => SeqG.mono h q
  | _ :: _ :: _, _, ⟨ys, zs, h1, h2, h3⟩ => ⟨ys, zs, h1, h2.mono h, AltG.mono h h3⟩
theorem AtomG.mono : ∀ {n m : Nat} {xs : List UInt8} {t : Pat}, n ≤ m → AtomG n xs t → AtomG m xs t
  | 0, _, _, _, _, h => h.elim
  | n + 1, 0, _, _, hm, _ => by omega
  | n + 1, m + 1, xs, t, hm, h => by
    rcases h with h | h | h | ⟨ys, os, h1, h2, h3⟩ | h
    · exact .inl h
    · exact .inr (.inl h)
    · exact .inr (.inr (.inl h))
    · exact .inr (.inr (.inr (.inl ⟨ys, os, h1, h2.mono (fun _ _ q => AtomG.mono (by omega) q), h3⟩)))
    · exact .inr (.inr (.inr (.inr h)))
theorem SeqG.snoc {A : List UInt8 → Pat → Prop} : ∀ {ts : List Pat} {xs ys : List UInt8} {t : Pat}, SeqG A ts xs → RepG A ys t → SeqG A (ts ++ [t]) (xs ++ ys)
  | [], xs, ys, t, h, k => by subst h; exact ⟨ys, [], by simp, k, rfl⟩
  | s :: ts, xs, ys, t, ⟨us, vs, h1, h2, h3⟩, k => ⟨us, vs ++ ys, by rw [h1]; simp, h2, SeqG.snoc h3 k⟩
theorem AltG.snoc {A : List UInt8 → Pat → Prop} : ∀ {os : List (List Pat)} {xs ys : List UInt8} {ts : List Pat}, AltG A os xs → SeqG A ts ys → AltG A (os ++ [ts]) (xs ++ 124 :: ys)
  | [], _, _, _, h, _ => h.elim
  | [s], xs, ys, ts, h, k => ⟨xs, ys, rfl, h, k⟩
  | s :: o :: os, xs, ys, ts, ⟨us, vs, h1, h2, h3⟩, k => ⟨us, vs ++ 124 :: ys, by rw [h1]; simp, h2, AltG.snoc h3 k⟩

/-- What a piece that has been read says: the check goes on behind it. -/
structure AtomOk (p : List UInt8) (o i k : Nat) (t : Pat) : Prop where
  lt : i < k
  le : k ≤ p.length
  chk : ∀ a, chkM p i o a = chkM p k o true
  gr : ∃ n, AtomG n (cut p i k) t
structure RepOk (p : List UInt8) (o i k : Nat) (t : Pat) : Prop where
  lt : i < k
  le : k ≤ p.length
  chk : ∀ a, chkM p i o a = chkM p k o true
  next : ∀ c, p[k]? = some c → ¬ isOp c
  gr : ∃ n, RepG (AtomG n) (cut p i k) t
structure SeqOk (p : List UInt8) (o i k : Nat) (ts : List Pat) : Prop where
  lei : i ≤ k
  le : k ≤ p.length
  chk : chkM p i o false = chkM p k o false
  gr : ∃ n, SeqG (AtomG n) ts (cut p i k)
structure AltOk (p : List UInt8) (o i k : Nat) (os : List (List Pat)) : Prop where
  lei : i ≤ k
  le : k ≤ p.length
  chk : chkM p i o false = chkM p k o false
  gr : ∃ n, AltG (AtomG n) os (cut p i k)
theorem SeqOk.nil {p : List UInt8} {o i : Nat} (h : i ≤ p.length) : SeqOk p o i i [] := ⟨Nat.le_refl _, h, rfl, 0, cut_nil p i⟩
theorem SeqOk.more {p : List UInt8} {o i j k : Nat} {ts : List Pat} {t : Pat} (h : SeqOk p o i j ts) (r : RepOk p o j k t) : SeqOk p o i k (ts ++ [t]) := by
  obtain ⟨n, hn⟩ := h.gr
  obtain ⟨m, hm⟩ := r.gr
  refine ⟨Nat.le_trans h.lei (Nat.le_of_lt r.lt), r.le, ?_, max n m, ?_⟩
  · rw [h.chk, r.chk, chk_flag r.next]
  · rw [cut_cat h.lei (Nat.le_of_lt r.lt)]
    exact (hn.mono (fun _ _ q => AtomG.mono (Nat.le_max_left _ _) q)).snoc (hm.mono (fun _ _ q => AtomG.mono (Nat.le_max_right _ _) q))
theorem AltOk.one {p : List UInt8} {o i k : Nat} {ts : List Pat} (h : SeqOk p o i k ts) : AltOk p o i k [ts] := ⟨h.lei, h.le, h.chk, h.gr⟩
theorem AltOk.more {p : List UInt8} {o i j k : Nat} {os : List (List Pat)} {ts : List Pat} (h : AltOk p o i j os) (hb : p[j]? = some 124) (s : SeqOk p o (j + 1) k ts) : AltOk p o i k (os ++ [ts]) := by
  obtain ⟨n, hn⟩ := h.gr
  obtain ⟨m, hm⟩ := s.gr
  have hl := s.lei
  refine ⟨Nat.le_trans h.lei (by omega), s.le, ?_, max n m, ?_⟩
  · rw [h.chk, chk_bar hb, s.chk]
  · rw [cut_cat h.lei (show j ≤ k by omega), cut_cat (show j ≤ j + 1 by omega) hl, cut_one hb]
    exact (hn.mono (fun _ _ q => AtomG.mono (Nat.le_max_left _ _) q)).snoc (hm.mono (fun _ _ q => AtomG.mono (Nat.le_max_right _ _) q))
theorem AtomOk.group {p : List UInt8} {o i j : Nat} {os : List (List Pat)} (h : p[i]? = some 40) (ho : ¬ o = 20) (a : AltOk p (o + 1) (i + 1) j os) (hj : p[j]? = some 41) : AtomOk p o i (j + 1) (.alt os) := by
  obtain ⟨n, hn⟩ := a.gr
  have hl := a.lei
  refine ⟨by omega, lt_of_at hj, fun b => ?_, n + 1, .inr (.inr (.inr (.inl ⟨_, os, ?_, hn, rfl⟩)))⟩
  · rw [chk_open h, if_neg ho, a.chk, chk_close hj, if_neg (by omega), Nat.add_sub_cancel]
  · rw [cut_cat (show i ≤ i + 1 by omega) (show i + 1 ≤ j + 1 by omega), cut_one h, cut_cat hl (show j ≤ j + 1 by omega), cut_one hj]
    simp
theorem AtomOk.plain {p : List UInt8} {o i : Nat} {c : UInt8} (h : p[i]? = some c) (hc : ¬ special c) : AtomOk p o i (i + 1) (.byte c) := by
  refine ⟨by omega, lt_of_at h, fun a => chk_plain h (fun q => hc (.inl q)) (fun q => hc (.inr (.inl q))) (fun q => hc (.inr (.inr (.inl q)))) (fun q => hc (.inr (.inr (.inr (.inr q))))), 1, .inl ⟨c, cut_one h, hc, rfl⟩⟩
theorem AtomOk.dot {p : List UInt8} {o i : Nat} (h : p[i]? = some 46) : AtomOk p o i (i + 1) (.cls (fun _ => true)) := by
  refine ⟨by omega, lt_of_at h, fun a => chk_plain h (by decide) (by decide) (by decide) (by decide), 1, .inr (.inl ⟨cut_one h, rfl⟩)⟩
theorem AtomOk.esc {p : List UInt8} {o i : Nat} {c : UInt8} (h : p[i]? = some 92) (hc : p[i + 1]? = some c) : AtomOk p o i (i + 1 + 1) (.byte c) := by
  have hl := lt_of_at hc
  refine ⟨by omega, hl, fun a => by rw [chk_esc h, if_neg (by omega)], 1, .inr (.inr (.inl ⟨c, ?_, rfl⟩))⟩
  rw [cut_cat (show i ≤ i + 1 by omega) (show i + 1 ≤ i + 1 + 1 by omega), cut_one h, cut_one hc]
  rfl
theorem AtomOk.class {p : List UInt8} {o i k : Nat} {f : UInt8 → Bool} (h : p[i]? = some 91) (hc : classM p (i + 1) = .inl (f, k)) : AtomOk p o i k (.cls f) := by
  have hl := classM_gt hc
  exact ⟨by omega, hl.2, fun a => by rw [chk_class h, hc], 1, .inr (.inr (.inr (.inr ⟨p, i, k, f, h, hc, rfl, rfl⟩)))⟩
/-- An atom with the signs behind it. -/
structure OpsOk (p : List UInt8) (o i j k : Nat) (a : Pat) (op rp : Bool) : Prop where
  atom : AtomOk p o i j a
  lt : j ≤ k
  le : k ≤ p.length
  chk : chkM p j o true = chkM p k o true
  ops : ∀ c ∈ cut p j k, isOp c
  opt : op = (cut p j k).any (· != 43)
  rpt : rp = (cut p j k).any (· != 63)
theorem OpsOk.zero {p : List UInt8} {o i j : Nat} {a : Pat} (h : AtomOk p o i j a) : OpsOk p o i j j a false false :=
  ⟨h, Nat.le_refl _, h.le, rfl, by rw [cut_nil]; simp, by rw [cut_nil]; rfl, by rw [cut_nil]; rfl⟩
theorem OpsOk.more {p : List UInt8} {o i j k : Nat} {a : Pat} {op rp : Bool} {c : UInt8} (h : OpsOk p o i j k a op rp) (hc : p[k]? = some c) (hop : isOp c) : OpsOk p o i j (k + 1) a (op || c != 43) (rp || c != 63) := by
  have hcut : cut p j (k + 1) = cut p j k ++ [c] := by rw [cut_cat h.lt (show k ≤ k + 1 by omega), cut_one hc]
  refine ⟨h.atom, by have := h.lt; omega, lt_of_at hc, ?_, ?_, ?_, ?_⟩
  · rw [h.chk, chk_op hc hop, if_pos rfl]
  · rw [hcut]
    intro d hd
    rcases List.mem_append.1 hd with hd | hd
    · exact h.ops d hd
    · simp at hd; subst hd; exact hop
  · rw [hcut, List.any_append, ← h.opt]; simp
  · rw [hcut, List.any_append, ← h.rpt]; simp
theorem OpsOk.rep {p : List UInt8} {o i j k : Nat} {a : Pat} {op rp : Bool} (h : OpsOk p o i j k a op rp) (hn : ∀ c, p[k]? = some c → ¬ isOp c) : RepOk p o i k (if j = k then a else .rep a op rp) := by
  obtain ⟨n, hg⟩ := h.atom.gr
  have h1 := h.atom.lt
  have h2 := h.lt
  refine ⟨by omega, h.le, fun b => by rw [h.atom.chk, h.chk], hn, n, cut p i j, cut p j k, a, cut_cat (by omega) h2, hg, h.ops, ?_⟩
  by_cases hjk : j = k
  · subst hjk; rw [if_pos rfl, if_pos (cut_nil p j)]
  · have : ¬ cut p j k = [] := fun q => by have := cut_len (p := p) (i := j) h.le; rw [q] at this; simp at this; omega
    rw [if_neg hjk, if_neg this, ← h.opt, ← h.rpt]
end Go.Proofs.YtgiigiegjaagbaaDoor

/-
  A class says the same wherever its bytes stand.
-/
namespace Go.Proofs.YtgiigiegjaagbaaDoor
set_option linter.unusedVariables false
set_option linter.unusedSimpArgs false

theorem chM_agree {p q : List UInt8} {i j k : Nat} {c : UInt8} (h : chM p i = (c, k, true)) (ha : ∀ t, i + t < k → q[j + t]? = p[i + t]?) : chM q j = (c, j + (k - i), true) := by
  have hg := chM_gt h
  have h0 := ha 0 (by omega)
  simp only [Nat.add_zero] at h0
  unfold chM at h ⊢
  rw [h0]
  split at h
  · cases h
  · next d hd =>
    split at h
    · cases h
    · next hn =>
      rw [if_neg hn]
      split at h
      · next h92 =>
        rw [if_pos h92]
        split at h
        · cases h
        · next e he =>
          simp only [Prod.mk.injEq, and_true] at h
          obtain ⟨rfl, rfl⟩ := h
          have h1 := ha 1 (by omega)
          rw [h1, he]
          simp only [Prod.mk.injEq, and_true, true_and]
          omega
      · next h92 =>
        rw [if_neg h92]
        simp only [Prod.mk.injEq, and_true] at h
        obtain ⟨rfl, rfl⟩ := h
        simp only [Prod.mk.injEq, and_true, true_and]
        omega
theorem itemM_agree {p q : List UInt8} {i j k : Nat} {a b : UInt8} (h : itemM p i = .inl (a, b, k)) (ha : ∀ t, i + t ≤ k → q[j + t]? = p[i + t]?) : itemM q j = .inl (a, b, j + (k - i)) := by
  unfold itemM at h ⊢
  split at h
  · cases h
  · next lo k1 hk1 =>
    have hg := chM_gt hk1
    split at h
    · next h45 =>
      split at h
      · cases h
      · next hi m hm =>
        have hg2 := chM_gt hm
        split at h
        · cases h
        · next hle =>
          simp only [Sum.inl.injEq, Prod.mk.injEq] at h
          obtain ⟨rfl, rfl, rfl⟩ := h
          have e1 := chM_agree (q := q) (j := j) hk1 (fun t ht => ha t (by omega))
          have e2 : q[j + (k1 - i)]? = some 45 := by rw [ha (k1 - i) (by omega), show i + (k1 - i) = k1 by omega]; exact h45
          have e3 := chM_agree (q := q) (j := j + (k1 - i) + 1) hm (fun t ht => by have := ha (k1 - i + 1 + t) (by omega); rw [show j + (k1 - i) + 1 + t = j + (k1 - i + 1 + t) by omega, this]; congr 1; omega)
          rw [e1]
          simp only []
          rw [if_pos e2, e3]
          simp only []
          rw [if_neg hle]
          simp only [Sum.inl.injEq, Prod.mk.injEq, true_and]
          omega
    · next h45 =>
      simp only [Sum.inl.injEq, Prod.mk.injEq] at h
      obtain ⟨rfl, rfl, rfl⟩ := h
      have e1 := chM_agree (q := q) (j := j) hk1 (fun t ht => ha t (by omega))
      have e2 : ¬ q[j + (k1 - i)]? = some 45 := by rw [ha (k1 - i) (by omega), show i + (k1 - i) = k1 by omega]; exact h45
      rw [e1]
      simp only []
      rw [if_neg e2]
theorem clsM_agree : ∀ (n : Nat) {p q : List UInt8} {i j k : Nat} {b : Bool} {f g : UInt8 → Bool}, p.length - i ≤ n → clsM p i b f = .inl (g, k) → (∀ t, i + t < k → q[j + t]? = p[i + t]?) → clsM q j b f = .inl (g, j + (k - i))
  | n, p, q, i, j, k, b, f, g, hn, h, ha => by
    have hg := clsM_gt _ (Nat.le_refl _) h
    have h0 := ha 0 (by omega)
    simp only [Nat.add_zero] at h0
    rw [clsM] at h
    split at h
    · next hi =>
      have hj : j < q.length := by
        rw [List.getElem?_eq_getElem hi] at h0
        exact lt_of_at h0
      rw [clsM, dif_pos hj, h0]
      split at h
      · next he =>
        rw [if_pos he]
        simp only [Sum.inl.injEq, Prod.mk.injEq] at h
        obtain ⟨rfl, rfl⟩ := h
        simp only [Sum.inl.injEq, Prod.mk.injEq, true_and]
        omega
      · next he =>
        rw [if_neg he]
        split at h
        · cases h
        · next a b' k' hk =>
          have h1 := itemM_gt hk
          have h2 := clsM_gt _ (Nat.le_refl _) h
          have e1 := itemM_agree (q := q) (j := j) hk (fun t ht => ha t (by omega))
          match n, hn with
          | 0, hn => omega
          | n + 1, hn =>
            have e2 := clsM_agree n (q := q) (j := j + (k' - i)) (by omega) h (fun t ht => by have := ha (k' - i + t) (by omega); rw [show j + (k' - i) + t = j + (k' - i + t) by omega, this]; congr 1; omega)
            split
            · next e hh => rw [e1] at hh; cases hh
            · next a2 b2 k2 hh =>
              rw [e1] at hh
              simp only [Sum.inl.injEq, Prod.mk.injEq] at hh
              obtain ⟨rfl, rfl, rfl⟩ := hh
              rw [e2]
              simp only [Sum.inl.injEq, Prod.mk.injEq, true_and]
              omega
    · cases h
theorem classM_agree {p q : List UInt8} {i j k : Nat} {g : UInt8 → Bool} (h : classM p i = .inl (g, k)) (ha : ∀ t, i + t < k → q[j + t]? = p[i + t]?) : classM q j = .inl (g, j + (k - i)) := by
  have hg := classM_gt h
  have h0 := ha 0 (by omega)
  simp only [Nat.add_zero] at h0
  unfold classM at h ⊢
  rw [h0]
  split at h
  · next h94 =>
    rw [if_pos h94]
    split at h
    · next f k' hc =>
      have hg2 := clsM_gt _ (Nat.le_refl _) hc
      simp only [Sum.inl.injEq, Prod.mk.injEq] at h
      obtain ⟨rfl, rfl⟩ := h
      have e := clsM_agree _ (Nat.le_refl _) (q := q) (j := j + 1) hc (fun t ht => by have := ha (1 + t) (by omega); rw [show j + 1 + t = j + (1 + t) by omega, this]; congr 1; omega)
      rw [e]
      simp only [Sum.inl.injEq, Prod.mk.injEq, true_and]
      omega
    · cases h
  · next h94 =>
    rw [if_neg h94]
    exact clsM_agree _ (Nat.le_refl _) h ha
end Go.Proofs.YtgiigiegjaagbaaDoor

/-
  A pattern's bytes as signs and atoms, one behind another.
-/
namespace Go.Proofs.YtgiigiegjaagbaaDoor
set_option linter.unusedVariables false
set_option linter.unusedSimpArgs false

/-- Signs and atoms, one behind another. -/
inductive TokG (A : List UInt8 → Pat → Prop) : List UInt8 → Prop
  | nil : TokG A []
  | sign {c : UInt8} {zs : List UInt8} (hc : c = 124 ∨ isOp c) (h : TokG A zs) : TokG A (c :: zs)
  | atom {xs zs : List UInt8} {t : Pat} (ha : A xs t) (h : TokG A zs) : TokG A (xs ++ zs)
variable {A : List UInt8 → Pat → Prop}
theorem TokG.cat {xs ys : List UInt8} (h : TokG A xs) (k : TokG A ys) : TokG A (xs ++ ys) := by
  induction h with
  | nil => exact k
  | sign hc _ ih => exact .sign hc ih
  | atom ha _ ih => rw [List.append_assoc]; exact .atom ha ih
theorem TokG.ops : ∀ {l : List UInt8}, (∀ c ∈ l, isOp c) → TokG A l
  | [], _ => .nil
  | c :: l, h => .sign (.inr (h c (by simp))) (TokG.ops (fun d hd => h d (by simp [hd])))
theorem RepG.tok {xs : List UInt8} {t : Pat} : RepG A xs t → TokG A xs
  | ⟨ys, ops, a, h1, h2, h3, _⟩ => by rw [h1]; exact .atom h2 (TokG.ops h3)
theorem SeqG.tok : ∀ {ts : List Pat} {xs : List UInt8}, SeqG A ts xs → TokG A xs
  | [], _, h => by rw [show _ = [] from h]; exact .nil
  | _ :: _, _, ⟨ys, zs, h1, h2, h3⟩ => by rw [h1]; exact h2.tok.cat (SeqG.tok h3)
theorem AltG.tok : ∀ {os : List (List Pat)} {xs : List UInt8}, AltG A os xs → TokG A xs
  | [], _, h => h.elim
  | [_], _, h => SeqG.tok h
  | _ :: _ :: _, _, ⟨ys, zs, h1, h2, h3⟩ => by rw [h1]; exact h2.tok.cat (.sign (.inl rfl) (AltG.tok h3))
/-- The first byte of an atom is none of the signs. -/
theorem AtomG.first : ∀ {n : Nat} {xs : List UInt8} {t : Pat}, AtomG n xs t → ∃ c ys, xs = c :: ys ∧ ¬ c = 41 ∧ ¬ c = 124 ∧ ¬ isOp c
  | 0, _, _, h => h.elim
  | n + 1, xs, t, h => by
    rcases h with ⟨c, rfl, hs, _⟩ | ⟨rfl, _⟩ | ⟨c, rfl, _⟩ | ⟨ys, os, rfl, _, _⟩ | ⟨p, i, k, f, h1, h2, rfl, _⟩
    · exact ⟨c, [], rfl, fun q => hs (.inl (.inr (.inr (.inl q)))), fun q => hs (.inl (.inr (.inl q))), fun q => hs (.inl (.inl q))⟩
    · exact ⟨46, [], rfl, by decide, by decide, by decide⟩
    · exact ⟨92, [c], rfl, by decide, by decide, by decide⟩
    · exact ⟨40, ys ++ [41], rfl, by decide, by decide, by decide⟩
    · have hg := classM_gt h2
      refine ⟨91, cut p (i + 1) k, ?_, by decide, by decide, by decide⟩
      rw [cut_cat (show i ≤ i + 1 by omega) (show i + 1 ≤ k by omega), cut_one h1]
      rfl
/-- A class that stands at i in whatever p. -/
theorem class_here {p : List UInt8} {i k : Nat} {q : List UInt8} {j m : Nat} {f : UInt8 → Bool} (h1 : q[j]? = some 91) (h2 : classM q (j + 1) = .inl (f, m)) (hc : cut p i k = cut q j m) (hk : k ≤ p.length) (hik : i < k) : p[i]? = some 91 ∧ classM p (i + 1) = .inl (f, k) := by
  have hg := classM_gt h2
  have hl : k - i = m - j := by have h3 := congrArg List.length hc; rw [cut_len hk, cut_len hg.2] at h3; exact h3
  have hat : ∀ t, t < k - i → p[i + t]? = q[j + t]? := fun t ht => by
    have h3 := congrArg (fun l => l[t]?) hc
    simp only [cut, List.getElem?_take, List.getElem?_drop] at h3
    rw [if_pos ht, if_pos (by omega)] at h3
    exact h3
  refine ⟨by have := hat 0 (by omega); simpa [h1] using this, ?_⟩
  have e := classM_agree (q := p) (j := i + 1) h2 (fun t ht => by have := hat (1 + t) (by omega); rw [show i + 1 + t = i + (1 + t) by omega, this]; congr 1; omega)
  rw [e]
  simp only [Sum.inl.injEq, Prod.mk.injEq, true_and]
  omega
end Go.Proofs.YtgiigiegjaagbaaDoor

/-
  What a pattern begins with, as a function of its nodes.
-/
namespace Go.Proofs.YtgiigiegjaagbaaDoor
set_option linter.unusedVariables false
set_option linter.unusedSimpArgs false

/-- What a seq of nodes begins with; whether that is all of it. -/
def prefM : List Pat → List UInt8 × Bool
  | [] => ([], true)
  | .byte c :: ts => (c :: (prefM ts).1, (prefM ts).2)
  | .cls _ :: _ => ([], false)
  | .rep _ _ _ :: _ => ([], false)
  | .alt _ :: _ => ([], false)
def prefOf : List (List Pat) → List UInt8 × Bool
  | [ts] => prefM ts
  | _ => ([], false)
def isByte : Pat → Prop
  | .byte _ => True
  | _ => False
theorem prefM_not {t : Pat} (h : ¬ isByte t) (ts : List Pat) : prefM (t :: ts) = ([], false) := by
  cases t with
  | byte b => exact (h trivial).elim
  | _ => rfl
theorem prefM_len : ∀ ts : List Pat, (prefM ts).1.length ≤ ts.length
  | [] => Nat.le_refl _
  | .byte c :: ts => by simp only [prefM, List.length_cons]; have := prefM_len ts; omega
  | .cls _ :: _ => Nat.zero_le _
  | .rep _ _ _ :: _ => Nat.zero_le _
  | .alt _ :: _ => Nat.zero_le _

/-- Signs and atoms with so many bars between them. -/
inductive TokN (A : List UInt8 → Pat → Prop) : Nat → List UInt8 → Prop
  | nil : TokN A 0 []
  | bar {k : Nat} {zs : List UInt8} (h : TokN A k zs) : TokN A (k + 1) (124 :: zs)
  | op {k : Nat} {c : UInt8} {zs : List UInt8} (hc : isOp c) (h : TokN A k zs) : TokN A k (c :: zs)
  | atom {k : Nat} {xs zs : List UInt8} {t : Pat} (ha : A xs t) (h : TokN A k zs) : TokN A k (xs ++ zs)
variable {A : List UInt8 → Pat → Prop}
theorem TokN.cat {k m : Nat} {xs ys : List UInt8} (h : TokN A k xs) (q : TokN A m ys) : TokN A (k + m) (xs ++ ys) := by
  induction h with
  | nil => simpa using q
  | bar _ ih => rw [show ∀ k, k + 1 + m = (k + m) + 1 from fun k => by omega]; exact .bar ih
  | op hc _ ih => exact .op hc ih
  | atom ha _ ih => rw [List.append_assoc]; exact .atom ha ih
theorem TokN.ops : ∀ {l : List UInt8}, (∀ c ∈ l, isOp c) → TokN A 0 l
  | [], _ => .nil
  | c :: l, h => .op (h c (by simp)) (TokN.ops (fun d hd => h d (by simp [hd])))
theorem RepG.tokn {xs : List UInt8} {t : Pat} : RepG A xs t → TokN A 0 xs
  | ⟨ys, ops, a, h1, h2, h3, _⟩ => by rw [h1]; exact .atom h2 (TokN.ops h3)
theorem SeqG.tokn : ∀ {ts : List Pat} {xs : List UInt8}, SeqG A ts xs → TokN A 0 xs
  | [], _, h => by rw [show _ = [] from h]; exact .nil
  | _ :: _, _, ⟨ys, zs, h1, h2, h3⟩ => by rw [h1]; simpa using h2.tokn.cat (SeqG.tokn h3)
theorem AltG.tokn : ∀ {os : List (List Pat)} {xs : List UInt8}, AltG A os xs → ∃ k, os.length = k + 1 ∧ TokN A k xs
  | [], _, h => h.elim
  | [_], _, h => ⟨0, rfl, SeqG.tokn h⟩
  | _ :: o :: os, _, ⟨ys, zs, h1, h2, h3⟩ => by
    obtain ⟨k, hk, hT⟩ := AltG.tokn h3
    refine ⟨k + 1, by simp at hk ⊢; omega, ?_⟩
    rw [h1]
    have := h2.tokn.cat (TokN.bar hT)
    simpa using this
theorem tokn_step {k : Nat} {xs : List UInt8} (h : TokN A k xs) : (xs = [] ∧ k = 0) ∨ (∃ m zs, xs = 124 :: zs ∧ k = m + 1 ∧ TokN A m zs) ∨ (∃ c zs, xs = c :: zs ∧ isOp c ∧ TokN A k zs) ∨ (∃ ys zs t, xs = ys ++ zs ∧ A ys t ∧ TokN A k zs) := by
  cases h with
  | nil => exact .inl ⟨rfl, rfl⟩
  | bar h => exact .inr (.inl ⟨_, _, rfl, rfl, h⟩)
  | op hc h => exact .inr (.inr (.inl ⟨_, _, rfl, hc, h⟩))
  | atom ha h => exact .inr (.inr (.inr ⟨_, _, _, rfl, ha, h⟩))
theorem cutHead {p : List UInt8} {j m : Nat} {c : UInt8} {zs : List UInt8} (h : cut p j m = c :: zs) (hm : m ≤ p.length) : p[j]? = some c ∧ cut p (j + 1) m = zs ∧ j < m := by
  have hl := congrArg List.length h
  rw [cut_len hm] at hl
  simp at hl
  have hj : j < m := by omega
  obtain ⟨d, hd⟩ : ∃ d, p[j]? = some d := ⟨_, List.getElem?_eq_getElem (by omega)⟩
  rw [cut_cat (show j ≤ j + 1 by omega) (show j + 1 ≤ m by omega), cut_one hd] at h
  simp at h
  exact ⟨by rw [hd, h.1], h.2, hj⟩
theorem cutTwo {p : List UInt8} {j m : Nat} {xs zs : List UInt8} (h : cut p j m = xs ++ zs) (hm : m ≤ p.length) (hjm : j ≤ m) : cut p j (j + xs.length) = xs ∧ cut p (j + xs.length) m = zs ∧ j + xs.length ≤ m := by
  have hl := congrArg List.length h
  rw [cut_len hm, List.length_append] at hl
  have h1 := cut_cat (p := p) (show j ≤ j + xs.length by omega) (show j + xs.length ≤ m by omega)
  rw [h] at h1
  have h2 := List.append_inj h1 (by rw [cut_len (by omega)]; omega)
  exact ⟨h2.1.symm, h2.2.symm, by omega⟩
/-- The byte of an atom that is a byte stands at its end; every other one begins with a sign. -/
theorem AtomG.byte : ∀ {n : Nat} {xs : List UInt8} {t : Pat}, AtomG n xs t → ∃ c ys, xs = c :: ys ∧ ((∃ b, t = .byte b ∧ xs.getLast? = some b ∧ (¬ special c ∨ c = 92)) ∨ (¬ isByte t ∧ special c ∧ ¬ c = 92))
  | 0, _, _, h => h.elim
  | n + 1, xs, t, h => by
    rcases h with ⟨c, rfl, hs, rfl⟩ | ⟨rfl, rfl⟩ | ⟨c, rfl, rfl⟩ | ⟨ys, os, rfl, _, rfl⟩ | ⟨p, i, k, f, h1, h2, rfl, rfl⟩
    · exact ⟨c, [], rfl, .inl ⟨c, rfl, rfl, .inl hs⟩⟩
    · exact ⟨46, [], rfl, .inr ⟨fun h => h, by decide, by decide⟩⟩
    · exact ⟨92, [c], rfl, .inl ⟨c, rfl, rfl, .inr rfl⟩⟩
    · exact ⟨40, ys ++ [41], rfl, .inr ⟨fun h => h, by decide, by decide⟩⟩
    · have hg := classM_gt h2
      refine ⟨91, cut p (i + 1) k, ?_, .inr ⟨fun h => h, by decide, by decide⟩⟩
      rw [cut_cat (show i ≤ i + 1 by omega) (show i + 1 ≤ k by omega), cut_one h1]
      rfl
/-- One step of a seq, from the left. -/
structure SeqStep (n : Nat) (p : List UInt8) (i m j : Nat) (c : UInt8) (a t : Pat) (ts : List Pat) : Prop where
  atom : AtomG n (cut p i j) a
  lt : i < j
  le : j ≤ m
  at0 : p[i]? = some c
  what : (∃ b, t = .byte b ∧ (¬ special c ∨ c = 92) ∧ (∀ d, p[j]? = some d → j < m → ¬ isOp d) ∧ p[j - 1]? = some b ∧ SeqG (AtomG n) ts (cut p j m)) ∨ (¬ isByte t ∧ ((special c ∧ ¬ c = 92) ∨ ((¬ special c ∨ c = 92) ∧ ∃ d, p[j]? = some d ∧ isOp d ∧ j < m)))
theorem seq_step {n : Nat} {p : List UInt8} {i m : Nat} {ts : List Pat} (h : SeqG (AtomG n) ts (cut p i m)) (hm : m ≤ p.length) (him : i < m) : ∃ t ts' j c a, ts = t :: ts' ∧ SeqStep n p i m j c a t ts' := by
  cases ts with
  | nil =>
    have hl := cut_len (p := p) (i := i) hm
    rw [show cut p i m = [] from h] at hl
    simp at hl
    omega
  | cons t ts' =>
    obtain ⟨ys, zs, h1, ⟨xa, ops, a, h2, h3, h4, h5⟩, h6⟩ := h
    rw [h2, List.append_assoc] at h1
    obtain ⟨c1, c2, c3⟩ := cutTwo h1 hm (by omega)
    obtain ⟨c, xb, hc, hw⟩ := h3.byte
    have hal : 0 < xa.length := by rw [hc]; simp
    obtain ⟨p0, _, _⟩ := cutHead (c1.trans hc) (by omega)
    refine ⟨t, ts', i + xa.length, c, a, rfl, ⟨by rw [c1]; exact h3, by omega, c3, p0, ?_⟩⟩
    cases ops with
    | nil =>
      have hta : t = a := h5
      subst hta
      rw [List.nil_append] at c2
      rcases hw with ⟨b, hb, hlast, hs⟩ | ⟨hb, hs⟩
      · left
        refine ⟨b, hb, hs, ?_, ?_, by rw [c2]; exact h6⟩
        · intro d hd hlt
          cases ts' with
          | nil =>
            have hl := cut_len (p := p) (i := i + xa.length) hm
            rw [c2, show zs = [] from h6] at hl
            simp at hl
            omega
          | cons t2 ts2 =>
            obtain ⟨ys2, zs2, e1, ⟨xa2, ops2, a2, e2, e3, _, _⟩, _⟩ := h6
            obtain ⟨c2', xa3, hc2, _, _, hn⟩ := e3.first
            rw [e1, e2, hc2] at c2
            have := (cutHead (p := p) (c := c2') (zs := xa3 ++ ops2 ++ zs2) (by rw [c2]; simp) hm).1
            rw [hd] at this
            rw [Option.some.inj this]
            exact hn
        · have hg : xa[xa.length - 1]? = some b := by rw [← List.getLast?_eq_getElem?]; exact hlast
          have e := congrArg (fun l => l[xa.length - 1]?) c1
          simp only [cut, List.getElem?_take, List.getElem?_drop] at e
          rw [if_pos (by omega), hg] at e
          rw [show i + xa.length - 1 = i + (xa.length - 1) by omega]
          exact e
      · exact .inr ⟨hb, .inl hs⟩
    | cons o ops =>
      right
      have hnb : ¬ isByte t := by rw [h5, if_neg (by simp)]; exact fun h => h
      refine ⟨hnb, ?_⟩
      obtain ⟨q1, _, q3⟩ := cutHead (p := p) (c := o) (zs := ops ++ zs) (by rw [c2]; simp) hm
      rcases hw with ⟨b, hb, hlast, hs⟩ | ⟨hb, hs⟩
      · exact .inr ⟨hs, o, q1, h4 o (by simp), q3⟩
      · exact .inl hs
theorem seq_done {n : Nat} {p : List UInt8} {m : Nat} {ts : List Pat} (h : SeqG (AtomG n) ts (cut p m m)) (hm : m ≤ p.length) : ts = [] := by
  cases ts with
  | nil => rfl
  | cons t ts =>
    obtain ⟨ys, zs, h1, ⟨xa, ops, a, h2, h3, _, _⟩, _⟩ := h
    obtain ⟨c, xb, hc, _⟩ := h3.first
    rw [cut_nil, h2, hc] at h1
    simp at h1
end Go.Proofs.YtgiigiegjaagbaaDoor

/-
  A pattern is read in one way.
-/
namespace Go.Proofs.YtgiigiegjaagbaaDoor
set_option linter.unusedVariables false
set_option linter.unusedSimpArgs false

/-- What an atom is, by its first byte. -/
inductive Tag (n : Nat) : UInt8 → List UInt8 → Pat → Prop
  | plain {c : UInt8} (h : ¬ special c) : Tag n c [] (.byte c)
  | dot : Tag n 46 [] (.cls (fun _ => true))
  | esc {d : UInt8} : Tag n 92 [d] (.byte d)
  | group {ys : List UInt8} {os : List (List Pat)} (h : AltG (AtomG n) os ys) : Tag n 40 (ys ++ [41]) (.alt os)
  | cls {zs : List UInt8} {f : UInt8 → Bool} (h : ∀ r, classM (91 :: zs ++ r) 1 = .inl (f, zs.length + 1)) : Tag n 91 zs (.cls f)
theorem AtomG.tag {n : Nat} {xs : List UInt8} {t : Pat} (h : AtomG (n + 1) xs t) : ∃ c zs, xs = c :: zs ∧ Tag n c zs t := by
  rcases h with ⟨c, rfl, hs, rfl⟩ | ⟨rfl, rfl⟩ | ⟨c, rfl, rfl⟩ | ⟨ys, os, rfl, ho, rfl⟩ | ⟨p, i, k, f, h1, h2, rfl, rfl⟩
  · exact ⟨c, [], rfl, .plain hs⟩
  · exact ⟨46, [], rfl, .dot⟩
  · exact ⟨92, [c], rfl, .esc⟩
  · exact ⟨40, ys ++ [41], rfl, .group ho⟩
  · have hg := classM_gt h2
    have e : cut p i k = 91 :: cut p (i + 1) k := by
      rw [cut_cat (show i ≤ i + 1 by omega) (show i + 1 ≤ k by omega), cut_one h1]; rfl
    refine ⟨91, _, e, .cls fun r => ?_⟩
    have hl := congrArg List.length e
    rw [List.length_cons] at hl
    have h3 := class_here (p := 91 :: cut p (i + 1) k ++ r) (i := 0) (k := (cut p (i + 1) k).length + 1) h1 h2 ?_ (by simp) (by omega)
    · exact h3.2
    · rw [← hl, ← e]
      show (List.drop 0 (cut p i k ++ r)).take ((cut p i k).length - 0) = _
      rw [List.drop_zero, Nat.sub_zero, List.take_left]
/-- Signs and atoms up to a bracket that closes: one way. -/
theorem tok_one {A B : List UInt8 → Pat → Prop} (hA : ∀ ys t, A ys t → ∃ c zs, ys = c :: zs ∧ ¬ c = 41 ∧ ¬ c = 124 ∧ ¬ isOp c) (hB : ∀ ys t, B ys t → ∃ c zs, ys = c :: zs ∧ ¬ c = 41 ∧ ¬ c = 124 ∧ ¬ isOp c)
    (U : ∀ xs ys t t' r r', A xs t → B ys t' → xs ++ r = ys ++ r' → xs = ys) {xs : List UInt8} (h : TokG A xs) : ∀ {ys r r' : List UInt8}, TokG B ys → xs ++ 41 :: r = ys ++ 41 :: r' → xs = ys := by
  induction h with
  | nil =>
    intro ys r r' k e
    cases k with
    | nil => rfl
    | sign hc _ =>
      simp at e
      exfalso
      rw [← e.1] at hc
      rcases hc with q | q | q | q <;> exact absurd q (by decide)
    | atom ha _ =>
      obtain ⟨c, zs, rfl, n41, _⟩ := hB _ _ ha
      simp at e
      exact absurd e.1.symm n41
  | @sign c zs hc h ih =>
    intro ys r r' k e
    cases k with
    | nil =>
      simp at e
      exfalso
      rw [e.1] at hc
      rcases hc with q | q | q | q <;> exact absurd q (by decide)
    | sign hc' k' =>
      simp at e
      rw [e.1, ih k' e.2]
    | atom ha _ =>
      obtain ⟨c, zs, rfl, _, n124, nop⟩ := hB _ _ ha
      simp at e
      rw [e.1] at hc
      exact absurd hc (fun q => q.elim n124 nop)
  | @atom us zs t ha h ih =>
    intro ys r r' k e
    cases k with
    | nil =>
      obtain ⟨c, zs, rfl, n41, _⟩ := hA _ _ ha
      simp at e
      exact absurd e.1 n41
    | sign hc' k' =>
      obtain ⟨c, zs, rfl, _, n124, nop⟩ := hA _ _ ha
      simp at e
      rw [← e.1] at hc'
      exact absurd hc' (fun q => q.elim n124 nop)
    | atom hb k' =>
      rw [List.append_assoc, List.append_assoc] at e
      have q := U _ _ _ _ _ _ ha hb e
      subst q
      rw [ih k' (List.append_cancel_left e)]
theorem atom_one : ∀ {n m : Nat} {xs ys : List UInt8} {t t' : Pat} {r r' : List UInt8}, AtomG n xs t → AtomG m ys t' → xs ++ r = ys ++ r' → xs = ys
  | 0, _, _, _, _, _, _, _, h, _, _ => h.elim
  | _ + 1, 0, _, _, _, _, _, _, _, h, _ => h.elim
  | n + 1, m + 1, xs, ys, t, t', r, r', h, k, e => by
    obtain ⟨c, zs, rfl, hT⟩ := h.tag
    obtain ⟨c', zs', rfl, hT'⟩ := k.tag
    simp only [List.cons_append, List.cons.injEq] at e
    obtain ⟨rfl, e⟩ := e
    congr 1
    cases hT with
    | plain h1 =>
      cases hT' with
      | plain _ => rfl
      | dot => rfl
      | esc => exact absurd h1 (by decide)
      | group _ => exact absurd h1 (by decide)
      | cls _ => exact absurd h1 (by decide)
    | dot =>
      cases hT' with
      | plain _ => rfl
      | dot => rfl
    | esc =>
      cases hT' with
      | plain h1 => exact absurd h1 (by decide)
      | esc => simp at e; rw [e.1]
    | group h1 =>
      cases hT' with
      | plain h1 => exact absurd h1 (by decide)
      | group h2 =>
        rw [List.append_assoc, List.append_assoc] at e
        rw [tok_one (fun ys t q => q.first) (fun ys t q => q.first) (fun xs ys t t' r r' a b e => atom_one a b e) h1.tok h2.tok e]
    | cls h1 =>
      cases hT' with
      | plain h1 => exact absurd h1 (by decide)
      | cls h2 =>
        have a := h1 r
        have b := h2 r'
        rw [List.cons_append, e] at a
        rw [List.cons_append, a] at b
        simp at b
        exact (List.append_inj e b.2).1
/-- Bytes and signs: the number of bars is one. -/
theorem tokn_one {n m : Nat} {k : Nat} {xs : List UInt8} (h : TokN (AtomG n) k xs) : ∀ {j : Nat} {ys : List UInt8}, TokN (AtomG m) j ys → xs = ys → k = j := by
  induction h with
  | nil =>
    intro j ys q e
    cases q with
    | nil => rfl
    | bar _ => cases e
    | op _ _ => cases e
    | atom ha _ => obtain ⟨c, zs, rfl, _⟩ := ha.first; cases e
  | bar h ih =>
    intro j ys q e
    cases q with
    | nil => cases e
    | bar q' => simp at e; rw [ih q' e]
    | op hc _ => simp at e; rw [← e.1] at hc; exact absurd hc (by decide)
    | atom ha _ => obtain ⟨c, zs, rfl, _, n124, _⟩ := ha.first; simp at e; exact absurd e.1.symm n124
  | op hc h ih =>
    intro j ys q e
    cases q with
    | nil => cases e
    | bar _ => simp at e; rw [e.1] at hc; exact absurd hc (by decide)
    | op hc' q' => simp at e; exact ih q' e.2
    | atom ha _ => obtain ⟨c, zs, rfl, _, _, nop⟩ := ha.first; simp at e; rw [e.1] at hc; exact absurd hc nop
  | atom ha h ih =>
    intro j ys q e
    cases q with
    | nil => obtain ⟨c, zs, rfl, _⟩ := ha.first; cases e
    | bar _ => obtain ⟨c, zs, rfl, _, n124, _⟩ := ha.first; simp at e; exact absurd e.1 n124
    | op hc _ => obtain ⟨c, zs, rfl, _, _, nop⟩ := ha.first; simp at e; rw [← e.1] at hc; exact absurd hc nop
    | atom hb q' =>
      have u := atom_one ha hb e
      subst u
      exact ih q' (List.append_cancel_left e)
theorem prefM_one {n m : Nat} {p : List UInt8} : ∀ {ts us : List Pat} {i : Nat}, i ≤ p.length → SeqG (AtomG n) ts (cut p i p.length) → SeqG (AtomG m) us (cut p i p.length) → prefM ts = prefM us
  | [], us, i, hi, h, k => by
    have hip : i = p.length := by
      have hl := cut_len (p := p) (i := i) (Nat.le_refl _)
      rw [show cut p i p.length = [] from h] at hl
      simp at hl
      omega
    subst hip
    rw [seq_done k (Nat.le_refl _)]
  | t :: ts, us, i, hi, h, k => by
    have him : i < p.length := by
      refine Nat.lt_of_le_of_ne hi fun q => ?_
      subst q
      exact absurd (seq_done h (Nat.le_refl _)) (by simp)
    obtain ⟨t1, ts1, j, c, a, e1, h1⟩ := seq_step h (Nat.le_refl _) him
    obtain ⟨rfl, rfl⟩ : t1 = t ∧ ts1 = ts := by simpa using e1.symm
    obtain ⟨u1, us1, j', c', a', rfl, k1⟩ := seq_step k (Nat.le_refl _) him
    have e2 := atom_one (r := cut p j p.length) (r' := cut p j' p.length) h1.atom k1.atom (by rw [← cut_cat (Nat.le_of_lt h1.lt) h1.le, ← cut_cat (Nat.le_of_lt k1.lt) k1.le])
    have e3 : j = j' := by
      have hl := congrArg List.length e2
      rw [cut_len h1.le, cut_len k1.le] at hl
      have := h1.lt
      have := k1.lt
      omega
    subst e3
    obtain rfl : c = c' := Option.some.inj (h1.at0.symm.trans k1.at0)
    rcases h1.what with ⟨b, rfl, hs, hn, hb, hS⟩ | ⟨hnb, hw⟩
    · rcases k1.what with ⟨b', rfl, _, _, hb', kS⟩ | ⟨_, (⟨s1, s2⟩ | ⟨_, d, hd, hop, hlt⟩)⟩
      · obtain rfl : b = b' := Option.some.inj (hb.symm.trans hb')
        simp only [prefM]
        rw [prefM_one h1.le hS kS]
      · exact absurd hs (fun q => q.elim (fun z => z s1) s2)
      · exact absurd hop (hn d hd hlt)
    · rw [prefM_not hnb]
      rcases k1.what with ⟨b', rfl, hs, hn, hb', kS⟩ | ⟨knb, _⟩
      · rcases hw with ⟨s1, s2⟩ | ⟨_, d, hd, hop, hlt⟩
        · exact absurd hs (fun q => q.elim (fun z => z s1) s2)
        · exact absurd hop (hn d hd hlt)
      · rw [prefM_not knb]
theorem prefOf_one {p : List UInt8} {os us : List (List Pat)} (h : AltOk p 0 0 p.length os) (k : AltOk p 0 0 p.length us) : prefOf os = prefOf us := by
  obtain ⟨n, h1⟩ := h.gr
  obtain ⟨m, k1⟩ := k.gr
  obtain ⟨j, hj, hT⟩ := h1.tokn
  obtain ⟨j', hj', kT⟩ := k1.tokn
  have e := tokn_one hT kT rfl
  match os, us, h1, k1, hj, hj' with
  | [ts], [us], h1, k1, _, _ => exact prefM_one (Nat.zero_le _) h1 k1
  | [ts], u :: v :: us, h1, k1, hj, hj' => simp at hj hj'; omega
  | t :: v :: ts, [us], h1, k1, hj, hj' => simp at hj hj'; omega
  | t :: v :: ts, u :: x :: us, h1, k1, hj, hj' => rfl
end Go.Proofs.YtgiigiegjaagbaaDoor

/-
  A pattern's text is read in one way.
-/
namespace Go.Proofs.YtgiigiegjaagbaaDoor
set_option linter.unusedVariables false
set_option linter.unusedSimpArgs false

/-- Nothing, or a byte that the test holds of. -/
def Hd (Q : UInt8 → Prop) (r : List UInt8) : Prop := r = [] ∨ ∃ c zs, r = c :: zs ∧ Q c
theorem Hd.mono {Q R : UInt8 → Prop} (h : ∀ c, Q c → R c) {r : List UInt8} : Hd Q r → Hd R r
  | .inl q => .inl q
  | .inr ⟨c, zs, h1, h2⟩ => .inr ⟨c, zs, h1, h c h2⟩
theorem ops_uni : ∀ (a b : List UInt8) {r r' : List UInt8}, (∀ c ∈ a, isOp c) → (∀ c ∈ b, isOp c) → Hd (fun c => ¬ isOp c) r → Hd (fun c => ¬ isOp c) r' → a ++ r = b ++ r' → a = b ∧ r = r'
  | [], [], r, r', _, _, _, _, h => ⟨rfl, by simpa using h⟩
  | x :: a, [], r, r', ha, _, _, hr', h => by
    rcases hr' with rfl | ⟨c, zs, rfl, hc⟩
    · cases h
    · simp only [List.cons_append, List.nil_append, List.cons.injEq] at h
      exact absurd (h.1 ▸ ha x (by simp)) hc
  | [], y :: b, r, r', _, hb, hr, _, h => by
    rcases hr with rfl | ⟨c, zs, rfl, hc⟩
    · cases h
    · simp only [List.cons_append, List.nil_append, List.cons.injEq] at h
      exact absurd (h.1 ▸ hb y (by simp)) hc
  | x :: a, y :: b, r, r', ha, hb, hr, hr', h => by
    simp only [List.cons_append, List.cons.injEq] at h
    obtain ⟨h1, h2⟩ := ops_uni a b (fun c hc => ha c (by simp [hc])) (fun c hc => hb c (by simp [hc])) hr hr' h.2
    exact ⟨by rw [h.1, h1], h2⟩
theorem hd_bar (zs : List UInt8) : Hd (fun c => c = 41 ∨ c = 124) (124 :: zs) := .inr ⟨124, zs, rfl, .inr rfl⟩
section
variable {n m : Nat} (hU : ∀ xs t t', AtomG n xs t → AtomG m xs t' → t = t')
include hU
theorem rep_uni {xs ys r r' : List UInt8} {t t' : Pat} (h : RepG (AtomG n) xs t) (k : RepG (AtomG m) ys t') (hr : Hd (fun c => ¬ isOp c) r) (hr' : Hd (fun c => ¬ isOp c) r') (e : xs ++ r = ys ++ r') : xs = ys ∧ t = t' ∧ r = r' := by
  obtain ⟨a, o, u, rfl, h2, h3, rfl⟩ := h
  obtain ⟨a', o', u', rfl, k2, k3, rfl⟩ := k
  rw [List.append_assoc, List.append_assoc] at e
  have ea := atom_one h2 k2 e
  subst ea
  obtain rfl := hU _ _ _ h2 k2
  obtain ⟨rfl, rfl⟩ := ops_uni o o' h3 k3 hr hr' (List.append_cancel_left e)
  exact ⟨rfl, rfl, rfl⟩
theorem seq_uni : ∀ {ts us : List Pat} {xs ys r r' : List UInt8}, SeqG (AtomG n) ts xs → SeqG (AtomG m) us ys → Hd (fun c => c = 41 ∨ c = 124) r → Hd (fun c => c = 41 ∨ c = 124) r' → xs ++ r = ys ++ r' → ts = us ∧ xs = ys ∧ r = r'
  | [], [], xs, ys, r, r', h, k, hr, hr', e => by
    have h : xs = [] := h
    have k : ys = [] := k
    subst h k
    exact ⟨rfl, rfl, by simpa using e⟩
  | t :: ts, [], xs, ys, r, r', h, k, hr, hr', e => by
    have k : ys = [] := k
    subst k
    obtain ⟨as_, zs, rfl, ⟨a, o, u, rfl, h2, h3, _⟩, h4⟩ := h
    obtain ⟨c, yt, rfl, n1, n2, n3⟩ := h2.first
    rcases hr' with rfl | ⟨c', zs', rfl, hc⟩
    · simp at e
    · simp only [List.cons_append, List.nil_append, List.cons.injEq] at e
      rcases hc with q | q
      · exact absurd (e.1.trans q) n1
      · exact absurd (e.1.trans q) n2
  | [], u :: us, xs, ys, r, r', h, k, hr, hr', e => by
    have h : xs = [] := h
    subst h
    obtain ⟨as_, zs, rfl, ⟨a, o, u', rfl, h2, h3, _⟩, h4⟩ := k
    obtain ⟨c, yt, rfl, n1, n2, n3⟩ := h2.first
    rcases hr with rfl | ⟨c', zs', rfl, hc⟩
    · simp at e
    · simp only [List.cons_append, List.nil_append, List.cons.injEq] at e
      rcases hc with q | q
      · exact absurd (e.1.symm.trans q) n1
      · exact absurd (e.1.symm.trans q) n2
  | t :: ts, u :: us, xs, ys, r, r', h, k, hr, hr', e => by
    obtain ⟨as_, zs, rfl, h2, h3⟩ := h
    obtain ⟨bs, ws, rfl, k2, k3⟩ := k
    have hd : ∀ {j : Nat} {vs : List Pat} {qs rr : List UInt8}, SeqG (AtomG j) vs qs → Hd (fun c => c = 41 ∨ c = 124) rr → Hd (fun c => ¬ isOp c) (qs ++ rr) := fun {j vs qs rr} hq hrr => by
      cases vs with
      | nil =>
        have hq : qs = [] := hq
        subst hq
        refine hrr.mono (fun c hc => ?_)
        rcases hc with rfl | rfl
        · unfold isOp; decide
        · unfold isOp; decide
      | cons v vs =>
        obtain ⟨a1, z1, rfl, ⟨a, o, u', rfl, g2, g3, _⟩, g4⟩ := hq
        obtain ⟨c, yt, rfl, n1, n2, n3⟩ := g2.first
        exact .inr ⟨c, _, by simp only [List.cons_append]; rfl, n3⟩
    rw [List.append_assoc, List.append_assoc] at e
    obtain ⟨rfl, rfl, e2⟩ := rep_uni hU h2 k2 (hd h3 hr) (hd k3 hr') e
    obtain ⟨rfl, rfl, e3⟩ := seq_uni h3 k3 hr hr' e2
    exact ⟨rfl, rfl, e3⟩
theorem alt_uni : ∀ {os us : List (List Pat)} {xs ys r r' : List UInt8}, AltG (AtomG n) os xs → AltG (AtomG m) us ys → Hd (fun c => c = 41) r → Hd (fun c => c = 41) r' → xs ++ r = ys ++ r' → os = us ∧ xs = ys
  | [], _, _, _, _, _, h, _, _, _, _ => h.elim
  | _ :: _, [], _, _, _, _, _, k, _, _, _ => k.elim
  | [ts], [us], xs, ys, r, r', h, k, hr, hr', e => by
    obtain ⟨rfl, rfl, _⟩ := seq_uni hU (ts := ts) (us := us) h k (hr.mono (fun c q => .inl q)) (hr'.mono (fun c q => .inl q)) e
    exact ⟨rfl, rfl⟩
  | [ts], u1 :: u2 :: us, xs, ys, r, r', h, ⟨a, z, k1, k2, k3⟩, hr, hr', e => by
    subst k1
    rw [List.append_assoc, List.cons_append] at e
    obtain ⟨_, _, e3⟩ := seq_uni hU (ts := ts) (us := u1) h k2 (hr.mono (fun c q => .inl q)) (hd_bar _) e
    rcases hr with rfl | ⟨c, zs, rfl, hc⟩
    · cases e3
    · simp only [List.cons.injEq] at e3
      rw [hc] at e3
      exact absurd e3.1 (by decide)
  | t1 :: t2 :: ts, [us], xs, ys, r, r', ⟨a, z, h1, h2, h3⟩, k, hr, hr', e => by
    subst h1
    rw [List.append_assoc, List.cons_append] at e
    obtain ⟨_, _, e3⟩ := seq_uni hU (ts := t1) (us := us) h2 k (hd_bar _) (hr'.mono (fun c q => .inl q)) e
    rcases hr' with rfl | ⟨c, zs, rfl, hc⟩
    · cases e3
    · simp only [List.cons.injEq] at e3
      rw [hc] at e3
      exact absurd e3.1 (by decide)
  | t1 :: t2 :: ts, u1 :: u2 :: us, xs, ys, r, r', ⟨a, z, h1, h2, h3⟩, ⟨b, y, k1, k2, k3⟩, hr, hr', e => by
    subst h1 k1
    rw [List.append_assoc, List.append_assoc, List.cons_append, List.cons_append] at e
    obtain ⟨rfl, rfl, e3⟩ := seq_uni hU h2 k2 (hd_bar _) (hd_bar _) e
    simp only [List.cons.injEq, true_and] at e3
    obtain ⟨e4, rfl⟩ := alt_uni h3 k3 hr hr' e3
    exact ⟨by rw [e4], rfl⟩
end
theorem atom_uni : ∀ (n : Nat) {m : Nat} (xs : List UInt8) (t t' : Pat), AtomG n xs t → AtomG m xs t' → t = t'
  | 0, _, _, _, _, h, _ => h.elim
  | n + 1, 0, _, _, _, _, k => k.elim
  | n + 1, m + 1, xs, t, t', h, k => by
    have hu : ∀ xs t t', AtomG n xs t → AtomG m xs t' → t = t' := fun xs t t' p q => atom_uni n xs t t' p q
    have hc91 : ∀ {p : List UInt8} {i k : Nat} {f : UInt8 → Bool}, p[i]? = some 91 → classM p (i + 1) = .inl (f, k) → ∃ zs, cut p i k = 91 :: zs := fun {p i k f} h1 h2 => by
      have hg := classM_gt h2
      have := cut_cat (p := p) (i := i) (j := i + 1) (k := k) (by omega) (by omega)
      rw [cut_one h1] at this
      exact ⟨_, this⟩
    rcases h with ⟨c, rfl, hs, rfl⟩ | ⟨rfl, rfl⟩ | ⟨c, rfl, rfl⟩ | ⟨ys, os, rfl, h2, rfl⟩ | ⟨p, i, j, f, h1, h2, h3, rfl⟩ <;>
      rcases k with ⟨c', k1, ks, rfl⟩ | ⟨k1, rfl⟩ | ⟨c', k1, rfl⟩ | ⟨zs, us, k1, k2, rfl⟩ | ⟨p', i', j', f', k1, k2, k3, rfl⟩
    · simp at k1; rw [k1]
    · simp at k1; subst k1; exact absurd (by unfold special; simp) hs
    · simp at k1
    · have := congrArg List.length k1; simp at this
    · obtain ⟨zs, hz⟩ := hc91 k1 k2
      rw [hz] at k3; simp at k3; rw [k3.1] at hs; exact absurd (by unfold special; simp) hs
    · simp at k1; subst k1; exact absurd (by unfold special; simp) ks
    · rfl
    · simp at k1
    · have := congrArg List.length k1; simp at this
    · obtain ⟨zs, hz⟩ := hc91 k1 k2
      rw [hz] at k3; simp at k3
    · simp at k1
    · simp at k1
    · simp at k1; rw [k1]
    · simp at k1
    · obtain ⟨zs, hz⟩ := hc91 k1 k2
      rw [hz] at k3; simp at k3
    · have := congrArg List.length k1; simp at this
    · have := congrArg List.length k1; simp at this
    · simp at k1
    · simp only [List.cons_append, List.cons.injEq, true_and] at k1
      obtain ⟨rfl, _⟩ := alt_uni hu h2 k2 (.inr ⟨41, [], rfl, rfl⟩) (.inr ⟨41, [], rfl, rfl⟩) k1
      rfl
    · obtain ⟨zs, hz⟩ := hc91 k1 k2
      rw [hz] at k3; simp at k3
    · obtain ⟨zs, hz⟩ := hc91 h1 h2
      rw [hz, k1] at h3; simp at h3; rw [h3.1] at ks; exact absurd (by unfold special; simp) ks
    · obtain ⟨zs, hz⟩ := hc91 h1 h2
      rw [hz, k1] at h3; simp at h3
    · obtain ⟨zs, hz⟩ := hc91 h1 h2
      rw [hz, k1] at h3; simp at h3
    · obtain ⟨zs, hz⟩ := hc91 h1 h2
      rw [hz, k1] at h3; simp at h3
    · have hg := classM_gt h2
      have hg' := classM_gt k2
      have hcut : cut p i j = cut p' i' j' := h3.symm.trans k3
      have hl : j - i = j' - i' := by
        have := congrArg List.length hcut
        rwa [cut_len hg.2, cut_len hg'.2] at this
      have hat : ∀ t, i + t < j → p'[i' + t]? = p[i + t]? := fun t ht => by
        have e1 : (cut p i j)[t]? = p[i + t]? := by unfold cut; rw [List.getElem?_take, if_pos (by omega), List.getElem?_drop]
        have e2 : (cut p' i' j')[t]? = p'[i' + t]? := by unfold cut; rw [List.getElem?_take, if_pos (by omega), List.getElem?_drop]
        rw [← e1, ← e2, hcut]
      have e := classM_agree (q := p') (j := i' + 1) h2 (fun t ht => by
        have := hat (1 + t) (by omega)
        rw [show i' + 1 + t = i' + (1 + t) by omega, show i + 1 + t = i + (1 + t) by omega]; exact this)
      rw [e] at k2
      simp only [Sum.inl.injEq, Prod.mk.injEq] at k2
      rw [k2.1]
/-- A text has one pattern. -/
theorem pat_uni {n m : Nat} {os us : List (List Pat)} {xs : List UInt8} (h : AltG (AtomG n) os xs) (k : AltG (AtomG m) us xs) : os = us :=
  (alt_uni (fun xs t t' p q => atom_uni n xs t t' p q) h k (.inl rfl) (.inl rfl) rfl).1
end Go.Proofs.YtgiigiegjaagbaaDoor

/-
  Entries by value: the contracts of szEntry, toEntry, spec.ValidEntry, impl.ValidEntry.
-/
namespace Go.Proofs.YtgiigiegjaagbaaDoor
open Go.ChangeShapes Go.WideShapes Go.ChangeAt Go.RowKit
open Go.ChangeMaps (open_string shut_string)

/-- An entry as Lean has it. -/
structure Ent where
  row : ByteArray
  fam : ByteArray
  qual : ByteArray
  ts : Int
  kind : Int
  val : ByteArray

abbrev Ent.v (e : Ent) : Value := .agg #[.string e.row, .string e.fam, .string e.qual, .int .u64 e.ts, .int .i64 e.kind, .string e.val]
/-- It fits its types. -/
structure Ent.ok (e : Ent) : Prop where
  row : e.row.size ≤ maxLen
  fam : e.fam.size ≤ maxLen
  qual : e.qual.size ≤ maxLen
  val : e.val.size ≤ maxLen
  ts : (Lit.int .u64 e.ts).wf = true
  kind : (Lit.int .i64 e.kind).wf = true

def Ent.bulk (e : Ent) : Int := e.row.size + e.fam.size + e.qual.size + e.val.size

theorem ret_bool {a b : Bool} (h : a = b) : Ending.returned (.bool a) = .returned (.bool b) := by rw [h]

theorem isE (v : ByteArray) : v.toList.isEmpty = decide (v.size = 0) := by
  rw [ByteArray.toList_eq, Bool.eq_iff_iff]
  simp [← ByteArray.size_data]

theorem orE (k : Int) (v : ByteArray) (h : ¬ k = 0) : (k == 0 || v.toList.isEmpty) = decide (v.size = 0) := by
  rw [isE]; simp [h]

def vE (r f q : ByteArray) (k : Int) (v : ByteArray) : Bool :=
  decide (1 ≤ r.size ∧ r.size ≤ 64 ∧ 1 ≤ f.size ∧ f.size ≤ 16 ∧ q.size ≤ 64 ∧ v.size ≤ 200 ∧ 0 ≤ k ∧ k ≤ 2 ∧ (k = 0 ∨ v.size = 0))

end Go.Proofs.YtgiigiegjaagbaaDoor

/-
  Arguments opened: an entry that can be read is six plain values.
-/
namespace Go.Proofs.YtgiigiegjaagbaaDoor
open Go.ChangeShapes Go.WideShapes Go.ChangeAt Go.RowKit Go.Deep

theorem Tryd.cellsStr : Tryd.prog.cellsOf 9 = 1 := by kernel_rfl
theorem Tryd.cellsU64 : Tryd.prog.cellsOf 82 = 1 := by kernel_rfl
theorem Tryd.cellsI64 : Tryd.prog.cellsOf 2 = 1 := by kernel_rfl
theorem Tryd.cellsBool : Tryd.prog.cellsOf 4 = 1 := by kernel_rfl

theorem bcell {W w1 : World} (hb : Below W.heap.size W w1) : (∀ b o, b < W.heap.size → w1.cell? ⟨b, o, none⟩ = W.cell? ⟨b, o, none⟩) ∧ (∀ b o, b < W.heap.size → w1.frozen? ⟨b, o, none⟩ = W.frozen? ⟨b, o, none⟩) :=
  ⟨fun b o h => hb.cell (p := ⟨b, o, none⟩) h, fun b o h => hb.frozen (p := ⟨b, o, none⟩) h⟩

theorem list6 {α : Type} {cs : List α} (h : cs.length = 6) : ∃ c0 c1 c2 c3 c4 c5, cs = [c0, c1, c2, c3, c4, c5] := by
  match cs, h with
  | [c0, c1, c2, c3, c4, c5], _ => exact ⟨c0, c1, c2, c3, c4, c5, rfl⟩
theorem array6 {α : Type} {cs : Array α} (h : cs.size = 6) : ∃ c0 c1 c2 c3 c4 c5, cs = #[c0, c1, c2, c3, c4, c5] := by
  obtain ⟨l⟩ := cs
  obtain ⟨c0, c1, c2, c3, c4, c5, rfl⟩ := list6 h
  exact ⟨c0, c1, c2, c3, c4, c5, rfl⟩

end Go.Proofs.YtgiigiegjaagbaaDoor

/-
  Entries in memory, one behind another.
-/
namespace Go.Proofs.YtgiigiegjaagbaaDoor
open Go.ChangeShapes Go.WideShapes Go.ChangeAt Go.RowKit Go.Deep
set_option linter.unusedVariables false

abbrev Ent.cells (e : Ent) : List Value := [.string e.row, .string e.fam, .string e.qual, .int .u64 e.ts, .int .i64 e.kind, .string e.val]
def cellsE (es : List Ent) : List Value := es.flatMap Ent.cells
theorem cellsE_nil : cellsE [] = [] := rfl
theorem cellsE_cons (e : Ent) (es : List Ent) : cellsE (e :: es) = e.cells ++ cellsE es := by simp [cellsE]
theorem cellsE_append (es fs : List Ent) : cellsE (es ++ fs) = cellsE es ++ cellsE fs := by simp [cellsE]
theorem length_cellsE (es : List Ent) : (cellsE es).length = es.length * 6 := by
  induction es with
  | nil => rfl
  | cons e es ih => rw [cellsE_cons, List.length_append, ih]; simp; omega
theorem cellsE_get (es : List Ent) : ∀ (k : Nat) (e : Ent), es[k]? = some e → ∀ j, j < 6 → (cellsE es)[k * 6 + j]? = e.cells[j]? := by
  induction es with
  | nil => intro k e h; simp at h
  | cons f es ih =>
    intro k e h j hj
    rw [cellsE_cons]
    cases k with
    | zero =>
      simp at h; subst h
      rw [List.getElem?_append_left (by show 0 * 6 + j < 6; omega)]
      simp
    | succ k =>
      simp at h
      rw [List.getElem?_append_right (by show 6 ≤ (k + 1) * 6 + j; omega)]
      have : (k + 1) * 6 + j - f.cells.length = k * 6 + j := by show (k + 1) * 6 + j - 6 = _; omega
      rw [this]; exact ih k e h j hj
theorem cellsE_set (es : List Ent) : ∀ (k : Nat) (e e' : Ent) (u : Value) (j : Nat), es[k]? = some e → j < 6 → e'.cells = e.cells.set j u → (cellsE es).set (k * 6 + j) u = cellsE (es.set k e') := by
  induction es with
  | nil => intro k e e' u j h; simp at h
  | cons f es ih =>
    intro k e e' u j h hj hc
    rw [cellsE_cons]
    cases k with
    | zero =>
      simp at h; subst h
      rw [List.set_append_left _ _ (by show 0 * 6 + j < 6; omega), List.set_cons_zero, cellsE_cons, hc]
      simp
    | succ k =>
      simp at h
      rw [List.set_append_right _ _ (by show 6 ≤ (k + 1) * 6 + j; omega), List.set_cons_succ, cellsE_cons]
      have : (k + 1) * 6 + j - f.cells.length = k * 6 + j := by show (k + 1) * 6 + j - 6 = _; omega
      rw [this, ih k e e' u j h hj hc]

/-- The entries 'es' lie at ⟨b, off⟩, six cells each. -/
def EntsAt (w : World) (b off : Nat) (es : List Ent) : Prop :=
  ∀ i e, es[i]? = some e → w.cell? ⟨b, off + i * 6, none⟩ = some (.string e.row) ∧ w.cell? ⟨b, off + i * 6 + 1, none⟩ = some (.string e.fam) ∧ w.cell? ⟨b, off + i * 6 + 2, none⟩ = some (.string e.qual) ∧
    w.cell? ⟨b, off + i * 6 + 3, none⟩ = some (.int .u64 e.ts) ∧ w.cell? ⟨b, off + i * 6 + 4, none⟩ = some (.int .i64 e.kind) ∧ w.cell? ⟨b, off + i * 6 + 5, none⟩ = some (.string e.val)

theorem EntsAt.below {B : Nat} {w w' : World} {b off : Nat} {es : List Ent} (h : EntsAt w b off es) (hb : Below B w w') (hlt : b < B) : EntsAt w' b off es := by
  intro i e he
  have := h i e he
  refine ⟨?_, ?_, ?_, ?_, ?_, ?_⟩
  all_goals rw [hb.cell (by exact hlt)]
  · exact this.1
  · exact this.2.1
  · exact this.2.2.1
  · exact this.2.2.2.1
  · exact this.2.2.2.2.1
  · exact this.2.2.2.2.2

theorem below_put {B : Nat} {a w : World} (h : Below B a w) {g : Nat} (hg : B ≤ g) (o0 o1 o2 o3 o4 o5 : Nat) (v0 v1 v2 v3 v4 v5 : Value) :
    Below B a ((((((w.setCell ⟨g, o0, none⟩ v0).setCell ⟨g, o1, none⟩ v1).setCell ⟨g, o2, none⟩ v2).setCell ⟨g, o3, none⟩ v3).setCell ⟨g, o4, none⟩ v4).setCell ⟨g, o5, none⟩ v5) :=
  (((((h.setCell hg _).setCell hg _).setCell hg _).setCell hg _).setCell hg _).setCell hg _
theorem take_set_succ {es fs : List Ent} {k : Nat} {e : Ent} (h : fs.take k = es.take k) (hl : fs.length = es.length) (he : es[k]? = some e) : (fs.set k e).take (k + 1) = es.take (k + 1) := by
  have hlt : k < es.length := (List.getElem?_eq_some_iff.1 he).1
  apply List.ext_getElem?
  intro j
  have hj := congrArg (fun l => l[j]?) h
  simp only [List.getElem?_take] at hj ⊢
  rw [List.getElem?_set]
  by_cases h1 : j < k
  · have h2 : j < k + 1 := by omega
    have h3 : ¬ k = j := by omega
    simp only [h1, h2, h3, if_true, if_false] at hj ⊢
    exact hj
  · by_cases h2 : k = j
    · subst h2
      have h3 : k < k + 1 := by omega
      have h4 : k < fs.length := by omega
      simp only [h3, h4, if_true, he]
    · have h3 : ¬ j < k + 1 := by omega
      simp only [h3, if_false]

def zeroE : Ent := ⟨⟨#[]⟩, ⟨#[]⟩, ⟨#[]⟩, 0, 0, ⟨#[]⟩⟩
theorem made_zero (n : Nat) : (madeCells #[.string ⟨#[]⟩, .string ⟨#[]⟩, .string ⟨#[]⟩, .int .u64 0, .int .i64 0, .string ⟨#[]⟩] (n * 6)).toList = cellsE (List.replicate n zeroE) := by
  apply List.ext_getElem?
  intro j
  by_cases hj : j < n * 6
  · have h := cellsE_get (List.replicate n zeroE) (j / 6) zeroE (by rw [List.getElem?_replicate, if_pos (by omega)]) (j % 6) (Nat.mod_lt _ (by omega))
    rw [show j / 6 * 6 + j % 6 = j by omega] at h
    rw [h]
    have h6 : j % 6 < 6 := Nat.mod_lt _ (by omega)
    simp [madeCells, hj]
    generalize j % 6 = m at *
    match m, h6 with
    | 0, _ => rfl
    | 1, _ => rfl
    | 2, _ => rfl
    | 3, _ => rfl
    | 4, _ => rfl
    | 5, _ => rfl
  · have h1 : (cellsE (List.replicate n zeroE)).length ≤ j := by rw [length_cellsE, List.length_replicate]; omega
    rw [List.getElem?_eq_none h1]
    simp [madeCells, hj]

end Go.Proofs.YtgiigiegjaagbaaDoor

/-
  Rows held against each other; rows of no entries; runs by value.
-/
namespace Go.Proofs.YtgiigiegjaagbaaDoor
open Go.ChangeShapes Go.WideShapes Go.ChangeAt Go.RowKit Go.Deep
set_option linter.unusedVariables false

/-! ### Rows of no entries -/

/-! ### A slice of entries, whatever its make -/

/-- What is read of a slice of entries that came in. -/
def InEnts (w : World) (v : Value) (es : List Ent) : Prop :=
  (∃ a cap, v = .slice a 0 cap ∧ es = []) ∨
  ∃ b off cap, v = .slice (some ⟨b, off, none⟩) es.length cap ∧ EntsAt w b off es ∧ b < w.heap.size ∧ es.length ≤ cap ∧ cap ≤ maxLen
theorem InEnts.below {B : Nat} {w w' : World} {v : Value} {es : List Ent} (h : InEnts w v es) (hb : Below B w w') (hB : w.heap.size ≤ B) : InEnts w' v es := by
  rcases h with h | ⟨b, off, cap, hv, hE, hlt, h1, h2⟩
  · exact .inl h
  · exact .inr ⟨b, off, cap, hv, hE.below hb (by omega), by have := hb.size; omega, h1, h2⟩
end Go.Proofs.YtgiigiegjaagbaaDoor

/-
  Slices of entries and runs that come in, opened.
-/
namespace Go.Proofs.YtgiigiegjaagbaaDoor
open Go.ChangeShapes Go.WideShapes Go.ChangeAt Go.RowKit Go.Deep
set_option linter.unusedVariables false

theorem list_of_forall {α : Type} {P : Nat → α → Prop} : ∀ n, (∀ i, i < n → ∃ x, P i x) → ∃ l : List α, l.length = n ∧ ∀ i x, l[i]? = some x → P i x
  | 0, _ => ⟨[], rfl, fun i x h => by simp at h⟩
  | n + 1, h => by
    obtain ⟨l, hl, hp⟩ := list_of_forall n (fun i hi => h i (by omega))
    obtain ⟨x, hx⟩ := h n (by omega)
    refine ⟨l ++ [x], by simp [hl], fun i y hy => ?_⟩
    by_cases hi : i < l.length
    · rw [List.getElem?_append_left hi] at hy; exact hp i y hy
    · rw [List.getElem?_append_right (by omega)] at hy
      have : i - l.length = 0 := by
        have := (List.getElem?_eq_some_iff.1 hy).1
        simp at this; omega
      rw [this] at hy
      simp at hy
      subst hy
      rw [show i = n by omega]; exact hx

/-! ### Runs by value -/

end Go.Proofs.YtgiigiegjaagbaaDoor

/-
  The marks that a law lays into rows and looks for.
-/
namespace Go.Proofs.YtgiigiegjaagbaaDoor
open Go.ChangeShapes Go.WideShapes Go.ChangeAt Go.RowKit Go.Deep
set_option linter.unusedVariables false

def digF : Nat → Nat → List UInt8
  | 0, _ => []
  | f + 1, k => if k = 0 then [] else digF f (k / 10) ++ [UInt8.ofNat (48 + k % 10)]
theorem digF_zero (f : Nat) : digF f 0 = [] := by cases f <;> simp [digF]
theorem digF_more : ∀ (f k : Nat), k ≤ f → digF f k = digF k k
  | 0, k, h => by rw [show k = 0 by omega]
  | f + 1, k, h => by
    by_cases h0 : k = 0
    · subst h0; rw [digF_zero, digF_zero]
    · obtain ⟨j, rfl⟩ : ∃ j, k = j + 1 := ⟨k - 1, by omega⟩
      have h1 : (j + 1) / 10 ≤ j := by omega
      unfold digF
      rw [if_neg h0, if_neg h0, digF_more f _ (by omega), digF_more j _ h1]
def dig (k : Nat) : List UInt8 := digF k k
theorem dig_step {k : Nat} (h : 0 < k) : dig k = dig (k / 10) ++ [UInt8.ofNat (48 + k % 10)] := by
  obtain ⟨j, rfl⟩ : ∃ j, k = j + 1 := ⟨k - 1, by omega⟩
  show digF (j + 1) (j + 1) = _
  rw [digF, if_neg (by omega), digF_more j _ (by omega)]; rfl
/-- The mark's text. -/
def mText (k : Nat) : ByteArray := ⟨(109 :: dig k).toArray⟩

theorem mText_eq {k : Nat} {out : ByteArray} (h : dig k = out.data.toList) : mText k = ⟨#[109]⟩ ++ out := by
  obtain ⟨a⟩ := out
  unfold mText
  rw [ByteArray.mk_append_mk, h]
  simp

/-- The entry that the marks from 'k' on make. -/
def mEnt (k : Int) : Ent := ⟨mText k.toNat, mText (k + 1).toNat, mText (k + 1 + 1).toNat, k + 1 + 1 + 1, k + 1 + 1 + 1 + 1, mText (k + 1 + 1 + 1 + 1 + 1).toNat⟩
/-- The first 'i' of the entries are marked, from 'k' on. -/
def marked (k : Int) (es : List Ent) (i : Nat) : Prop := ∀ j : Nat, j < i → es[j]? = some (mEnt (k + j * 6))

theorem grown_of_below {w w' : World} (h : Below w.heap.size w w') (r : Option Nat) : w.grownBy w' r := ⟨h.os, h.tape, h.output, h.size, fun k hk _ => h.block k hk⟩
theorem grown_set (w : World) (g o : Nat) (u : Value) : w.grownBy (w.setCell ⟨g, o, none⟩ u) (some g) := by
  have h : Below g w (w.setCell ⟨g, o, none⟩ u) := (Below.refl g w).setCell (Nat.le_refl _) u
  exact ⟨h.os, h.tape, h.output, h.size, fun k hk hne => Below.heap_setCell w ⟨g, o, none⟩ u k (fun e => hne (by rw [e]))⟩
theorem marked_set {k : Int} {fs : List Ent} {m : Nat} (h : marked k fs m) (hm : m < fs.length) : marked k (fs.set m (mEnt (k + m * 6))) (m + 1) := by
  intro j hj
  by_cases e : j = m
  · subst e; simp [hm]
  · rw [List.getElem?_set_ne (by omega)]; exact h j (by omega)

end Go.Proofs.YtgiigiegjaagbaaDoor

/-
  What has turned between two worlds.
-/
namespace Go.Proofs.YtgiigiegjaagbaaDoor
open Go.ChangeShapes Go.WideShapes Go.ChangeAt Go.RowKit Go.Deep
set_option linter.unusedVariables false
set_option linter.unusedSimpArgs false

/-- From 'w' to 'w'': only what lies in blocks of 'S' has turned, and new blocks came. -/
structure Chg (S : Nat → Prop) (w w' : World) : Prop where
  os : w'.os = w.os
  tape : w'.tape = w.tape
  output : w'.output = w.output
  size : w.heap.size ≤ w'.heap.size
  block : ∀ k, k < w.heap.size → ¬ S k → w'.heap[k]? = w.heap[k]?
theorem Chg.refl (S : Nat → Prop) (w : World) : Chg S w w := ⟨rfl, rfl, rfl, Nat.le_refl _, fun _ _ _ => rfl⟩
theorem Chg.trans {S : Nat → Prop} {a b c : World} (h : Chg S a b) (k : Chg S b c) : Chg S a c :=
  ⟨k.os.trans h.os, k.tape.trans h.tape, k.output.trans h.output, Nat.le_trans h.size k.size, fun i hi hn => (k.block i (Nat.lt_of_lt_of_le hi h.size) hn).trans (h.block i hi hn)⟩
theorem Chg.mono {S T : Nat → Prop} {w w' : World} (h : Chg S w w') (hs : ∀ k, S k → T k) : Chg T w w' := ⟨h.os, h.tape, h.output, h.size, fun k hk hn => h.block k hk (fun q => hn (hs k q))⟩
theorem Chg.of_below {S : Nat → Prop} {w w' : World} (h : Below w.heap.size w w') : Chg S w w' := ⟨h.os, h.tape, h.output, h.size, fun k hk _ => h.block k hk⟩
theorem Chg.of_grown {S : Nat → Prop} {w w' : World} {row : Option Nat} (h : w.grownBy w' row) (hs : ∀ k, row = some k → S k) : Chg S w w' :=
  ⟨h.os, h.tape, h.output, h.size, fun k hk hn => h.block k hk (fun q => hn (hs k q.symm))⟩
theorem Chg.of_set {S : Nat → Prop} (w : World) (g o : Nat) (u : Value) (hs : S g) : Chg S w (w.setCell ⟨g, o, none⟩ u) := Chg.of_grown (grown_set w g o u) (fun k hk => by cases hk; exact hs)
theorem Chg.below {S : Nat → Prop} {B : Nat} {a w w' : World} (h : Below B a w) (k : Chg S w w') (hB : B ≤ w.heap.size) (hs : ∀ k, S k → B ≤ k) : Below B a w' :=
  h.trans ⟨k.os, k.tape, k.output, k.size, fun i hi => k.block i (by omega) (fun q => by have := hs i q; omega)⟩
theorem Chg.cell {S : Nat → Prop} {w w' : World} (h : Chg S w w') {p : Addr} (hp : p.block < w.heap.size) (hn : ¬ S p.block) : w'.cell? p = w.cell? p := World.cell?_of_block (w := w) (h.block p.block hp hn)
theorem Chg.frozen {S : Nat → Prop} {w w' : World} (h : Chg S w w') {p : Addr} (hp : p.block < w.heap.size) (hn : ¬ S p.block) : w'.frozen? p = w.frozen? p := World.frozen?_of_block (w := w) (h.block p.block hp hn)
theorem EntsAt.chg {S : Nat → Prop} {w w' : World} {b off : Nat} {es : List Ent} (h : EntsAt w b off es) (hb : Chg S w w') (hlt : b < w.heap.size) (hn : ¬ S b) : EntsAt w' b off es := by
  intro i e he
  have := h i e he
  refine ⟨?_, ?_, ?_, ?_, ?_, ?_⟩
  all_goals rw [hb.cell (by exact hlt) (by exact hn)]
  · exact this.1
  · exact this.2.1
  · exact this.2.2.1
  · exact this.2.2.2.1
  · exact this.2.2.2.2.1
  · exact this.2.2.2.2.2
theorem own_apart {w : World} {base e size : Nat} {v : Value} {n : Nat} {xs : List Value} {base' e' size' : Nat} {v' : Value} {n' : Nat} {xs' : List Value} (h : w.ownsRow base e size v n xs) (h' : w.ownsRow base' e' size' v' n' xs') (hne : e ≠ e') : ∀ k, v.ownBlock = some k → v'.ownBlock ≠ some k := by
  intro k hk hk'
  rcases h.2 with ⟨rfl, _⟩ | ⟨g1, cap1, cur, rfl, _, hc, _⟩
  · simp [Value.ownBlock] at hk
  · rcases h'.2 with ⟨rfl, _⟩ | ⟨g2, cap2, cur2, rfl, _, hc2, _⟩
    · simp [Value.ownBlock] at hk'
    · simp [Value.ownBlock] at hk hk'
      subst hk hk'
      rw [hc] at hc2
      simp at hc2
      exact hne hc2.2
theorem own_chg {S : Nat → Prop} {w w' : World} {base e size : Nat} {v : Value} {n : Nat} {xs : List Value} (h : w.ownsRow base e size v n xs) (hb : Chg S w w') (hn : ∀ k, v.ownBlock = some k → ¬ S k) : w'.ownsRow base e size v n xs := by
  refine ⟨h.1, ?_⟩
  rcases h.2 with hz | ⟨g, cap, cur, rfl, h1, hg, rest⟩
  · exact .inl hz
  · refine .inr ⟨g, cap, cur, rfl, h1, ?_, rest⟩
    have hlt : g < w.heap.size := by
      rcases Nat.lt_or_ge g w.heap.size with q | q
      · exact q
      · rw [Array.getElem?_eq_none q] at hg; cases hg
    rw [hb.block g hlt (hn g rfl)]; exact hg

end Go.Proofs.YtgiigiegjaagbaaDoor

/-
  Variables of a struct's type that lie in memory, as rows of one element.
-/
namespace Go.Proofs.YtgiigiegjaagbaaDoor
open Go.ChangeShapes Go.WideShapes Go.ChangeAt Go.RowKit Go.Deep
set_option linter.unusedVariables false

def BoxAt (w : World) (base t sz g : Nat) (vs : List Value) : Prop := w.ownsRow base t sz (.slice (some ⟨g, 0, none⟩) 1 1) 1 vs
theorem BoxAt.len {w : World} {base t sz g : Nat} {vs : List Value} (h : BoxAt w base t sz g vs) : vs.length = sz := by have := h.1; omega
theorem BoxAt.lt {w : World} {base t sz g : Nat} {vs : List Value} (h : BoxAt w base t sz g vs) : base ≤ g ∧ g < w.heap.size := World.ownsRow.lt h g rfl
theorem BoxAt.chg {S : Nat → Prop} {w w' : World} {base t sz g : Nat} {vs : List Value} (h : BoxAt w base t sz g vs) (hc : Chg S w w') (hn : ¬ S g) : BoxAt w' base t sz g vs := own_chg h hc (fun k q => by simp [Value.ownBlock] at q; subst q; exact hn)
theorem BoxAt.below {w w' : World} {base t sz g : Nat} {vs : List Value} (h : BoxAt w base t sz g vs) (hb : Below w.heap.size w w') : BoxAt w' base t sz g vs := h.chg (Chg.of_below hb) (S := fun _ => False) (fun q => q)
theorem BoxAt.cell {w : World} {base t sz g : Nat} {vs : List Value} (h : BoxAt w base t sz g vs) {j : Nat} {v : Value} (hv : vs[j]? = some v) : w.cell? ⟨g, j, none⟩ = some v := by
  have hj := (List.getElem?_eq_some_iff.1 hv).1
  rw [World.ownsRow.cellAt h j (by have := h.len; omega), hv]
theorem BoxAt.frozen {w : World} {base t sz g : Nat} {vs : List Value} (h : BoxAt w base t sz g vs) (j : Nat) : w.frozen? ⟨g, j, none⟩ = false := World.ownsRow.frozenAt h j
theorem BoxAt.set {w : World} {base t sz g : Nat} {vs : List Value} (h : BoxAt w base t sz g vs) (j : Nat) (u : Value) : BoxAt (w.setCell ⟨g, j, none⟩ u) base t sz g (vs.set j u) := (World.ownsRow.stored h j u).1
theorem BoxAt.beside {w : World} {base t sz g : Nat} {vs : List Value} (h : BoxAt w base t sz g vs) {k : Nat} (hk : ¬ g = k) (j : Nat) (u : Value) : BoxAt (w.setCell ⟨k, j, none⟩ u) base t sz g vs := h.chg (Chg.of_set w k j u (S := fun q => q = k) rfl) hk
theorem boxAt_new (w : World) {base t sz : Nat} (cs : Array Value) (hb : base ≤ w.heap.size) (hs : cs.size = sz) : BoxAt (w.alloc (.cells cs t)) base t sz w.heap.size cs.toList :=
  World.ownsRow_lit w cs 1 hb (by decide) (by omega)
/-- Three cells stored. -/
def set3 (w : World) (g : Nat) (a b c : Value) : World := ((w.setCell ⟨g, 0, none⟩ a).setCell ⟨g, 1, none⟩ b).setCell ⟨g, 2, none⟩ c
theorem BoxAt.set3 {w : World} {base t g : Nat} {vs : List Value} (h : BoxAt w base t 3 g vs) (a b c : Value) : BoxAt (set3 w g a b c) base t 3 g [a, b, c] := by
  have h1 := ((h.set 0 a).set 1 b).set 2 c
  have hl := h.len
  match vs, hl with
  | [x, y, z], _ => exact h1
theorem BoxAt.beside3 {w : World} {base t sz g : Nat} {vs : List Value} (h : BoxAt w base t sz g vs) {k : Nat} (hk : ¬ g = k) (a b c : Value) : BoxAt (Go.Proofs.YtgiigiegjaagbaaDoor.set3 w k a b c) base t sz g vs :=
  ((h.beside hk 0 a).beside hk 1 b).beside hk 2 c
theorem below_set {B : Nat} {a w : World} (h : Below B a w) {k : Nat} (hk : B ≤ k) (j : Nat) (u : Value) : Below B a (w.setCell ⟨k, j, none⟩ u) := h.setCell (p := ⟨k, j, none⟩) hk u
theorem below_set3 {B : Nat} {a w : World} (h : Below B a w) {k : Nat} (hk : B ≤ k) (x y z : Value) : Below B a (set3 w k x y z) := below_set (below_set (below_set h hk 0 x) hk 1 y) hk 2 z
theorem size_set (w : World) (k j : Nat) (u : Value) : (w.setCell ⟨k, j, none⟩ u).heap.size = w.heap.size := by
  simp [World.setCell]
end Go.Proofs.YtgiigiegjaagbaaDoor

