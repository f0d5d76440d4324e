/-
  What a pattern begins with, as a function of its nodes.
-/
import Derived.Test.YthkmecppjhcidaaRxT
namespace Go.Proofs.Ythkmecppjhcidaa
set_option linter.unusedVariables false
set_option linter.unusedSimpArgs false

/-- What a seq of nodes begins with; whether that is all of it. -/
def prefM : List Pat → List UInt8 × Bool
  | [] => ([], true)
  | .byte c :: ts => (c :: (prefM ts).1, (prefM ts).2)
  | .cls _ :: _ => ([], false)
  | .rep _ _ _ :: _ => ([], false)
  | .alt _ :: _ => ([], false)
def prefOf : List (List Pat) → List UInt8 × Bool
  | [ts] => prefM ts
  | _ => ([], false)
def isByte : Pat → Prop
  | .byte _ => True
  | _ => False
theorem prefM_not {t : Pat} (h : ¬ isByte t) (ts : List Pat) : prefM (t :: ts) = ([], false) := by
  cases t with
  | byte b => exact (h trivial).elim
  | _ => rfl
theorem prefM_len : ∀ ts : List Pat, (prefM ts).1.length ≤ ts.length
  | [] => Nat.le_refl _
  | .byte c :: ts => by simp only [prefM, List.length_cons]; have := prefM_len ts; omega
  | .cls _ :: _ => Nat.zero_le _
  | .rep _ _ _ :: _ => Nat.zero_le _
  | .alt _ :: _ => Nat.zero_le _

/-- Signs and atoms with so many bars between them. -/
inductive TokN (A : List UInt8 → Pat → Prop) : Nat → List UInt8 → Prop
  | nil : TokN A 0 []
  | bar {k : Nat} {zs : List UInt8} (h : TokN A k zs) : TokN A (k + 1) (124 :: zs)
  | op {k : Nat} {c : UInt8} {zs : List UInt8} (hc : isOp c) (h : TokN A k zs) : TokN A k (c :: zs)
  | atom {k : Nat} {xs zs : List UInt8} {t : Pat} (ha : A xs t) (h : TokN A k zs) : TokN A k (xs ++ zs)
variable {A : List UInt8 → Pat → Prop}
theorem TokN.cat {k m : Nat} {xs ys : List UInt8} (h : TokN A k xs) (q : TokN A m ys) : TokN A (k + m) (xs ++ ys) := by
  induction h with
  | nil => simpa using q
  | bar _ ih => rw [show ∀ k, k + 1 + m = (k + m) + 1 from fun k => by omega]; exact .bar ih
  | op hc _ ih => exact .op hc ih
  | atom ha _ ih => rw [List.append_assoc]; exact .atom ha ih
theorem TokN.ops : ∀ {l : List UInt8}, (∀ c ∈ l, isOp c) → TokN A 0 l
  | [], _ => .nil
  | c :: l, h => .op (h c (by simp)) (TokN.ops (fun d hd => h d (by simp [hd])))
theorem RepG.tokn {xs : List UInt8} {t : Pat} : RepG A xs t → TokN A 0 xs
  | ⟨ys, ops, a, h1, h2, h3, _⟩ => by rw [h1]; exact .atom h2 (TokN.ops h3)
theorem SeqG.tokn : ∀ {ts : List Pat} {xs : List UInt8}, SeqG A ts xs → TokN A 0 xs
  | [], _, h => by rw [show _ = [] from h]; exact .nil
  | _ :: _, _, ⟨ys, zs, h1, h2, h3⟩ => by rw [h1]; simpa using h2.tokn.cat (SeqG.tokn h3)
theorem AltG.tokn : ∀ {os : List (List Pat)} {xs : List UInt8}, AltG A os xs → ∃ k, os.length = k + 1 ∧ TokN A k xs
  | [], _, h => h.elim
  | [_], _, h => ⟨0, rfl, SeqG.tokn h⟩
  | _ :: o :: os, _, ⟨ys, zs, h1, h2, h3⟩ => by
    obtain ⟨k, hk, hT⟩ := AltG.tokn h3
    refine ⟨k + 1, by simp at hk ⊢; omega, ?_⟩
    rw [h1]
    have := h2.tokn.cat (TokN.bar hT)
    simpa using this
theorem tokn_step {k : Nat} {xs : List UInt8} (h : TokN A k xs) : (xs = [] ∧ k = 0) ∨ (∃ m zs, xs = 124 :: zs ∧ k = m + 1 ∧ TokN A m zs) ∨ (∃ c zs, xs = c :: zs ∧ isOp c ∧ TokN A k zs) ∨ (∃ ys zs t, xs = ys ++ zs ∧ A ys t ∧ TokN A k zs) := by
  cases h with
  | nil => exact .inl ⟨rfl, rfl⟩
  | bar h => exact .inr (.inl ⟨_, _, rfl, rfl, h⟩)
  | op hc h => exact .inr (.inr (.inl ⟨_, _, rfl, hc, h⟩))
  | atom ha h => exact .inr (.inr (.inr ⟨_, _, _, rfl, ha, h⟩))
theorem cutHead {p : List UInt8} {j m : Nat} {c : UInt8} {zs : List UInt8} (h : cut p j m = c :: zs) (hm : m ≤ p.length) : p[j]? = some c ∧ cut p (j + 1) m = zs ∧ j < m := by
  have hl := congrArg List.length h
  rw [cut_len hm] at hl
  simp at hl
  have hj : j < m := by omega
  obtain ⟨d, hd⟩ : ∃ d, p[j]? = some d := ⟨_, List.getElem?_eq_getElem (by omega)⟩
  rw [cut_cat (show j ≤ j + 1 by omega) (show j + 1 ≤ m by omega), cut_one hd] at h
  simp at h
  exact ⟨by rw [hd, h.1], h.2, hj⟩
theorem cutTwo {p : List UInt8} {j m : Nat} {xs zs : List UInt8} (h : cut p j m = xs ++ zs) (hm : m ≤ p.length) (hjm : j ≤ m) : cut p j (j + xs.length) = xs ∧ cut p (j + xs.length) m = zs ∧ j + xs.length ≤ m := by
  have hl := congrArg List.length h
  rw [cut_len hm, List.length_append] at hl
  have h1 := cut_cat (p := p) (show j ≤ j + xs.length by omega) (show j + xs.length ≤ m by omega)
  rw [h] at h1
  have h2 := List.append_inj h1 (by rw [cut_len (by omega)]; omega)
  exact ⟨h2.1.symm, h2.2.symm, by omega⟩
/-- The byte of an atom that is a byte stands at its end; every other one begins with a sign. -/
theorem AtomG.byte : ∀ {n : Nat} {xs : List UInt8} {t : Pat}, AtomG n xs t → ∃ c ys, xs = c :: ys ∧ ((∃ b, t = .byte b ∧ xs.getLast? = some b ∧ (¬ special c ∨ c = 92)) ∨ (¬ isByte t ∧ special c ∧ ¬ c = 92))
  | 0, _, _, h => h.elim
  | n + 1, xs, t, h => by
    rcases h with ⟨c, rfl, hs, rfl⟩ | ⟨rfl, rfl⟩ | ⟨c, rfl, rfl⟩ | ⟨ys, os, rfl, _, rfl⟩ | ⟨p, i, k, f, h1, h2, rfl, rfl⟩
    · exact ⟨c, [], rfl, .inl ⟨c, rfl, rfl, .inl hs⟩⟩
    · exact ⟨46, [], rfl, .inr ⟨fun h => h, by decide, by decide⟩⟩
    · exact ⟨92, [c], rfl, .inl ⟨c, rfl, rfl, .inr rfl⟩⟩
    · exact ⟨40, ys ++ [41], rfl, .inr ⟨fun h => h, by decide, by decide⟩⟩
    · have hg := classM_gt h2
      refine ⟨91, cut p (i + 1) k, ?_, .inr ⟨fun h => h, by decide, by decide⟩⟩
      rw [cut_cat (show i ≤ i + 1 by omega) (show i + 1 ≤ k by omega), cut_one h1]
      rfl
/-- One step of a seq, from the left. -/
structure SeqStep (n : Nat) (p : List UInt8) (i m j : Nat) (c : UInt8) (a t : Pat) (ts : List Pat) : Prop where
  atom : AtomG n (cut p i j) a
  lt : i < j
  le : j ≤ m
  at0 : p[i]? = some c
  what : (∃ b, t = .byte b ∧ (¬ special c ∨ c = 92) ∧ (∀ d, p[j]? = some d → j < m → ¬ isOp d) ∧ p[j - 1]? = some b ∧ SeqG (AtomG n) ts (cut p j m)) ∨ (¬ isByte t ∧ ((special c ∧ ¬ c = 92) ∨ ((¬ special c ∨ c = 92) ∧ ∃ d, p[j]? = some d ∧ isOp d ∧ j < m)))
theorem seq_step {n : Nat} {p : List UInt8} {i m : Nat} {ts : List Pat} (h : SeqG (AtomG n) ts (cut p i m)) (hm : m ≤ p.length) (him : i < m) : ∃ t ts' j c a, ts = t :: ts' ∧ SeqStep n p i m j c a t ts' := by
  cases ts with
  | nil =>
    have hl := cut_len (p := p) (i := i) hm
    rw [show cut p i m = [] from h] at hl
    simp at hl
    omega
  | cons t ts' =>
    obtain ⟨ys, zs, h1, ⟨xa, ops, a, h2, h3, h4, h5⟩, h6⟩ := h
    rw [h2, List.append_assoc] at h1
    obtain ⟨c1, c2, c3⟩ := cutTwo h1 hm (by omega)
    obtain ⟨c, xb, hc, hw⟩ := h3.byte
    have hal : 0 < xa.length := by rw [hc]; simp
    obtain ⟨p0, _, _⟩ := cutHead (c1.trans hc) (by omega)
    refine ⟨t, ts', i + xa.length, c, a, rfl, ⟨by rw [c1]; exact h3, by omega, c3, p0, ?_⟩⟩
    cases ops with
    | nil =>
      have hta : t = a := h5
      subst hta
      rw [List.nil_append] at c2
      rcases hw with ⟨b, hb, hlast, hs⟩ | ⟨hb, hs⟩
      · left
        refine ⟨b, hb, hs, ?_, ?_, by rw [c2]; exact h6⟩
        · intro d hd hlt
          cases ts' with
          | nil =>
            have hl := cut_len (p := p) (i := i + xa.length) hm
            rw [c2, show zs = [] from h6] at hl
            simp at hl
            omega
          | cons t2 ts2 =>
            obtain ⟨ys2, zs2, e1, ⟨xa2, ops2, a2, e2, e3, _, _⟩, _⟩ := h6
            obtain ⟨c2', xa3, hc2, _, _, hn⟩ := e3.first
            rw [e1, e2, hc2] at c2
            have := (cutHead (p := p) (c := c2') (zs := xa3 ++ ops2 ++ zs2) (by rw [c2]; simp) hm).1
            rw [hd] at this
            rw [Option.some.inj this]
            exact hn
        · have hg : xa[xa.length - 1]? = some b := by rw [← List.getLast?_eq_getElem?]; exact hlast
          have e := congrArg (fun l => l[xa.length - 1]?) c1
          simp only [cut, List.getElem?_take, List.getElem?_drop] at e
          rw [if_pos (by omega), hg] at e
          rw [show i + xa.length - 1 = i + (xa.length - 1) by omega]
          exact e
      · exact .inr ⟨hb, .inl hs⟩
    | cons o ops =>
      right
      have hnb : ¬ isByte t := by rw [h5, if_neg (by simp)]; exact fun h => h
      refine ⟨hnb, ?_⟩
      obtain ⟨q1, _, q3⟩ := cutHead (p := p) (c := o) (zs := ops ++ zs) (by rw [c2]; simp) hm
      rcases hw with ⟨b, hb, hlast, hs⟩ | ⟨hb, hs⟩
      · exact .inr ⟨hs, o, q1, h4 o (by simp), q3⟩
      · exact .inl hs
theorem seq_done {n : Nat} {p : List UInt8} {m : Nat} {ts : List Pat} (h : SeqG (AtomG n) ts (cut p m m)) (hm : m ≤ p.length) : ts = [] := by
  cases ts with
  | nil => rfl
  | cons t ts =>
    obtain ⟨ys, zs, h1, ⟨xa, ops, a, h2, h3, _, _⟩, _⟩ := h
    obtain ⟨c, xb, hc, _⟩ := h3.first
    rw [cut_nil, h2, hc] at h1
    simp at h1
end Go.Proofs.Ythkmecppjhcidaa
