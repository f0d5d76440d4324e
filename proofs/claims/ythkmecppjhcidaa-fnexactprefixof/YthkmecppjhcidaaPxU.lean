/-
  A pattern is read in one way.
-/
import Derived.Test.YthkmecppjhcidaaPxM
namespace Go.Proofs.Ythkmecppjhcidaa
set_option linter.unusedVariables false
set_option linter.unusedSimpArgs false

/-- What an atom is, by its first byte. -/
inductive Tag (n : Nat) : UInt8 → List UInt8 → Pat → Prop
  | plain {c : UInt8} (h : ¬ special c) : Tag n c [] (.byte c)
  | dot : Tag n 46 [] (.cls (fun _ => true))
  | esc {d : UInt8} : Tag n 92 [d] (.byte d)
  | group {ys : List UInt8} {os : List (List Pat)} (h : AltG (AtomG n) os ys) : Tag n 40 (ys ++ [41]) (.alt os)
  | cls {zs : List UInt8} {f : UInt8 → Bool} (h : ∀ r, classM (91 :: zs ++ r) 1 = .inl (f, zs.length + 1)) : Tag n 91 zs (.cls f)
theorem AtomG.tag {n : Nat} {xs : List UInt8} {t : Pat} (h : AtomG (n + 1) xs t) : ∃ c zs, xs = c :: zs ∧ Tag n c zs t := by
  rcases h with ⟨c, rfl, hs, rfl⟩ | ⟨rfl, rfl⟩ | ⟨c, rfl, rfl⟩ | ⟨ys, os, rfl, ho, rfl⟩ | ⟨p, i, k, f, h1, h2, rfl, rfl⟩
  · exact ⟨c, [], rfl, .plain hs⟩
  · exact ⟨46, [], rfl, .dot⟩
  · exact ⟨92, [c], rfl, .esc⟩
  · exact ⟨40, ys ++ [41], rfl, .group ho⟩
  · have hg := classM_gt h2
    have e : cut p i k = 91 :: cut p (i + 1) k := by
      rw [cut_cat (show i ≤ i + 1 by omega) (show i + 1 ≤ k by omega), cut_one h1]; rfl
    refine ⟨91, _, e, .cls fun r => ?_⟩
    have hl := congrArg List.length e
    rw [List.length_cons] at hl
    have h3 := class_here (p := 91 :: cut p (i + 1) k ++ r) (i := 0) (k := (cut p (i + 1) k).length + 1) h1 h2 ?_ (by simp) (by omega)
    · exact h3.2
    · rw [← hl, ← e]
      show (List.drop 0 (cut p i k ++ r)).take ((cut p i k).length - 0) = _
      rw [List.drop_zero, Nat.sub_zero, List.take_left]
/-- Signs and atoms up to a bracket that closes: one way. -/
theorem tok_one {A B : List UInt8 → Pat → Prop} (hA : ∀ ys t, A ys t → ∃ c zs, ys = c :: zs ∧ ¬ c = 41 ∧ ¬ c = 124 ∧ ¬ isOp c) (hB : ∀ ys t, B ys t → ∃ c zs, ys = c :: zs ∧ ¬ c = 41 ∧ ¬ c = 124 ∧ ¬ isOp c)
    (U : ∀ xs ys t t' r r', A xs t → B ys t' → xs ++ r = ys ++ r' → xs = ys) {xs : List UInt8} (h : TokG A xs) : ∀ {ys r r' : List UInt8}, TokG B ys → xs ++ 41 :: r = ys ++ 41 :: r' → xs = ys := by
  induction h with
  | nil =>
    intro ys r r' k e
    cases k with
    | nil => rfl
    | sign hc _ =>
      simp at e
      exfalso
      rw [← e.1] at hc
      rcases hc with q | q | q | q <;> exact absurd q (by decide)
    | atom ha _ =>
      obtain ⟨c, zs, rfl, n41, _⟩ := hB _ _ ha
      simp at e
      exact absurd e.1.symm n41
  | @sign c zs hc h ih =>
    intro ys r r' k e
    cases k with
    | nil =>
      simp at e
      exfalso
      rw [e.1] at hc
      rcases hc with q | q | q | q <;> exact absurd q (by decide)
    | sign hc' k' =>
      simp at e
      rw [e.1, ih k' e.2]
    | atom ha _ =>
      obtain ⟨c, zs, rfl, _, n124, nop⟩ := hB _ _ ha
      simp at e
      rw [e.1] at hc
      exact absurd hc (fun q => q.elim n124 nop)
  | @atom us zs t ha h ih =>
    intro ys r r' k e
    cases k with
    | nil =>
      obtain ⟨c, zs, rfl, n41, _⟩ := hA _ _ ha
      simp at e
      exact absurd e.1 n41
    | sign hc' k' =>
      obtain ⟨c, zs, rfl, _, n124, nop⟩ := hA _ _ ha
      simp at e
      rw [← e.1] at hc'
      exact absurd hc' (fun q => q.elim n124 nop)
    | atom hb k' =>
      rw [List.append_assoc, List.append_assoc] at e
      have q := U _ _ _ _ _ _ ha hb e
      subst q
      rw [ih k' (List.append_cancel_left e)]
theorem atom_one : ∀ {n m : Nat} {xs ys : List UInt8} {t t' : Pat} {r r' : List UInt8}, AtomG n xs t → AtomG m ys t' → xs ++ r = ys ++ r' → xs = ys
  | 0, _, _, _, _, _, _, _, h, _, _ => h.elim
  | _ + 1, 0, _, _, _, _, _, _, _, h, _ => h.elim
  | n + 1, m + 1, xs, ys, t, t', r, r', h, k, e => by
    obtain ⟨c, zs, rfl, hT⟩ := h.tag
    obtain ⟨c', zs', rfl, hT'⟩ := k.tag
    simp only [List.cons_append, List.cons.injEq] at e
    obtain ⟨rfl, e⟩ := e
    congr 1
    cases hT with
    | plain h1 =>
      cases hT' with
      | plain _ => rfl
      | dot => rfl
      | esc => exact absurd h1 (by decide)
      | group _ => exact absurd h1 (by decide)
      | cls _ => exact absurd h1 (by decide)
    | dot =>
      cases hT' with
      | plain _ => rfl
      | dot => rfl
    | esc =>
      cases hT' with
      | plain h1 => exact absurd h1 (by decide)
      | esc => simp at e; rw [e.1]
    | group h1 =>
      cases hT' with
      | plain h1 => exact absurd h1 (by decide)
      | group h2 =>
        rw [List.append_assoc, List.append_assoc] at e
        rw [tok_one (fun ys t q => q.first) (fun ys t q => q.first) (fun xs ys t t' r r' a b e => atom_one a b e) h1.tok h2.tok e]
    | cls h1 =>
      cases hT' with
      | plain h1 => exact absurd h1 (by decide)
      | cls h2 =>
        have a := h1 r
        have b := h2 r'
        rw [List.cons_append, e] at a
        rw [List.cons_append, a] at b
        simp at b
        exact (List.append_inj e b.2).1
/-- Bytes and signs: the number of bars is one. -/
theorem tokn_one {n m : Nat} {k : Nat} {xs : List UInt8} (h : TokN (AtomG n) k xs) : ∀ {j : Nat} {ys : List UInt8}, TokN (AtomG m) j ys → xs = ys → k = j := by
  induction h with
  | nil =>
    intro j ys q e
    cases q with
    | nil => rfl
    | bar _ => cases e
    | op _ _ => cases e
    | atom ha _ => obtain ⟨c, zs, rfl, _⟩ := ha.first; cases e
  | bar h ih =>
    intro j ys q e
    cases q with
    | nil => cases e
    | bar q' => simp at e; rw [ih q' e]
    | op hc _ => simp at e; rw [← e.1] at hc; exact absurd hc (by decide)
    | atom ha _ => obtain ⟨c, zs, rfl, _, n124, _⟩ := ha.first; simp at e; exact absurd e.1.symm n124
  | op hc h ih =>
    intro j ys q e
    cases q with
    | nil => cases e
    | bar _ => simp at e; rw [e.1] at hc; exact absurd hc (by decide)
    | op hc' q' => simp at e; exact ih q' e.2
    | atom ha _ => obtain ⟨c, zs, rfl, _, _, nop⟩ := ha.first; simp at e; rw [e.1] at hc; exact absurd hc nop
  | atom ha h ih =>
    intro j ys q e
    cases q with
    | nil => obtain ⟨c, zs, rfl, _⟩ := ha.first; cases e
    | bar _ => obtain ⟨c, zs, rfl, _, n124, _⟩ := ha.first; simp at e; exact absurd e.1 n124
    | op hc _ => obtain ⟨c, zs, rfl, _, _, nop⟩ := ha.first; simp at e; rw [← e.1] at hc; exact absurd hc nop
    | atom hb q' =>
      have u := atom_one ha hb e
      subst u
      exact ih q' (List.append_cancel_left e)
theorem prefM_one {n m : Nat} {p : List UInt8} : ∀ {ts us : List Pat} {i : Nat}, i ≤ p.length → SeqG (AtomG n) ts (cut p i p.length) → SeqG (AtomG m) us (cut p i p.length) → prefM ts = prefM us
  | [], us, i, hi, h, k => by
    have hip : i = p.length := by
      have hl := cut_len (p := p) (i := i) (Nat.le_refl _)
      rw [show cut p i p.length = [] from h] at hl
      simp at hl
      omega
    subst hip
    rw [seq_done k (Nat.le_refl _)]
  | t :: ts, us, i, hi, h, k => by
    have him : i < p.length := by
      refine Nat.lt_of_le_of_ne hi fun q => ?_
      subst q
      exact absurd (seq_done h (Nat.le_refl _)) (by simp)
    obtain ⟨t1, ts1, j, c, a, e1, h1⟩ := seq_step h (Nat.le_refl _) him
    obtain ⟨rfl, rfl⟩ : t1 = t ∧ ts1 = ts := by simpa using e1.symm
    obtain ⟨u1, us1, j', c', a', rfl, k1⟩ := seq_step k (Nat.le_refl _) him
    have e2 := atom_one (r := cut p j p.length) (r' := cut p j' p.length) h1.atom k1.atom (by rw [← cut_cat (Nat.le_of_lt h1.lt) h1.le, ← cut_cat (Nat.le_of_lt k1.lt) k1.le])
    have e3 : j = j' := by
      have hl := congrArg List.length e2
      rw [cut_len h1.le, cut_len k1.le] at hl
      have := h1.lt
      have := k1.lt
      omega
    subst e3
    obtain rfl : c = c' := Option.some.inj (h1.at0.symm.trans k1.at0)
    rcases h1.what with ⟨b, rfl, hs, hn, hb, hS⟩ | ⟨hnb, hw⟩
    · rcases k1.what with ⟨b', rfl, _, _, hb', kS⟩ | ⟨_, (⟨s1, s2⟩ | ⟨_, d, hd, hop, hlt⟩)⟩
      · obtain rfl : b = b' := Option.some.inj (hb.symm.trans hb')
        simp only [prefM]
        rw [prefM_one h1.le hS kS]
      · exact absurd hs (fun q => q.elim (fun z => z s1) s2)
      · exact absurd hop (hn d hd hlt)
    · rw [prefM_not hnb]
      rcases k1.what with ⟨b', rfl, hs, hn, hb', kS⟩ | ⟨knb, _⟩
      · rcases hw with ⟨s1, s2⟩ | ⟨_, d, hd, hop, hlt⟩
        · exact absurd hs (fun q => q.elim (fun z => z s1) s2)
        · exact absurd hop (hn d hd hlt)
      · rw [prefM_not knb]
theorem prefOf_one {p : List UInt8} {os us : List (List Pat)} (h : AltOk p 0 0 p.length os) (k : AltOk p 0 0 p.length us) : prefOf os = prefOf us := by
  obtain ⟨n, h1⟩ := h.gr
  obtain ⟨m, k1⟩ := k.gr
  obtain ⟨j, hj, hT⟩ := h1.tokn
  obtain ⟨j', hj', kT⟩ := k1.tokn
  have e := tokn_one hT kT rfl
  match os, us, h1, k1, hj, hj' with
  | [ts], [us], h1, k1, _, _ => exact prefM_one (Nat.zero_le _) h1 k1
  | [ts], u :: v :: us, h1, k1, hj, hj' => simp at hj hj'; omega
  | t :: v :: ts, [us], h1, k1, hj, hj' => simp at hj hj'; omega
  | t :: v :: ts, u :: x :: us, h1, k1, hj, hj' => rfl
end Go.Proofs.Ythkmecppjhcidaa
