/-
  The grammar of patterns over lists of bytes, and what the check says behind a piece.
-/
import Derived.Test.YthkmecppjhcidacRxM
namespace Go.Proofs.Ythkmecppjhcidac
set_option linter.unusedVariables false
set_option linter.unusedSimpArgs false

/-- The bytes from i up to k. -/
def cut (p : List UInt8) (i k : Nat) : List UInt8 := (p.drop i).take (k - i)
theorem cut_nil (p : List UInt8) (i : Nat) : cut p i i = [] := by simp [cut]
theorem cut_len {p : List UInt8} {i k : Nat} (h : k ≤ p.length) : (cut p i k).length = k - i := by
  simp [cut]; omega
theorem cut_cat {p : List UInt8} {i j k : Nat} (h1 : i ≤ j) (h2 : j ≤ k) : cut p i k = cut p i j ++ cut p j k := by
  unfold cut
  have : k - i = (j - i) + (k - j) := by omega
  rw [this, List.take_add, List.drop_drop]
  congr 3
  omega
theorem cut_one {p : List UInt8} {i : Nat} {c : UInt8} (h : p[i]? = some c) : cut p i (i + 1) = [c] := by
  have hi := lt_of_at h
  unfold cut
  rw [List.drop_eq_getElem_cons hi, Nat.add_sub_cancel_left, get_of_at h]
  simp

abbrev special (c : UInt8) : Prop := isEnd c ∨ c = 40 ∨ c = 91 ∨ c = 46 ∨ c = 92
def RepG (A : List UInt8 → Pat → Prop) (xs : List UInt8) (t : Pat) : Prop :=
  ∃ (ys ops : List UInt8) (a : Pat), xs = ys ++ ops ∧ A ys a ∧ (∀ c ∈ ops, isOp c) ∧ t = (if ops = [] then a else .rep a (ops.any (· != 43)) (ops.any (· != 63)))
def SeqG (A : List UInt8 → Pat → Prop) : List Pat → List UInt8 → Prop
  | [], xs => xs = []
  | t :: ts, xs => ∃ ys zs, xs = ys ++ zs ∧ RepG A ys t ∧ SeqG A ts zs
def AltG (A : List UInt8 → Pat → Prop) : List (List Pat) → List UInt8 → Prop
  | [], xs => False
  | [ts], xs => SeqG A ts xs
  | ts :: os, xs => ∃ ys zs, xs = ys ++ 124 :: zs ∧ SeqG A ts ys ∧ AltG A os zs
def AtomG : Nat → List UInt8 → Pat → Prop
  | 0, _, _ => False
  | n + 1, xs, t => (∃ c, xs = [c] ∧ ¬ special c ∧ t = .byte c) ∨ (xs = [46] ∧ t = .cls (fun _ => true)) ∨ (∃ c, xs = [92, c] ∧ t = .byte c) ∨
      (∃ ys os, xs = 40 :: ys ++ [41] ∧ AltG (AtomG n) os ys ∧ t = .alt os) ∨ (∃ p i k f, p[i]? = some 91 ∧ classM p (i + 1) = .inl (f, k) ∧ xs = cut p i k ∧ t = .cls f)
theorem RepG.mono {A B : List UInt8 → Pat → Prop} (h : ∀ xs t, A xs t → B xs t) {xs : List UInt8} {t : Pat} : RepG A xs t → RepG B xs t := fun ⟨ys, ops, a, h1, h2, h3, h4⟩ => ⟨ys, ops, a, h1, h _ _ h2, h3, h4⟩
theorem SeqG.mono {A B : List UInt8 → Pat → Prop} (h : ∀ xs t, A xs t → B xs t) : ∀ {ts : List Pat} {xs : List UInt8}, SeqG A ts xs → SeqG B ts xs
  | [], _, q => q
  | _ :: _, _, ⟨ys, zs, h1, h2, h3⟩ => ⟨ys, zs, h1, h2.mono h, SeqG.mono h h3⟩
theorem AltG.mono {A B : List UInt8 → Pat → Prop} (h : ∀ xs t, A xs t → B xs t) : ∀ {os : List (List Pat)} {xs : List UInt8}, AltG A os xs → AltG B os xs
  | [], _, q => q
  | [_], _, q => SeqG.mono h q
  | _ :: _ :: _, _, ⟨ys, zs, h1, h2, h3⟩ => ⟨ys, zs, h1, h2.mono h, AltG.mono h h3⟩
theorem AtomG.mono : ∀ {n m : Nat} {xs : List UInt8} {t : Pat}, n ≤ m → AtomG n xs t → AtomG m xs t
  | 0, _, _, _, _, h => h.elim
  | n + 1, 0, _, _, hm, _ => by omega
  | n + 1, m + 1, xs, t, hm, h => by
    rcases h with h | h | h | ⟨ys, os, h1, h2, h3⟩ | h
    · exact .inl h
    · exact .inr (.inl h)
    · exact .inr (.inr (.inl h))
    · exact .inr (.inr (.inr (.inl ⟨ys, os, h1, h2.mono (fun _ _ q => AtomG.mono (by omega) q), h3⟩)))
    · exact .inr (.inr (.inr (.inr h)))
theorem SeqG.snoc {A : List UInt8 → Pat → Prop} : ∀ {ts : List Pat} {xs ys : List UInt8} {t : Pat}, SeqG A ts xs → RepG A ys t → SeqG A (ts ++ [t]) (xs ++ ys)
  | [], xs, ys, t, h, k => by subst h; exact ⟨ys, [], by simp, k, rfl⟩
  | s :: ts, xs, ys, t, ⟨us, vs, h1, h2, h3⟩, k => ⟨us, vs ++ ys, by rw [h1]; simp, h2, SeqG.snoc h3 k⟩
theorem AltG.snoc {A : List UInt8 → Pat → Prop} : ∀ {os : List (List Pat)} {xs ys : List UInt8} {ts : List Pat}, AltG A os xs → SeqG A ts ys → AltG A (os ++ [ts]) (xs ++ 124 :: ys)
  | [], _, _, _, h, _ => h.elim
  | [s], xs, ys, ts, h, k => ⟨xs, ys, rfl, h, k⟩
  | s :: o :: os, xs, ys, ts, ⟨us, vs, h1, h2, h3⟩, k => ⟨us, vs ++ 124 :: ys, by rw [h1]; simp, h2, AltG.snoc h3 k⟩

/-- What a piece that has been read says: the check goes on behind it. -/
structure AtomOk (p : List UInt8) (o i k : Nat) (t : Pat) : Prop where
  lt : i < k
  le : k ≤ p.length
  chk : ∀ a, chkM p i o a = chkM p k o true
  gr : ∃ n, AtomG n (cut p i k) t
structure RepOk (p : List UInt8) (o i k : Nat) (t : Pat) : Prop where
  lt : i < k
  le : k ≤ p.length
  chk : ∀ a, chkM p i o a = chkM p k o true
  next : ∀ c, p[k]? = some c → ¬ isOp c
  gr : ∃ n, RepG (AtomG n) (cut p i k) t
structure SeqOk (p : List UInt8) (o i k : Nat) (ts : List Pat) : Prop where
  lei : i ≤ k
  le : k ≤ p.length
  chk : chkM p i o false = chkM p k o false
  gr : ∃ n, SeqG (AtomG n) ts (cut p i k)
structure AltOk (p : List UInt8) (o i k : Nat) (os : List (List Pat)) : Prop where
  lei : i ≤ k
  le : k ≤ p.length
  chk : chkM p i o false = chkM p k o false
  gr : ∃ n, AltG (AtomG n) os (cut p i k)
theorem SeqOk.nil {p : List UInt8} {o i : Nat} (h : i ≤ p.length) : SeqOk p o i i [] := ⟨Nat.le_refl _, h, rfl, 0, cut_nil p i⟩
theorem SeqOk.more {p : List UInt8} {o i j k : Nat} {ts : List Pat} {t : Pat} (h : SeqOk p o i j ts) (r : RepOk p o j k t) : SeqOk p o i k (ts ++ [t]) := by
  obtain ⟨n, hn⟩ := h.gr
  obtain ⟨m, hm⟩ := r.gr
  refine ⟨Nat.le_trans h.lei (Nat.le_of_lt r.lt), r.le, ?_, max n m, ?_⟩
  · rw [h.chk, r.chk, chk_flag r.next]
  · rw [cut_cat h.lei (Nat.le_of_lt r.lt)]
    exact (hn.mono (fun _ _ q => AtomG.mono (Nat.le_max_left _ _) q)).snoc (hm.mono (fun _ _ q => AtomG.mono (Nat.le_max_right _ _) q))
theorem AltOk.one {p : List UInt8} {o i k : Nat} {ts : List Pat} (h : SeqOk p o i k ts) : AltOk p o i k [ts] := ⟨h.lei, h.le, h.chk, h.gr⟩
theorem AltOk.more {p : List UInt8} {o i j k : Nat} {os : List (List Pat)} {ts : List Pat} (h : AltOk p o i j os) (hb : p[j]? = some 124) (s : SeqOk p o (j + 1) k ts) : AltOk p o i k (os ++ [ts]) := by
  obtain ⟨n, hn⟩ := h.gr
  obtain ⟨m, hm⟩ := s.gr
  have hl := s.lei
  refine ⟨Nat.le_trans h.lei (by omega), s.le, ?_, max n m, ?_⟩
  · rw [h.chk, chk_bar hb, s.chk]
  · rw [cut_cat h.lei (show j ≤ k by omega), cut_cat (show j ≤ j + 1 by omega) hl, cut_one hb]
    exact (hn.mono (fun _ _ q => AtomG.mono (Nat.le_max_left _ _) q)).snoc (hm.mono (fun _ _ q => AtomG.mono (Nat.le_max_right _ _) q))
theorem AtomOk.group {p : List UInt8} {o i j : Nat} {os : List (List Pat)} (h : p[i]? = some 40) (ho : ¬ o = 20) (a : AltOk p (o + 1) (i + 1) j os) (hj : p[j]? = some 41) : AtomOk p o i (j + 1) (.alt os) := by
  obtain ⟨n, hn⟩ := a.gr
  have hl := a.lei
  refine ⟨by omega, lt_of_at hj, fun b => ?_, n + 1, .inr (.inr (.inr (.inl ⟨_, os, ?_, hn, rfl⟩)))⟩
  · rw [chk_open h, if_neg ho, a.chk, chk_close hj, if_neg (by omega), Nat.add_sub_cancel]
  · rw [cut_cat (show i ≤ i + 1 by omega) (show i + 1 ≤ j + 1 by omega), cut_one h, cut_cat hl (show j ≤ j + 1 by omega), cut_one hj]
    simp
theorem AtomOk.plain {p : List UInt8} {o i : Nat} {c : UInt8} (h : p[i]? = some c) (hc : ¬ special c) : AtomOk p o i (i + 1) (.byte c) := by
  refine ⟨by omega, lt_of_at h, fun a => chk_plain h (fun q => hc (.inl q)) (fun q => hc (.inr (.inl q))) (fun q => hc (.inr (.inr (.inl q)))) (fun q => hc (.inr (.inr (.inr (.inr q))))), 1, .inl ⟨c, cut_one h, hc, rfl⟩⟩
theorem AtomOk.dot {p : List UInt8} {o i : Nat} (h : p[i]? = some 46) : AtomOk p o i (i + 1) (.cls (fun _ => true)) := by
  refine ⟨by omega, lt_of_at h, fun a => chk_plain h (by decide) (by decide) (by decide) (by decide), 1, .inr (.inl ⟨cut_one h, rfl⟩)⟩
theorem AtomOk.esc {p : List UInt8} {o i : Nat} {c : UInt8} (h : p[i]? = some 92) (hc : p[i + 1]? = some c) : AtomOk p o i (i + 1 + 1) (.byte c) := by
  have hl := lt_of_at hc
  refine ⟨by omega, hl, fun a => by rw [chk_esc h, if_neg (by omega)], 1, .inr (.inr (.inl ⟨c, ?_, rfl⟩))⟩
  rw [cut_cat (show i ≤ i + 1 by omega) (show i + 1 ≤ i + 1 + 1 by omega), cut_one h, cut_one hc]
  rfl
theorem AtomOk.class {p : List UInt8} {o i k : Nat} {f : UInt8 → Bool} (h : p[i]? = some 91) (hc : classM p (i + 1) = .inl (f, k)) : AtomOk p o i k (.cls f) := by
  have hl := classM_gt hc
  exact ⟨by omega, hl.2, fun a => by rw [chk_class h, hc], 1, .inr (.inr (.inr (.inr ⟨p, i, k, f, h, hc, rfl, rfl⟩)))⟩
/-- An atom with the signs behind it. -/
structure OpsOk (p : List UInt8) (o i j k : Nat) (a : Pat) (op rp : Bool) : Prop where
  atom : AtomOk p o i j a
  lt : j ≤ k
  le : k ≤ p.length
  chk : chkM p j o true = chkM p k o true
  ops : ∀ c ∈ cut p j k, isOp c
  opt : op = (cut p j k).any (· != 43)
  rpt : rp = (cut p j k).any (· != 63)
theorem OpsOk.zero {p : List UInt8} {o i j : Nat} {a : Pat} (h : AtomOk p o i j a) : OpsOk p o i j j a false false :=
  ⟨h, Nat.le_refl _, h.le, rfl, by rw [cut_nil]; simp, by rw [cut_nil]; rfl, by rw [cut_nil]; rfl⟩
theorem OpsOk.more {p : List UInt8} {o i j k : Nat} {a : Pat} {op rp : Bool} {c : UInt8} (h : OpsOk p o i j k a op rp) (hc : p[k]? = some c) (hop : isOp c) : OpsOk p o i j (k + 1) a (op || c != 43) (rp || c != 63) := by
  have hcut : cut p j (k + 1) = cut p j k ++ [c] := by rw [cut_cat h.lt (show k ≤ k + 1 by omega), cut_one hc]
  refine ⟨h.atom, by have := h.lt; omega, lt_of_at hc, ?_, ?_, ?_, ?_⟩
  · rw [h.chk, chk_op hc hop, if_pos rfl]
  · rw [hcut]
    intro d hd
    rcases List.mem_append.1 hd with hd | hd
    · exact h.ops d hd
    · simp at hd; subst hd; exact hop
  · rw [hcut, List.any_append, ← h.opt]; simp
  · rw [hcut, List.any_append, ← h.rpt]; simp
theorem OpsOk.rep {p : List UInt8} {o i j k : Nat} {a : Pat} {op rp : Bool} (h : OpsOk p o i j k a op rp) (hn : ∀ c, p[k]? = some c → ¬ isOp c) : RepOk p o i k (if j = k then a else .rep a op rp) := by
  obtain ⟨n, hg⟩ := h.atom.gr
  have h1 := h.atom.lt
  have h2 := h.lt
  refine ⟨by omega, h.le, fun b => by rw [h.atom.chk, h.chk], hn, n, cut p i j, cut p j k, a, cut_cat (by omega) h2, hg, h.ops, ?_⟩
  by_cases hjk : j = k
  · subst hjk; rw [if_pos rfl, if_pos (cut_nil p j)]
  · have : ¬ cut p j k = [] := fun q => by have := cut_len (p := p) (i := j) h.le; rw [q] at this; simp at this; omega
    rw [if_neg hjk, if_neg this, ← h.opt, ← h.rpt]
end Go.Proofs.Ythkmecppjhcidac
