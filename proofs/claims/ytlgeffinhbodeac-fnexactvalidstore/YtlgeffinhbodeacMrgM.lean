/-
  What a stack of runs shows.
-/
import Derived.Test.YtlgeffinhbodeacRepM
namespace Go.Proofs.Ytlgeffinhbodeac
set_option linter.unusedVariables false
set_option linter.unusedSimpArgs false

theorem okPair_key {p e : Ent} (h : okPair p e = true) : keyCmp p e = -1 := by
  unfold okPair at h
  simp only [Bool.and_eq_true, decide_eq_true_eq, Bool.not_eq_true', beq_iff_eq] at h
  first
    | exact h.1
    | exact h.2
    | (have h1 := h.1; have h2 := h.2; rcases keyCmp_vals p e with q | q | q <;> simp_all)
theorem ord_of_adj : ∀ (l : List Ent), (∀ i p e, l[i]? = some p → l[i + 1]? = some e → keyCmp p e = -1) → Ord l
  | [], _ => List.Pairwise.nil
  | [a], _ => by simp [Ord]
  | a :: b :: r, h => by
    have ih := ord_of_adj (b :: r) (fun i p e h1 h2 => h (i + 1) p e (by simpa using h1) (by simpa using h2))
    have hab : keyCmp a b = -1 := h 0 a b rfl rfl
    refine List.pairwise_cons.2 ⟨fun x hx => ?_, ih⟩
    rcases List.mem_cons.1 hx with rfl | hx
    · exact hab
    · exact keyCmp_trans hab ((List.pairwise_cons.1 ih).1 x hx)
theorem ord_of_good {es : List Ent} (h : GoodR es) : Ord es := ord_of_adj es (fun i p e h1 h2 => okPair_key (h.2 i p e h1 h2))
theorem ord_get {l : List Ent} (h : Ord l) {i j : Nat} {x y : Ent} (hij : i < j) (hx : l[i]? = some x) (hy : l[j]? = some y) : keyCmp x y = -1 := by
  obtain ⟨h1, rfl⟩ := List.getElem?_eq_some_iff.1 hx
  obtain ⟨h2, rfl⟩ := List.getElem?_eq_some_iff.1 hy
  exact List.pairwise_iff_getElem.1 h i j h1 h2 hij

def GoodRs (rs : List (List Ent)) : Prop := rs.length ≤ 50 ∧ ∀ es ∈ rs, GoodR es
/-- An entry at a place. -/
def At (rs : List (List Ent)) (i j : Nat) (x : Ent) : Prop := ∃ es, rs[i]? = some es ∧ es[j]? = some x
/-- Some newer run does away with it. -/
def HidTo (rs : List (List Ent)) (k : Nat) (x : Ent) : Prop := ∃ m ds d, m < k ∧ rs[m]? = some ds ∧ d ∈ ds ∧ kills d x = true
def Good (rs : List (List Ent)) (inr : ByteArray → Bool) (i : Nat) (x : Ent) : Prop := x.kind = 0 ∧ inr x.row = true ∧ ¬ HidTo rs i x
def MrgTo (rs : List (List Ent)) (inr : ByteArray → Bool) (i j : Nat) (L : List Ent) : Prop :=
  Ord L ∧ ∀ x, x ∈ L ↔ ∃ i' j', (i' < i ∨ (i' = i ∧ j' < j)) ∧ At rs i' j' x ∧ Good rs inr i' x
def Mrg (rs : List (List Ent)) (inr : ByteArray → Bool) (L : List Ent) : Prop := Ord L ∧ ∀ x, x ∈ L ↔ ∃ i j, At rs i j x ∧ Good rs inr i x
def MrgOf (rs : List (List Ent)) (inr : ByteArray → Bool) (L : List Ent) : Prop := (GoodRs rs → Mrg rs inr L) ∧ (¬ GoodRs rs → L = [])
theorem mrgOf_uniq {rs : List (List Ent)} {inr : ByteArray → Bool} {L M : List Ent} (h : MrgOf rs inr L) (k : MrgOf rs inr M) : L = M := by
  by_cases g : GoodRs rs
  · exact ord_ext (h.1 g).1 (k.1 g).1 (fun x => ((h.1 g).2 x).trans ((k.1 g).2 x).symm)
  · rw [h.2 g, k.2 g]

theorem mrgTo_zero (rs : List (List Ent)) (inr : ByteArray → Bool) : MrgTo rs inr 0 0 [] :=
  ⟨List.Pairwise.nil, fun x => ⟨fun h => by simp at h, fun ⟨i, j, h, _⟩ => by omega⟩⟩
theorem mrgTo_row {rs : List (List Ent)} {inr : ByteArray → Bool} {i j : Nat} {es L : List Ent} (h : MrgTo rs inr i j L) (he : rs[i]? = some es) (hj : es.length ≤ j) : MrgTo rs inr (i + 1) 0 L := by
  refine ⟨h.1, fun x => (h.2 x).trans ⟨?_, ?_⟩⟩
  · rintro ⟨i', j', hp, ha, hg⟩
    exact ⟨i', j', by omega, ha, hg⟩
  · rintro ⟨i', j', hp, ⟨fs, h1, h2⟩, hg⟩
    refine ⟨i', j', ?_, ⟨fs, h1, h2⟩, hg⟩
    by_cases hii : i' = i
    · subst hii
      rw [he] at h1
      simp at h1
      subst h1
      have := (List.getElem?_eq_some_iff.1 h2).1
      omega
    · omega
theorem mrgTo_skip {rs : List (List Ent)} {inr : ByteArray → Bool} {i j : Nat} {e : Ent} {L : List Ent} (h : MrgTo rs inr i j L) (he : At rs i j e) (hn : ¬ Good rs inr i e) : MrgTo rs inr i (j + 1) L := by
  refine ⟨h.1, fun x => (h.2 x).trans ⟨?_, ?_⟩⟩
  · rintro ⟨i', j', hp, ha, hg⟩
    exact ⟨i', j', by omega, ha, hg⟩
  · rintro ⟨i', j', hp, ha, hg⟩
    refine ⟨i', j', ?_, ha, hg⟩
    by_cases hq : i' = i ∧ j' = j
    · obtain ⟨rfl, rfl⟩ := hq
      obtain ⟨es, h1, h2⟩ := he
      obtain ⟨fs, h3, h4⟩ := ha
      rw [h1] at h3
      simp at h3
      subst h3
      rw [h2] at h4
      simp at h4
      subst h4
      exact absurd hg hn
    · omega
theorem mrgTo_put {rs : List (List Ent)} {inr : ByteArray → Bool} {i j : Nat} {e : Ent} {L : List Ent} (hG : GoodRs rs) (h : MrgTo rs inr i j L) (he : At rs i j e) (hg : Good rs inr i e) : MrgTo rs inr i (j + 1) (into L e) := by
  obtain ⟨h1, h2⟩ := into_spec e L h.1
  have uniq : ∀ x i' j', (i' < i ∨ (i' = i ∧ j' < j)) → At rs i' j' x → Good rs inr i' x → keyCmp x e ≠ 0 := by
    rintro x i' j' hp ⟨fs, a1, a2⟩ hx hz
    rcases hp with hp | ⟨rfl, hp⟩
    · exact hg.2.2 ⟨i', fs, x, hp, a1, List.mem_of_getElem? a2, by
        obtain ⟨k1, k2, k3, k4, k5⟩ := keyCmp_zero.1 hz
        unfold kills
        have hk : ¬ x.kind = 2 := by have := hx.1; omega
        simp [sameCol_iff, hk, k1, k2, k3, k5]⟩
    · obtain ⟨es, b1, b2⟩ := he
      rw [b1] at a1
      simp at a1
      subst a1
      have := ord_get (ord_of_good (hG.2 es (List.mem_of_getElem? b1))) hp a2 b2
      omega
  refine ⟨h1, fun x => (h2 x).trans ⟨?_, ?_⟩⟩
  · rintro (rfl | ⟨hx, _⟩)
    · exact ⟨i, j, by omega, he, hg⟩
    · obtain ⟨i', j', hp, ha, hg'⟩ := (h.2 x).1 hx
      exact ⟨i', j', by omega, ha, hg'⟩
  · rintro ⟨i', j', hp, ha, hg'⟩
    by_cases hq : i' = i ∧ j' = j
    · obtain ⟨rfl, rfl⟩ := hq
      obtain ⟨es, a1, a2⟩ := he
      obtain ⟨fs, a3, a4⟩ := ha
      rw [a1] at a3
      simp at a3
      subst a3
      rw [a2] at a4
      simp at a4
      exact .inl a4.symm
    · have hp' : i' < i ∨ (i' = i ∧ j' < j) := by omega
      exact .inr ⟨(h.2 x).2 ⟨i', j', hp', ha, hg'⟩, uniq x i' j' hp' ha hg'⟩
theorem mrg_of_to {rs : List (List Ent)} {inr : ByteArray → Bool} {i j : Nat} {L : List Ent} (h : MrgTo rs inr i j L) (hi : rs.length ≤ i) : Mrg rs inr L := by
  refine ⟨h.1, fun x => (h.2 x).trans ⟨?_, ?_⟩⟩
  · rintro ⟨i', j', hp, ha, hg⟩
    exact ⟨i', j', ha, hg⟩
  · rintro ⟨i', j', ⟨es, h1, h2⟩, hg⟩
    have := (List.getElem?_eq_some_iff.1 h1).1
    exact ⟨i', j', by omega, ⟨es, h1, h2⟩, hg⟩
theorem hidTo_zero (rs : List (List Ent)) (x : Ent) : ¬ HidTo rs 0 x := fun ⟨m, _, _, h, _⟩ => by omega
theorem hidTo_succ {rs : List (List Ent)} {k : Nat} {x : Ent} {ds : List Ent} (hd : rs[k]? = some ds) : HidTo rs (k + 1) x ↔ HidTo rs k x ∨ ∃ d ∈ ds, kills d x = true := by
  constructor
  · rintro ⟨m, es, d, h1, h2, h3, h4⟩
    by_cases hm : m = k
    · subst hm
      rw [hd] at h2
      simp at h2
      subst h2
      exact .inr ⟨d, h3, h4⟩
    · exact .inl ⟨m, es, d, by omega, h2, h3, h4⟩
  · rintro (⟨m, es, d, h1, h2, h3, h4⟩ | ⟨d, h3, h4⟩)
    · exact ⟨m, es, d, by omega, h2, h3, h4⟩
    · exact ⟨k, ds, d, by omega, hd, h3, h4⟩
theorem mrgTo_len {rs : List (List Ent)} {inr : ByteArray → Bool} {i j : Nat} {L : List Ent} (h : MrgTo rs inr i j L) : ∀ x ∈ L, x ∈ rs.flatten := by
  intro x hx
  obtain ⟨i', j', _, ⟨es, h1, h2⟩, _⟩ := (h.2 x).1 hx
  exact List.mem_flatten.2 ⟨es, List.mem_of_getElem? h1, List.mem_of_getElem? h2⟩
theorem mrg_len {rs : List (List Ent)} {inr : ByteArray → Bool} {L : List Ent} (h : Mrg rs inr L) : ∀ x ∈ L, x ∈ rs.flatten := by
  intro x hx
  obtain ⟨i', j', ⟨es, h1, h2⟩, _⟩ := (h.2 x).1 hx
  exact List.mem_flatten.2 ⟨es, List.mem_of_getElem? h1, List.mem_of_getElem? h2⟩
end Go.Proofs.Ytlgeffinhbodeac
