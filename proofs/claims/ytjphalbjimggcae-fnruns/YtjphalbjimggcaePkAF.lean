import Derived.Test.YtjphalbjimggcaePkAE
/-
  What a run keeps of a list of writes, as a property; it determines the run.
-/
namespace Go.Proofs.Ytjphalbjimggcae
set_option linter.unusedVariables false

theorem toList_inj {a b : ByteArray} (h : a.toList = b.toList) : a = b := by
  rw [ByteArray.toList_eq, ByteArray.toList_eq] at h
  cases a; cases b
  simp at h
  simpa using h
theorem sameCol_iff {a b : Ent} : sameCol a b = true ↔ a.row = b.row ∧ a.fam = b.fam ∧ a.qual = b.qual := by
  unfold sameCol
  simp only [Bool.and_eq_true, beq_iff_eq]
  constructor
  · rintro ⟨h1, h2, h3⟩; exact ⟨toList_inj h1, toList_inj h2, toList_inj h3⟩
  · rintro ⟨h1, h2, h3⟩; rw [h1, h2, h3]; exact ⟨rfl, rfl, rfl⟩
theorem size_zero_eq {a b : ByteArray} (h : a.size = 0) (k : b.size = 0) : a = b := by
  obtain ⟨⟨l⟩⟩ := a
  obtain ⟨⟨m⟩⟩ := b
  cases l with
  | nil => cases m with
    | nil => rfl
    | cons y m => simp [ByteArray.size] at k
  | cons x l => simp [ByteArray.size] at h
theorem vld_val {e : Ent} (h : e.vld = true) (k : e.kind = 2) : e.val.size = 0 := by
  unfold Ent.vld vE at h
  have := of_decide_eq_true h
  omega

/-- No delete of the same column has a larger timestamp. -/
def Largest (ws : List Ent) (e : Ent) : Prop := ∀ v ∈ ws, v.kind = 2 → sameCol v e = true → v.ts ≤ e.ts
def Keep (ws : List Ent) (i : Nat) (e : Ent) : Prop := (¬ e.kind = 2 ∧ Stands ws i) ∨ (e.kind = 2 ∧ Largest ws e)
def KeepTo (ws : List Ent) (k : Nat) (x : Ent) : Prop := ∃ i, i < k ∧ ws[i]? = some x ∧ Keep ws i x
/-- 'R' is what the first 'k' writes leave in the run of 'ws'. -/
def Kept (ws : List Ent) (k : Nat) (R : List Ent) : Prop := Ord R ∧ (∀ x, x ∈ R ↔ KeepTo ws k x)

theorem keep_uniq {ws : List Ent} (hv : ∀ x ∈ ws, x.vld = true) {i k : Nat} {x e : Ent} (hik : i < k) (hx : ws[i]? = some x) (he : ws[k]? = some e) (kx : Keep ws i x) (ke : Keep ws k e) (hz : keyCmp x e = 0) : x = e := by
  obtain ⟨h1, h2, h3, h4, h5⟩ := keyCmp_zero.1 hz
  rcases kx with ⟨hn, hs⟩ | ⟨h2k, _⟩
  · have := hs k e x hik he hx
    unfold kills at this
    rw [sameCol_iff.2 ⟨h1.symm, h2.symm, h3.symm⟩] at this
    have hn' : (e.kind == 2) = false := by simp; exact fun q => hn (h4.2 q)
    rw [hn', if_neg (by simp), h5] at this
    simp at this
  · have h2e := h4.1 h2k
    have v1 := vld_val (hv x (List.mem_of_getElem? hx)) h2k
    have v2 := vld_val (hv e (List.mem_of_getElem? he)) h2e
    obtain ⟨r, f, q, t, kk, v⟩ := x
    obtain ⟨r', f', q', t', kk', v'⟩ := e
    simp only at *
    subst h1 h2 h3 h5 h2k h2e
    rw [size_zero_eq v1 v2]

theorem kept_zero (ws : List Ent) : Kept ws 0 [] := ⟨List.Pairwise.nil, fun x => ⟨fun h => by simp at h, fun ⟨i, hi, _⟩ => by omega⟩⟩
theorem kept_skip {ws : List Ent} {k : Nat} {e : Ent} {R : List Ent} (h : Kept ws k R) (he : ws[k]? = some e) (hk : ¬ Keep ws k e) : Kept ws (k + 1) R := by
  refine ⟨h.1, fun x => (h.2 x).trans ⟨fun ⟨i, hi, h1, h2⟩ => ⟨i, by omega, h1, h2⟩, fun ⟨i, hi, h1, h2⟩ => ?_⟩⟩
  by_cases hik : i = k
  · subst hik
    rw [he] at h1
    simp at h1
    subst h1
    exact absurd h2 hk
  · exact ⟨i, by omega, h1, h2⟩
theorem kept_step {ws : List Ent} (hv : ∀ x ∈ ws, x.vld = true) {k : Nat} {e : Ent} {R : List Ent} (h : Kept ws k R) (he : ws[k]? = some e) (hk : Keep ws k e) : Kept ws (k + 1) (into R e) := by
  obtain ⟨h1, h2⟩ := into_spec e R h.1
  refine ⟨h1, fun x => (h2 x).trans ⟨?_, ?_⟩⟩
  · rintro (rfl | ⟨hx, _⟩)
    · exact ⟨k, by omega, he, hk⟩
    · obtain ⟨i, hi, a, b⟩ := (h.2 x).1 hx
      exact ⟨i, by omega, a, b⟩
  · rintro ⟨i, hi, a, b⟩
    by_cases hik : i = k
    · subst hik
      rw [he] at a
      simp at a
      exact .inl a.symm
    · by_cases hz : keyCmp x e = 0
      · exact .inl (keep_uniq hv (by omega) a he b hk hz)
      · exact .inr ⟨(h.2 x).2 ⟨i, by omega, a, b⟩, hz⟩
theorem kept_uniq {ws : List Ent} {k : Nat} {R S : List Ent} (h : Kept ws k R) (g : Kept ws k S) : R = S :=
  ord_ext h.1 g.1 (fun x => (h.2 x).trans (g.2 x).symm)
theorem length_into (L : List Ent) (e : Ent) : (into L e).length ≤ L.length + 1 := length_intoG e L false
end Go.Proofs.Ytjphalbjimggcae

/-
  What is left of a list of writes when it is played from its front: the puts of its run.
-/
namespace Go.Proofs.Ytjphalbjimggcae
set_option linter.unusedVariables false

/-- The list that is played up to 'k'. -/
def Rep (ws : List Ent) (k : Nat) (L : List Ent) : Prop := Ord L ∧ ∀ x, x ∈ L ↔ ∃ i, i < k ∧ ws[i]? = some x ∧ x.kind = 0 ∧ StandsTo ws i k
/-- A delete does away with this one. -/
def hit (x e : Ent) : Bool := sameCol x e && ((x.ts == e.ts) || ((e.kind == 2) && decide (x.ts ≤ e.ts)))

theorem sameCol_comm (a b : Ent) : sameCol a b = sameCol b a := by
  rw [Bool.eq_iff_iff, sameCol_iff, sameCol_iff]
  constructor <;> rintro ⟨h1, h2, h3⟩ <;> exact ⟨h1.symm, h2.symm, h3.symm⟩
theorem hit_kills (x e : Ent) : hit x e = kills e x := by
  unfold hit kills
  rw [sameCol_comm x e]
  cases sameCol e x
  · rfl
  · by_cases h2 : e.kind = 2
    · by_cases h : x.ts ≤ e.ts
      · simp [h2, h]
      · have : ¬ x.ts = e.ts := by omega
        simp [h2, h, this]
    · rw [Bool.eq_iff_iff]
      simp [h2]
      exact eq_comm

theorem rep_zero (ws : List Ent) : Rep ws 0 [] := ⟨List.Pairwise.nil, fun x => ⟨fun h => by simp at h, fun ⟨i, hi, _⟩ => by omega⟩⟩
theorem standsTo_self (ws : List Ent) (k : Nat) : StandsTo ws k (k + 1) := fun j v e h1 h2 => by omega
theorem standsTo_iff {ws : List Ent} {i k : Nat} {x e : Ent} (hx : ws[i]? = some x) (he : ws[k]? = some e) (hik : i < k) : StandsTo ws i (k + 1) ↔ StandsTo ws i k ∧ kills e x = false :=
  ⟨fun h => ⟨fun j v y h1 h2 => h j v y h1 (by omega), h k e x hik (by omega) he hx⟩, fun h => standsTo_succ h.1 he hx h.2⟩
theorem key_kills {x e : Ent} (hx : x.kind = 0) (he : e.kind = 0) : keyCmp x e = 0 ↔ kills e x = true := by
  rw [keyCmp_zero]
  unfold kills
  simp [sameCol_iff, hx, he]
  constructor
  · rintro ⟨h1, h2, h3, h4⟩; exact ⟨⟨h1.symm, h2.symm, h3.symm⟩, h4.symm⟩
  · rintro ⟨⟨h1, h2, h3⟩, h4⟩; exact ⟨h1.symm, h2.symm, h3.symm, h4.symm⟩
theorem rep_put {ws : List Ent} {k : Nat} {e : Ent} {L : List Ent} (h : Rep ws k L) (he : ws[k]? = some e) (h0 : e.kind = 0) : Rep ws (k + 1) (into L e) := by
  obtain ⟨h1, h2⟩ := into_spec e L h.1
  refine ⟨h1, fun x => (h2 x).trans ⟨?_, ?_⟩⟩
  · rintro (rfl | ⟨hx, hz⟩)
    · exact ⟨k, by omega, he, h0, standsTo_self ws k⟩
    · obtain ⟨i, hi, a, b, c⟩ := (h.2 x).1 hx
      refine ⟨i, by omega, a, b, (standsTo_iff a he hi).2 ⟨c, ?_⟩⟩
      cases hk : kills e x
      · rfl
      · exact absurd ((key_kills b h0).2 hk) hz
  · rintro ⟨i, hi, a, b, c⟩
    by_cases hik : i = k
    · subst hik
      rw [he] at a
      simp at a
      exact .inl a.symm
    · obtain ⟨c1, c2⟩ := (standsTo_iff a he (by omega)).1 c
      refine .inr ⟨(h.2 x).2 ⟨i, by omega, a, b, c1⟩, fun hz => ?_⟩
      rw [(key_kills b h0).1 hz] at c2
      cases c2
theorem rep_del {ws : List Ent} {k : Nat} {e : Ent} {L : List Ent} (h : Rep ws k L) (he : ws[k]? = some e) (h0 : ¬ e.kind = 0) : Rep ws (k + 1) (L.filter fun x => !(hit x e)) := by
  refine ⟨h.1.filter _, fun x => ?_⟩
  rw [List.mem_filter, hit_kills, h.2 x]
  constructor
  · rintro ⟨⟨i, hi, a, b, c⟩, hk⟩
    exact ⟨i, by omega, a, b, (standsTo_iff a he hi).2 ⟨c, by simpa using hk⟩⟩
  · rintro ⟨i, hi, a, b, c⟩
    by_cases hik : i = k
    · subst hik
      rw [he] at a
      simp at a
      subst a
      exact absurd b h0
    · obtain ⟨c1, c2⟩ := (standsTo_iff a he (by omega)).1 c
      exact ⟨⟨i, by omega, a, b, c1⟩, by simp [c2]⟩

/-- The puts of a list of entries. -/
def puts (R : List Ent) : List Ent := R.filter fun x => x.kind == 0
theorem length_puts (R : List Ent) : (puts R).length ≤ R.length := List.length_filter_le _ _
theorem rep_kept {ws L R : List Ent} (h : Rep ws ws.length L) (hk : Kept ws ws.length R) : L = puts R := by
  refine ord_ext h.1 (hk.1.filter _) (fun x => ?_)
  rw [h.2 x]
  unfold puts
  rw [List.mem_filter, hk.2 x]
  constructor
  · rintro ⟨i, hi, a, b, c⟩
    refine ⟨⟨i, hi, a, .inl ⟨by omega, fun j v e h1 h2 h3 => c j v e h1 (List.getElem?_eq_some_iff.1 h2).1 h2 h3⟩⟩, by simp [b]⟩
  · rintro ⟨⟨i, hi, a, b⟩, h0⟩
    have h0' : x.kind = 0 := by simpa using h0
    rcases b with ⟨_, hs⟩ | ⟨h2, _⟩
    · exact ⟨i, hi, a, h0', fun j v e h1 _ h2 h3 => hs j v e h1 h2 h3⟩
    · omega
end Go.Proofs.Ytjphalbjimggcae

/-
  What a stack of runs shows.
-/
namespace Go.Proofs.Ytjphalbjimggcae
set_option linter.unusedVariables false
set_option linter.unusedSimpArgs false

theorem okPair_key {p e : Ent} (h : okPair p e = true) : keyCmp p e = -1 := by
  unfold okPair at h
  simp only [Bool.and_eq_true, decide_eq_true_eq, Bool.not_eq_true', beq_iff_eq] at h
  first
    | exact h.1
    | exact h.2
    | (have h1 := h.1; have h2 := h.2; rcases keyCmp_vals p e with q | q | q <;> simp_all)
theorem ord_of_adj : ∀ (l : List Ent), (∀ i p e, l[i]? = some p → l[i + 1]? = some e → keyCmp p e = -1) → Ord l
  | [], _ => List.Pairwise.nil
  | [a], _ => by simp [Ord]
  | a :: b :: r, h => by
    have ih := ord_of_adj (b :: r) (fun i p e h1 h2 => h (i + 1) p e (by simpa using h1) (by simpa using h2))
    have hab : keyCmp a b = -1 := h 0 a b rfl rfl
    refine List.pairwise_cons.2 ⟨fun x hx => ?_, ih⟩
    rcases List.mem_cons.1 hx with rfl | hx
    · exact hab
    · exact keyCmp_trans hab ((List.pairwise_cons.1 ih).1 x hx)
theorem ord_of_good {es : List Ent} (h : GoodR es) : Ord es := ord_of_adj es (fun i p e h1 h2 => okPair_key (h.2 i p e h1 h2))
theorem ord_get {l : List Ent} (h : Ord l) {i j : Nat} {x y : Ent} (hij : i < j) (hx : l[i]? = some x) (hy : l[j]? = some y) : keyCmp x y = -1 := by
  obtain ⟨h1, rfl⟩ := List.getElem?_eq_some_iff.1 hx
  obtain ⟨h2, rfl⟩ := List.getElem?_eq_some_iff.1 hy
  exact List.pairwise_iff_getElem.1 h i j h1 h2 hij

def GoodRs (rs : List (List Ent)) : Prop := rs.length ≤ 50 ∧ ∀ es ∈ rs, GoodR es
/-- An entry at a place. -/
def At (rs : List (List Ent)) (i j : Nat) (x : Ent) : Prop := ∃ es, rs[i]? = some es ∧ es[j]? = some x
/-- Some newer run does away with it. -/
def HidTo (rs : List (List Ent)) (k : Nat) (x : Ent) : Prop := ∃ m ds d, m < k ∧ rs[m]? = some ds ∧ d ∈ ds ∧ kills d x = true
def Good (rs : List (List Ent)) (inr : ByteArray → Bool) (i : Nat) (x : Ent) : Prop := x.kind = 0 ∧ inr x.row = true ∧ ¬ HidTo rs i x
def MrgTo (rs : List (List Ent)) (inr : ByteArray → Bool) (i j : Nat) (L : List Ent) : Prop :=
  Ord L ∧ ∀ x, x ∈ L ↔ ∃ i' j', (i' < i ∨ (i' = i ∧ j' < j)) ∧ At rs i' j' x ∧ Good rs inr i' x
def Mrg (rs : List (List Ent)) (inr : ByteArray → Bool) (L : List Ent) : Prop := Ord L ∧ ∀ x, x ∈ L ↔ ∃ i j, At rs i j x ∧ Good rs inr i x
def MrgOf (rs : List (List Ent)) (inr : ByteArray → Bool) (L : List Ent) : Prop := (GoodRs rs → Mrg rs inr L) ∧ (¬ GoodRs rs → L = [])
theorem mrgOf_uniq {rs : List (List Ent)} {inr : ByteArray → Bool} {L M : List Ent} (h : MrgOf rs inr L) (k : MrgOf rs inr M) : L = M := by
  by_cases g : GoodRs rs
  · exact ord_ext (h.1 g).1 (k.1 g).1 (fun x => ((h.1 g).2 x).trans ((k.1 g).2 x).symm)
  · rw [h.2 g, k.2 g]

theorem mrgTo_zero (rs : List (List Ent)) (inr : ByteArray → Bool) : MrgTo rs inr 0 0 [] :=
  ⟨List.Pairwise.nil, fun x => ⟨fun h => by simp at h, fun ⟨i, j, h, _⟩ => by omega⟩⟩
theorem mrgTo_row {rs : List (List Ent)} {inr : ByteArray → Bool} {i j : Nat} {es L : List Ent} (h : MrgTo rs inr i j L) (he : rs[i]? = some es) (hj : es.length ≤ j) : MrgTo rs inr (i + 1) 0 L := by
  refine ⟨h.1, fun x => (h.2 x).trans ⟨?_, ?_⟩⟩
  · rintro ⟨i', j', hp, ha, hg⟩
    exact ⟨i', j', by omega, ha, hg⟩
  · rintro ⟨i', j', hp, ⟨fs, h1, h2⟩, hg⟩
    refine ⟨i', j', ?_, ⟨fs, h1, h2⟩, hg⟩
    by_cases hii : i' = i
    · subst hii
      rw [he] at h1
      simp at h1
      subst h1
      have := (List.getElem?_eq_some_iff.1 h2).1
      omega
    · omega
theorem mrgTo_skip {rs : List (List Ent)} {inr : ByteArray → Bool} {i j : Nat} {e : Ent} {L : List Ent} (h : MrgTo rs inr i j L) (he : At rs i j e) (hn : ¬ Good rs inr i e) : MrgTo rs inr i (j + 1) L := by
  refine ⟨h.1, fun x => (h.2 x).trans ⟨?_, ?_⟩⟩
  · rintro ⟨i', j', hp, ha, hg⟩
    exact ⟨i', j', by omega, ha, hg⟩
  · rintro ⟨i', j', hp, ha, hg⟩
    refine ⟨i', j', ?_, ha, hg⟩
    by_cases hq : i' = i ∧ j' = j
    · obtain ⟨rfl, rfl⟩ := hq
      obtain ⟨es, h1, h2⟩ := he
      obtain ⟨fs, h3, h4⟩ := ha
      rw [h1] at h3
      simp at h3
      subst h3
      rw [h2] at h4
      simp at h4
      subst h4
      exact absurd hg hn
    · omega
theorem mrgTo_put {rs : List (List Ent)} {inr : ByteArray → Bool} {i j : Nat} {e : Ent} {L : List Ent} (hG : GoodRs rs) (h : MrgTo rs inr i j L) (he : At rs i j e) (hg : Good rs inr i e) : MrgTo rs inr i (j + 1) (into L e) := by
  obtain ⟨h1, h2⟩ := into_spec e L h.1
  have uniq : ∀ x i' j', (i' < i ∨ (i' = i ∧ j' < j)) → At rs i' j' x → Good rs inr i' x → keyCmp x e ≠ 0 := by
    rintro x i' j' hp ⟨fs, a1, a2⟩ hx hz
    rcases hp with hp | ⟨rfl, hp⟩
    · exact hg.2.2 ⟨i', fs, x, hp, a1, List.mem_of_getElem? a2, by
        obtain ⟨k1, k2, k3, k4, k5⟩ := keyCmp_zero.1 hz
        unfold kills
        have hk : ¬ x.kind = 2 := by have := hx.1; omega
        simp [sameCol_iff, hk, k1, k2, k3, k5]⟩
    · obtain ⟨es, b1, b2⟩ := he
      rw [b1] at a1
      simp at a1
      subst a1
      have := ord_get (ord_of_good (hG.2 es (List.mem_of_getElem? b1))) hp a2 b2
      omega
  refine ⟨h1, fun x => (h2 x).trans ⟨?_, ?_⟩⟩
  · rintro (rfl | ⟨hx, _⟩)
    · exact ⟨i, j, by omega, he, hg⟩
    · obtain ⟨i', j', hp, ha, hg'⟩ := (h.2 x).1 hx
      exact ⟨i', j', by omega, ha, hg'⟩
  · rintro ⟨i', j', hp, ha, hg'⟩
    by_cases hq : i' = i ∧ j' = j
    · obtain ⟨rfl, rfl⟩ := hq
      obtain ⟨es, a1, a2⟩ := he
      obtain ⟨fs, a3, a4⟩ := ha
      rw [a1] at a3
      simp at a3
      subst a3
      rw [a2] at a4
      simp at a4
      exact .inl a4.symm
    · have hp' : i' < i ∨ (i' = i ∧ j' < j) := by omega
      exact .inr ⟨(h.2 x).2 ⟨i', j', hp', ha, hg'⟩, uniq x i' j' hp' ha hg'⟩
theorem mrg_of_to {rs : List (List Ent)} {inr : ByteArray → Bool} {i j : Nat} {L : List Ent} (h : MrgTo rs inr i j L) (hi : rs.length ≤ i) : Mrg rs inr L := by
  refine ⟨h.1, fun x => (h.2 x).trans ⟨?_, ?_⟩⟩
  · rintro ⟨i', j', hp, ha, hg⟩
    exact ⟨i', j', ha, hg⟩
  · rintro ⟨i', j', ⟨es, h1, h2⟩, hg⟩
    have := (List.getElem?_eq_some_iff.1 h1).1
    exact ⟨i', j', by omega, ⟨es, h1, h2⟩, hg⟩
theorem hidTo_zero (rs : List (List Ent)) (x : Ent) : ¬ HidTo rs 0 x := fun ⟨m, _, _, h, _⟩ => by omega
theorem hidTo_succ {rs : List (List Ent)} {k : Nat} {x : Ent} {ds : List Ent} (hd : rs[k]? = some ds) : HidTo rs (k + 1) x ↔ HidTo rs k x ∨ ∃ d ∈ ds, kills d x = true := by
  constructor
  · rintro ⟨m, es, d, h1, h2, h3, h4⟩
    by_cases hm : m = k
    · subst hm
      rw [hd] at h2
      simp at h2
      subst h2
      exact .inr ⟨d, h3, h4⟩
    · exact .inl ⟨m, es, d, by omega, h2, h3, h4⟩
  · rintro (⟨m, es, d, h1, h2, h3, h4⟩ | ⟨d, h3, h4⟩)
    · exact ⟨m, es, d, by omega, h2, h3, h4⟩
    · exact ⟨k, ds, d, by omega, hd, h3, h4⟩
theorem mrgTo_len {rs : List (List Ent)} {inr : ByteArray → Bool} {i j : Nat} {L : List Ent} (h : MrgTo rs inr i j L) : ∀ x ∈ L, x ∈ rs.flatten := by
  intro x hx
  obtain ⟨i', j', _, ⟨es, h1, h2⟩, _⟩ := (h.2 x).1 hx
  exact List.mem_flatten.2 ⟨es, List.mem_of_getElem? h1, List.mem_of_getElem? h2⟩
theorem mrg_len {rs : List (List Ent)} {inr : ByteArray → Bool} {L : List Ent} (h : Mrg rs inr L) : ∀ x ∈ L, x ∈ rs.flatten := by
  intro x hx
  obtain ⟨i', j', ⟨es, h1, h2⟩, _⟩ := (h.2 x).1 hx
  exact List.mem_flatten.2 ⟨es, List.mem_of_getElem? h1, List.mem_of_getElem? h2⟩
end Go.Proofs.Ytjphalbjimggcae

