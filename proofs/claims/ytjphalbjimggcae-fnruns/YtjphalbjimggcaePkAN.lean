import Derived.Sort.LotB
import Derived.Test.YtjphalbjimggcaePkAF
import Derived.Test.YtjphalbjimggcaePkAG
/-
  The merge as a fold: entries come in the order of keys, and at one key the newest run's first.
-/
namespace Go.Proofs.Ytjphalbjimggcae
set_option linter.unusedVariables false
set_option linter.unusedSimpArgs false

/-- Comes before: a smaller key, or the same key in a newer run. -/
def Lt2 (p q : Nat × Ent) : Prop := keyCmp p.2 q.2 = -1 ∨ (keyCmp p.2 q.2 = 0 ∧ p.1 < q.1)
theorem lt2_trans {p q r : Nat × Ent} (h : Lt2 p q) (k : Lt2 q r) : Lt2 p r := by
  rcases h with h | ⟨h, h'⟩ <;> rcases k with k | ⟨k, k'⟩
  · exact .inl (keyCmp_trans h k)
  · left
    have h1 := keyCmp_congr k (c := p.2)
    have h2 := keyCmp_neg p.2 q.2
    have h3 := keyCmp_neg p.2 r.2
    omega
  · left
    have h1 := keyCmp_congr h (c := r.2)
    omega
  · right
    have h1 := keyCmp_congr h (c := r.2)
    exact ⟨by omega, by omega⟩
theorem lt2_irrefl (p : Nat × Ent) : ¬ Lt2 p p := by
  rintro (h | ⟨_, h⟩)
  · rw [keyCmp_self] at h; omega
  · omega
theorem lt2_total {p q : Nat × Ent} (h : ¬ p.1 = q.1) : Lt2 p q ∨ Lt2 q p := by
  have h2 := keyCmp_neg p.2 q.2
  rcases keyCmp_vals p.2 q.2 with k | k | k
  · exact .inl (.inl k)
  · by_cases hl : p.1 < q.1
    · exact .inl (.inr ⟨k, hl⟩)
    · exact .inr (.inr ⟨by omega, by omega⟩)
  · exact .inr (.inl (by omega))
theorem lt2_asymm {p q : Nat × Ent} (h : Lt2 p q) : ¬ Lt2 q p := fun k => lt2_irrefl p (lt2_trans h k)

/-- What stands in the way of a put of run 'a'. -/
def Over (P : List (Nat × Ent)) (a : Nat) (x : Ent) : Prop := ∃ p ∈ P, p.1 < a ∧ kills p.2 x = true
/-- What has been shown of what came. -/
def Shown (P : List (Nat × Ent)) (L : List Ent) : Prop := Ord L ∧ ∀ x, x ∈ L ↔ ∃ a, (a, x) ∈ P ∧ x.kind = 0 ∧ ¬ Over P a x

abbrev Ent.col (e : Ent) : ByteArray × ByteArray × ByteArray := (e.row, e.fam, e.qual)
theorem sameCol_col {a b : Ent} : sameCol a b = true ↔ a.col = b.col := by
  rw [sameCol_iff]; simp [Ent.col]
theorem key_le {a b : Ent} (h : keyCmp a b ≤ 0) : cB a.row b.row ≤ 0 ∧ (a.row = b.row → cB a.fam b.fam ≤ 0 ∧ (a.fam = b.fam → cB a.qual b.qual ≤ 0 ∧ (a.qual = b.qual → kindCmp a.kind b.kind ≤ 0 ∧ (kindCmp a.kind b.kind = 0 → tsCmp a.ts b.ts ≤ 0)))) := by
  have F : ∀ {x y : Int}, firstOf x y ≤ 0 → x ≤ 0 ∧ (x = 0 → y ≤ 0) := by
    intro x y
    unfold firstOf
    by_cases h : x = 0
    · rw [if_pos h]; intro k; exact ⟨by omega, fun _ => k⟩
    · rw [if_neg h]; intro k; exact ⟨k, fun q => absurd q h⟩
  unfold keyCmp at h
  obtain ⟨h1, h⟩ := F h
  refine ⟨h1, fun q => ?_⟩
  obtain ⟨h2, h⟩ := F (h (cB_zero.2 q))
  refine ⟨h2, fun q => ?_⟩
  obtain ⟨h3, h⟩ := F (h (cB_zero.2 q))
  refine ⟨h3, fun q => ?_⟩
  exact F (h (cB_zero.2 q))
theorem Lt2.le {p q : Nat × Ent} (h : Lt2 p q) : keyCmp p.2 q.2 ≤ 0 := by
  rcases h with h | ⟨h, _⟩ <;> omega
/-- A column's entries stand together. -/
theorem col_between {a b c : Ent} (h : keyCmp a b ≤ 0) (k : keyCmp b c ≤ 0) (q : a.col = c.col) : b.col = c.col := by
  simp only [Ent.col, Prod.mk.injEq] at q ⊢
  obtain ⟨q1, q2, q3⟩ := q
  obtain ⟨h1, h⟩ := key_le h
  obtain ⟨k1, k⟩ := key_le k
  have n1 := cB_neg a.row b.row
  rw [← q1] at k1 k ⊢
  have e1 : b.row = a.row := cB_zero.1 (by omega)
  obtain ⟨h2, h⟩ := h e1.symm
  obtain ⟨k2, k⟩ := k e1
  have n2 := cB_neg a.fam b.fam
  rw [← q2] at k2 k ⊢
  have e2 : b.fam = a.fam := cB_zero.1 (by omega)
  obtain ⟨h3, h⟩ := h e2.symm
  obtain ⟨k3, k⟩ := k e2
  have n3 := cB_neg a.qual b.qual
  rw [← q3] at k3 k ⊢
  have e3 : b.qual = a.qual := cB_zero.1 (by omega)
  exact ⟨e1, e2, e3⟩
/-- Timestamps fall. -/
theorem ts_falls {a b : Ent} (h : keyCmp a b ≤ 0) (q : a.col = b.col) (ha : ¬ a.kind = 2) (hb : ¬ b.kind = 2) : b.ts ≤ a.ts := by
  simp only [Ent.col, Prod.mk.injEq] at q
  have hk : kindCmp a.kind b.kind = 0 := kindCmp_zero.2 ⟨fun h => absurd h ha, fun h => absurd h hb⟩
  have := (((((key_le h).2 q.1).2 q.2.1).2 q.2.2).2) hk
  unfold tsCmp at this
  (repeat' split at this) <;> omega
/-- What does away with a put of an older run comes before it. -/
theorem kill_lt2 {d x : Ent} {a b : Nat} (h : kills d x = true) (hab : a < b) (hx : x.kind = 0) : Lt2 (a, d) (b, x) := by
  unfold kills at h
  rw [Bool.and_eq_true, sameCol_iff] at h
  obtain ⟨⟨h1, h2, h3⟩, h4⟩ := h
  by_cases hd : d.kind = 2
  · left
    show keyCmp d x = -1
    unfold keyCmp
    rw [cB_zero.2 h1, cB_zero.2 h2, cB_zero.2 h3]
    have : kindCmp d.kind x.kind = -1 := by
      unfold kindCmp
      rw [if_pos hd, if_neg (by omega)]
    rw [this]
    simp [firstOf]
  · right
    refine ⟨keyCmp_zero.2 ⟨h1, h2, h3, ⟨fun q => absurd q hd, fun q => by have q' : x.kind = 2 := q; omega⟩, ?_⟩, hab⟩
    simpa [hd] using h4

theorem over_push {P : List (Nat × Ent)} {a b : Nat} {e x : Ent} (hx : x.kind = 0) (h : Lt2 (b, x) (a, e)) : Over (P ++ [(a, e)]) b x ↔ Over P b x := by
  constructor
  · rintro ⟨p, hp, h1, h2⟩
    rcases List.mem_append.1 hp with hp | hp
    · exact ⟨p, hp, h1, h2⟩
    · simp at hp
      subst hp
      exact absurd h (lt2_asymm (kill_lt2 h2 h1 hx))
  · rintro ⟨p, hp, h1, h2⟩
    exact ⟨p, List.mem_append_left _ hp, h1, h2⟩
theorem over_self {P : List (Nat × Ent)} {a : Nat} {e : Ent} : Over (P ++ [(a, e)]) a e ↔ Over P a e := by
  constructor
  · rintro ⟨p, hp, h1, h2⟩
    rcases List.mem_append.1 hp with hp | hp
    · exact ⟨p, hp, h1, h2⟩
    · simp at hp
      subst hp
      simp at h1
  · rintro ⟨p, hp, h1, h2⟩
    exact ⟨p, List.mem_append_left _ hp, h1, h2⟩
theorem shown_nil : Shown [] [] := ⟨List.Pairwise.nil, fun x => by simp⟩
theorem shown_skip {P : List (Nat × Ent)} {L : List Ent} {a : Nat} {e : Ent} (h : Shown P L) (hP : ∀ p ∈ P, Lt2 p (a, e)) (hn : ¬ (e.kind = 0 ∧ ¬ Over P a e)) : Shown (P ++ [(a, e)]) L := by
  refine ⟨h.1, fun x => (h.2 x).trans ⟨?_, ?_⟩⟩
  · rintro ⟨b, h1, h2, h3⟩
    exact ⟨b, List.mem_append_left _ h1, h2, fun q => h3 ((over_push h2 (hP _ h1)).1 q)⟩
  · rintro ⟨b, h1, h2, h3⟩
    rcases List.mem_append.1 h1 with h1 | h1
    · exact ⟨b, h1, h2, fun q => h3 ((over_push h2 (hP _ h1)).2 q)⟩
    · simp at h1
      obtain ⟨rfl, rfl⟩ := h1
      exact absurd ⟨h2, fun q => h3 (over_self.2 q)⟩ hn
theorem shown_put {P : List (Nat × Ent)} {L : List Ent} {a : Nat} {e : Ent} (h : Shown P L) (hP : ∀ p ∈ P, Lt2 p (a, e)) (h0 : e.kind = 0) (hn : ¬ Over P a e) : Shown (P ++ [(a, e)]) (L ++ [e]) := by
  refine ⟨List.pairwise_append.2 ⟨h.1, by simp, fun y hy z hz => ?_⟩, fun x => ?_⟩
  · simp at hz
    subst hz
    obtain ⟨b, h1, h2, h3⟩ := (h.2 y).1 hy
    rcases hP _ h1 with q | ⟨q, q'⟩
    · exact q
    · refine absurd ⟨(b, y), h1, q', ?_⟩ hn
      obtain ⟨k1, k2, k3, k4, k5⟩ := keyCmp_zero.1 q
      unfold kills
      have hk : ¬ y.kind = 2 := by omega
      simp at k1 k2 k3 k5
      simp [sameCol_iff, hk, k1, k2, k3, k5]
  · rw [List.mem_append, h.2 x]
    constructor
    · rintro (⟨b, h1, h2, h3⟩ | hx)
      · exact ⟨b, List.mem_append_left _ h1, h2, fun q => h3 ((over_push h2 (hP _ h1)).1 q)⟩
      · simp at hx
        subst hx
        exact ⟨a, by simp, h0, fun q => hn (over_self.1 q)⟩
    · rintro ⟨b, h1, h2, h3⟩
      rcases List.mem_append.1 h1 with h1 | h1
      · exact .inl ⟨b, h1, h2, fun q => h3 ((over_push h2 (hP _ h1)).2 q)⟩
      · simp at h1
        obtain ⟨rfl, rfl⟩ := h1
        exact .inr (by simp)

/-- The merger's memory of the column at hand, behind what came. -/
structure Mem (P : List (Nat × Ent)) (c : ByteArray × ByteArray × ByteArray) (ds : List (Nat × Int)) (dec : Bool) (ts : Int) : Prop where
  dels : ∀ d, d ∈ ds ↔ ∃ p ∈ P, p.2.kind = 2 ∧ p.2.col = c ∧ d = (p.1, p.2.ts)
  some : dec = true → ∃ p ∈ P, ¬ p.2.kind = 2 ∧ p.2.col = c ∧ p.2.ts = ts
  all : ∀ p ∈ P, ¬ p.2.kind = 2 → p.2.col = c → dec = true ∧ ts ≤ p.2.ts
  len : ds.length ≤ P.length
/-- It is the last one's column. -/
def Last (P : List (Nat × Ent)) (c : ByteArray × ByteArray × ByteArray) : Prop := ∀ p, P.getLast? = some p → p.2.col = c

theorem mem_nil (c : ByteArray × ByteArray × ByteArray) (ts : Int) : Mem [] c [] false ts := ⟨by simp, by simp, by simp, by simp⟩
theorem last_nil (c : ByteArray × ByteArray × ByteArray) : Last [] c := by intro p h; simp at h
theorem last_push (P : List (Nat × Ent)) (a : Nat) (e : Ent) : Last (P ++ [(a, e)]) e.col := by intro p h; simp at h; subst h; rfl
theorem col_fresh {P : List (Nat × Ent)} {c : ByteArray × ByteArray × ByteArray} {a : Nat} {e : Ent} (hl : Last P c) (hS : P.Pairwise Lt2) (hP : ∀ p ∈ P, Lt2 p (a, e)) (hc : ¬ e.col = c) : ∀ p ∈ P, ¬ p.2.col = e.col := by
  intro p hp hq
  obtain ⟨l, hll⟩ : ∃ l, P.getLast? = some l := by
    cases hg : P.getLast? with
    | none => rw [List.getLast?_eq_none_iff] at hg; subst hg; simp at hp
    | some l => exact ⟨l, rfl⟩
  have hm : l ∈ P := List.mem_of_getLast? hll
  have h1 : keyCmp p.2 l.2 ≤ 0 := by
    by_cases hpl : p = l
    · subst hpl; rw [keyCmp_self]; omega
    · obtain ⟨Q, hQ⟩ := List.getLast?_eq_some_iff.1 hll
      subst hQ
      rcases List.mem_append.1 hp with hp | hp
      · exact ((List.pairwise_append.1 hS).2.2 p hp l (by simp)).le
      · simp at hp; exact absurd hp hpl
  have := col_between h1 (hP l hm).le hq
  exact hc (this.symm.trans (hl l hll))
theorem mem_turn {P : List (Nat × Ent)} {c : ByteArray × ByteArray × ByteArray} {a : Nat} {e : Ent} (hl : Last P c) (hS : P.Pairwise Lt2) (hP : ∀ p ∈ P, Lt2 p (a, e)) (hc : ¬ e.col = c) (ts : Int) : Mem P e.col [] false ts := by
  have := col_fresh hl hS hP hc
  refine ⟨fun d => ⟨fun h => by simp at h, ?_⟩, by simp, fun p hp _ q => absurd q (this p hp), by simp⟩
  rintro ⟨p, hp, _, q, _⟩
  exact absurd q (this p hp)
theorem mem_del {P : List (Nat × Ent)} {ds : List (Nat × Int)} {dec : Bool} {ts : Int} {a : Nat} {e : Ent} (h : Mem P e.col ds dec ts) (h2 : e.kind = 2) : Mem (P ++ [(a, e)]) e.col (ds ++ [(a, e.ts)]) dec ts := by
  refine ⟨fun d => ?_, fun q => ?_, fun p hp hn hc => ?_, by simpa using h.len⟩
  · rw [List.mem_append, h.dels]
    constructor
    · rintro (⟨p, hp, q⟩ | hd)
      · exact ⟨p, List.mem_append_left _ hp, q⟩
      · simp at hd
        exact ⟨(a, e), by simp, h2, rfl, hd⟩
    · rintro ⟨p, hp, q1, q2, q3⟩
      rcases List.mem_append.1 hp with hp | hp
      · exact .inl ⟨p, hp, q1, q2, q3⟩
      · simp at hp
        subst hp
        exact .inr (by simpa using q3)
  · obtain ⟨p, hp, k⟩ := h.some q
    exact ⟨p, List.mem_append_left _ hp, k⟩
  · rcases List.mem_append.1 hp with hp | hp
    · exact h.all p hp hn hc
    · simp at hp
      subst hp
      exact absurd h2 hn
theorem mem_same {P : List (Nat × Ent)} {ds : List (Nat × Int)} {dec : Bool} {ts : Int} {a : Nat} {e : Ent} (h : Mem P e.col ds dec ts) (h2 : ¬ e.kind = 2) (hd : dec = true) (ht : ts = e.ts) : Mem (P ++ [(a, e)]) e.col ds dec ts := by
  refine ⟨fun d => ?_, fun q => ?_, fun p hp hn hc => ?_, by simpa using Nat.le_succ_of_le h.len⟩
  · rw [h.dels]
    constructor
    · rintro ⟨p, hp, q⟩
      exact ⟨p, List.mem_append_left _ hp, q⟩
    · rintro ⟨p, hp, q1, q2, q3⟩
      rcases List.mem_append.1 hp with hp | hp
      · exact ⟨p, hp, q1, q2, q3⟩
      · simp at hp
        subst hp
        exact absurd q1 h2
  · obtain ⟨p, hp, k⟩ := h.some q
    exact ⟨p, List.mem_append_left _ hp, k⟩
  · rcases List.mem_append.1 hp with hp | hp
    · exact h.all p hp hn hc
    · simp at hp
      subst hp
      exact ⟨hd, by simp [ht]⟩
theorem mem_new {P : List (Nat × Ent)} {ds : List (Nat × Int)} {dec : Bool} {ts : Int} {a : Nat} {e : Ent} (h : Mem P e.col ds dec ts) (hP : ∀ p ∈ P, Lt2 p (a, e)) (h2 : ¬ e.kind = 2) : Mem (P ++ [(a, e)]) e.col ds true e.ts := by
  refine ⟨fun d => ?_, fun q => ⟨(a, e), by simp, h2, rfl, rfl⟩, fun p hp hn hc => ⟨rfl, ?_⟩, by simpa using Nat.le_succ_of_le h.len⟩
  · rw [h.dels]
    constructor
    · rintro ⟨p, hp, q⟩
      exact ⟨p, List.mem_append_left _ hp, q⟩
    · rintro ⟨p, hp, q1, q2, q3⟩
      rcases List.mem_append.1 hp with hp | hp
      · exact ⟨p, hp, q1, q2, q3⟩
      · simp at hp
        subst hp
        exact absurd q1 h2
  · rcases List.mem_append.1 hp with hp | hp
    · exact ts_falls (hP p hp).le hc hn h2
    · simp at hp
      subst hp
      simp
/-- A newer run's entry at the same key decides. -/
theorem over_decided {P : List (Nat × Ent)} {ds : List (Nat × Int)} {dec : Bool} {ts : Int} {a : Nat} {e : Ent} (h : Mem P e.col ds dec ts) (hP : ∀ p ∈ P, Lt2 p (a, e)) (h2 : ¬ e.kind = 2) (hd : dec = true) (ht : ts = e.ts) : Over P a e := by
  obtain ⟨p, hp, k1, k2, k3⟩ := h.some hd
  simp only [Ent.col, Prod.mk.injEq] at k2
  have hz : keyCmp p.2 e = 0 := keyCmp_zero.2 ⟨k2.1, k2.2.1, k2.2.2, ⟨fun q => absurd q k1, fun q => absurd q h2⟩, by omega⟩
  refine ⟨p, hp, ?_, ?_⟩
  · rcases hP p hp with q | ⟨_, q⟩
    · have q' : keyCmp p.2 e = -1 := q
      omega
    · exact q
  · unfold kills
    simp [sameCol_iff, k1, k2]
    omega
def hides (ds : List (Nat × Int)) (ts : Int) (a : Nat) : Bool := ds.any fun d => decide (d.1 < a) && decide (ts ≤ d.2)
theorem over_hides {P : List (Nat × Ent)} {ds : List (Nat × Int)} {dec : Bool} {ts : Int} {a : Nat} {e : Ent} (h : Mem P e.col ds dec ts) (hP : ∀ p ∈ P, Lt2 p (a, e)) (h2 : ¬ e.kind = 2) (hd : ¬ (dec = true ∧ ts = e.ts)) : Over P a e ↔ hides ds e.ts a = true := by
  unfold hides
  rw [List.any_eq_true]
  constructor
  · rintro ⟨p, hp, h1, hk⟩
    have hk' := hk
    unfold kills at hk
    rw [Bool.and_eq_true, sameCol_col] at hk
    by_cases hp2 : p.2.kind = 2
    · refine ⟨(p.1, p.2.ts), (h.dels _).2 ⟨p, hp, hp2, hk.1, rfl⟩, ?_⟩
      have := hk.2
      simp [hp2] at this
      simp [h1, this]
    · exfalso
      have hts : p.2.ts = e.ts := by
        have := hk.2
        simpa [hp2] using this
      obtain ⟨hdec, hle⟩ := h.all p hp hp2 hk.1
      obtain ⟨y, hy, y1, y2, y3⟩ := h.some hdec
      have f1 := ts_falls (hP y hy).le y2 y1 h2
      have f1' : e.ts ≤ y.2.ts := f1
      exact hd ⟨hdec, by omega⟩
  · rintro ⟨d, hd1, hd2⟩
    obtain ⟨p, hp, q1, q2, rfl⟩ := (h.dels d).1 hd1
    simp at hd2
    refine ⟨p, hp, hd2.1, ?_⟩
    unfold kills
    rw [sameCol_col.2 q2]
    simp [q1, hd2.2]
/-- All that lies in the range has come. -/
theorem shown_all {rs : List (List Ent)} {inr : ByteArray → Bool} {P : List (Nat × Ent)} {L : List Ent} (h : Shown P L) (hP : ∀ a x, (a, x) ∈ P ↔ (∃ j, At rs a j x) ∧ inr x.row = true) : Mrg rs inr L := by
  have ho : ∀ a x, inr x.row = true → (Over P a x ↔ HidTo rs a x) := by
    intro a x hr
    constructor
    · rintro ⟨⟨b, d⟩, hp, h1, h2⟩
      obtain ⟨⟨j, es, k1, k2⟩, _⟩ := (hP b d).1 hp
      exact ⟨b, es, d, h1, k1, List.mem_of_getElem? k2, h2⟩
    · rintro ⟨b, es, d, h1, k1, k2, h2⟩
      obtain ⟨j, hj⟩ := List.getElem?_of_mem k2
      refine ⟨(b, d), (hP b d).2 ⟨⟨j, es, k1, hj⟩, ?_⟩, h1, h2⟩
      unfold kills at h2
      rw [Bool.and_eq_true, sameCol_iff] at h2
      rw [h2.1.1]; exact hr
  refine ⟨h.1, fun x => (h.2 x).trans ⟨?_, ?_⟩⟩
  · rintro ⟨a, h1, h2, h3⟩
    obtain ⟨⟨j, hj⟩, hr⟩ := (hP a x).1 h1
    exact ⟨a, j, hj, h2, hr, fun q => h3 ((ho a x hr).2 q)⟩
  · rintro ⟨a, j, hj, h2, hr, h3⟩
    exact ⟨a, (hP a x).2 ⟨⟨j, hj⟩, hr⟩, h2, fun q => h3 ((ho a x hr).1 q)⟩
end Go.Proofs.Ytjphalbjimggcae

/-
  Cursors and their heap, without memory: what the least one gives next.
-/
namespace Go.Proofs.Ytjphalbjimggcae
set_option linter.unusedVariables false
set_option linter.unusedSimpArgs false

/-- A cursor: its block, the entries that it holds, its place among them and its age. -/
structure Cu where
  blk : Nat
  r : Rm
  pos : Nat
  age : Nat
instance : Inhabited Cu := ⟨⟨0, ⟨0, 0, 0, []⟩, 0, 0⟩⟩
def Cu.head (c : Cu) : Ent := c.r.es[c.pos]?.getD zeroE
def Cu.rest (c : Cu) : List Ent := c.r.es.drop c.pos
theorem Cu.head_get {c : Cu} (h : c.pos < c.r.es.length) : c.r.es[c.pos]? = some c.head := by
  unfold Cu.head
  rw [List.getElem?_eq_getElem h]; rfl
theorem Cu.rest_cons {c : Cu} (h : c.pos < c.r.es.length) : c.rest = c.head :: c.r.es.drop (c.pos + 1) := by
  unfold Cu.rest
  obtain ⟨h1, h2⟩ := List.getElem?_eq_some_iff.1 (Cu.head_get h)
  rw [← h2]; exact List.drop_eq_getElem_cons h1
def lessC (a b : Cu) : Bool := if keyCmp a.head b.head = 0 then decide (a.age < b.age) else decide (keyCmp a.head b.head < 0)
/-- The heap's order, from the other side. -/
def gtC (a b : Cu) : Bool := lessC b a
theorem lessC_iff {a b : Cu} : lessC a b = true ↔ Lt2 (a.age, a.head) (b.age, b.head) := by
  unfold lessC Lt2
  rcases keyCmp_vals a.head b.head with h | h | h <;> simp [h]
theorem lessC_false {a b : Cu} : lessC a b = false ↔ ¬ Lt2 (a.age, a.head) (b.age, b.head) := by
  rw [← lessC_iff]; simp
theorem lt2_not_trans {p q r : Nat × Ent} (h : ¬ Lt2 p q) (k : ¬ Lt2 q r) : ¬ Lt2 p r := by
  intro hr
  by_cases hpq : p.1 = q.1
  · have h2 := keyCmp_neg p.2 q.2
    rcases keyCmp_vals p.2 q.2 with c | c | c
    · exact h (.inl c)
    · have e := keyCmp_congr c (c := r.2)
      refine k ?_
      rcases hr with g | ⟨g, g'⟩
      · exact .inl (by omega)
      · exact .inr ⟨by omega, by omega⟩
    · exact k (lt2_trans (.inl (by omega)) hr)
  · rcases lt2_total hpq with g | g
    · exact h g
    · exact k (lt2_trans g hr)
theorem swo_gtC : Go.Sort.SWO gtC where
  irrefl := fun x => lessC_false.2 (lt2_irrefl _)
  trans := fun x y z h k => by
    unfold gtC at *
    rw [lessC_iff] at *
    exact lt2_trans k h
  ntrans := fun x y z h k => by
    unfold gtC at *
    rw [lessC_false] at *
    exact lt2_not_trans k h

def sumL (l : List (Nat × List Ent)) : Nat := (l.map fun p => p.2.length).sum
/-- What came and what is still to come. -/
structure Flow (A : Nat → Ent → Prop) (N : Nat) (P : List (Nat × Ent)) (l : List (Nat × List Ent)) : Prop where
  sorted : P.Pairwise Lt2
  ahead : ∀ p ∈ P, ∀ c ∈ l, ∀ x ∈ c.2, Lt2 p (c.1, x)
  all : ∀ a x, A a x ↔ (a, x) ∈ P ∨ ∃ c ∈ l, c.1 = a ∧ x ∈ c.2
  ages : l.Pairwise fun c c' => c.1 ≠ c'.1
  ord : ∀ c ∈ l, Ord c.2
  count : P.length + sumL l = N
theorem Flow.perm {A : Nat → Ent → Prop} {N : Nat} {P : List (Nat × Ent)} {l m : List (Nat × List Ent)} (h : Flow A N P l) (hp : l.Perm m) : Flow A N P m where
  sorted := h.sorted
  ahead := fun p hp' c hc => h.ahead p hp' c (hp.mem_iff.2 hc)
  all := fun a x => (h.all a x).trans (by
    constructor
    · rintro (k | ⟨c, hc, k⟩)
      · exact .inl k
      · exact .inr ⟨c, hp.mem_iff.1 hc, k⟩
    · rintro (k | ⟨c, hc, k⟩)
      · exact .inl k
      · exact .inr ⟨c, hp.mem_iff.2 hc, k⟩)
  ages := (hp.pairwise_iff (fun h => Ne.symm h)).1 h.ages
  ord := fun c hc => h.ord c (hp.mem_iff.2 hc)
  count := by
    have : sumL m = sumL l := ((hp.map (fun p : Nat × List Ent => p.2.length)).sum_nat).symm
    rw [this]; exact h.count
theorem Flow.done {A : Nat → Ent → Prop} {N : Nat} {P : List (Nat × Ent)} (h : Flow A N P []) : ∀ a x, (a, x) ∈ P ↔ A a x := fun a x => by
  rw [h.all]; simp
theorem Flow.next {A : Nat → Ent → Prop} {N : Nat} {P : List (Nat × Ent)} {a : Nat} {e : Ent} {r : List Ent} {l : List (Nat × List Ent)} (h : Flow A N P ((a, e :: r) :: l)) : ∀ p ∈ P, Lt2 p (a, e) :=
  fun p hp => h.ahead p hp (a, e :: r) (by simp) e (by simp)
theorem Flow.step {A : Nat → Ent → Prop} {N : Nat} {P : List (Nat × Ent)} {a : Nat} {e : Ent} {r : List Ent} {l : List (Nat × List Ent)} (h : Flow A N P ((a, e :: r) :: l))
    (hm : ∀ c ∈ l, ∃ y ys, c.2 = y :: ys ∧ ¬ Lt2 (c.1, y) (a, e)) : Flow A N (P ++ [(a, e)]) ((a, r) :: l) where
  sorted := List.pairwise_append.2 ⟨h.sorted, by simp, fun p hp q hq => by simp at hq; subst hq; exact h.next p hp⟩
  ahead := fun p hp c hc x hx => by
    rcases List.mem_append.1 hp with hp | hp
    · rcases List.mem_cons.1 hc with rfl | hc
      · exact h.ahead p hp (a, e :: r) (by simp) x (List.mem_cons_of_mem _ hx)
      · exact h.ahead p hp c (List.mem_cons_of_mem _ hc) x hx
    · simp at hp
      subst hp
      have ho := List.pairwise_cons.1 (h.ord (a, e :: r) (by simp))
      rcases List.mem_cons.1 hc with rfl | hc
      · exact .inl (ho.1 x hx)
      · obtain ⟨y, ys, e1, e2⟩ := hm c hc
        have hne : ¬ a = c.1 := (List.pairwise_cons.1 h.ages).1 c hc
        have h1 : Lt2 (a, e) (c.1, y) := (lt2_total (p := (a, e)) (q := (c.1, y)) hne).resolve_right e2
        rw [e1] at hx
        rcases List.mem_cons.1 hx with rfl | hx
        · exact h1
        · have ho' := h.ord c (List.mem_cons_of_mem _ hc)
          rw [e1] at ho'
          exact lt2_trans h1 (.inl ((List.pairwise_cons.1 ho').1 x hx))
  all := fun b x => (h.all b x).trans (by
    constructor
    · rintro (k | ⟨c, hc, k1, k2⟩)
      · exact .inl (List.mem_append_left _ k)
      · rcases List.mem_cons.1 hc with rfl | hc
        · rcases List.mem_cons.1 k2 with rfl | k2
          · left; simp at k1; subst k1; simp
          · exact .inr ⟨(a, r), by simp, k1, k2⟩
        · exact .inr ⟨c, List.mem_cons_of_mem _ hc, k1, k2⟩
    · rintro (k | ⟨c, hc, k1, k2⟩)
      · rcases List.mem_append.1 k with k | k
        · exact .inl k
        · simp at k
          exact .inr ⟨(a, e :: r), by simp, k.1.symm, by simp [k.2]⟩
      · rcases List.mem_cons.1 hc with rfl | hc
        · exact .inr ⟨(a, e :: r), by simp, k1, List.mem_cons_of_mem _ k2⟩
        · exact .inr ⟨c, List.mem_cons_of_mem _ hc, k1, k2⟩)
  ages := List.pairwise_cons.2 ⟨fun c hc => (List.pairwise_cons.1 h.ages).1 c hc, (List.pairwise_cons.1 h.ages).2⟩
  ord := fun c hc => by
    rcases List.mem_cons.1 hc with rfl | hc
    · exact (List.pairwise_cons.1 (h.ord (a, e :: r) (by simp))).2
    · exact h.ord c (List.mem_cons_of_mem _ hc)
  count := by
    have := h.count
    simp [sumL] at this ⊢
    omega
theorem Flow.drop {A : Nat → Ent → Prop} {N : Nat} {P : List (Nat × Ent)} {a : Nat} {l : List (Nat × List Ent)} (h : Flow A N P ((a, []) :: l)) : Flow A N P l where
  sorted := h.sorted
  ahead := fun p hp c hc => h.ahead p hp c (List.mem_cons_of_mem _ hc)
  all := fun b x => (h.all b x).trans (by simp)
  ages := (List.pairwise_cons.1 h.ages).2
  ord := fun c hc => h.ord c (List.mem_cons_of_mem _ hc)
  count := by
    have := h.count
    simp [sumL] at this ⊢
    omega
end Go.Proofs.Ytjphalbjimggcae

