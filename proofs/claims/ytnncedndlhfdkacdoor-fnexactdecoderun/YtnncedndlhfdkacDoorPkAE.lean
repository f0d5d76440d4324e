import Derived.Maps.AppendAt
import Derived.Deep.RegionWith
import Derived.Test.YtnncedndlhfdkacDoorPkAD
import Derived.Test.YtnncedndlhfdkacDoorPkAC
import Derived.Test.YtnncedndlhfdkacDoorPkAB
/-
  The draws: one write.
-/
namespace Go.Proofs.YtnncedndlhfdkacDoor
open Go.ChangeShapes Go.WideShapes Go.ChangeAt Go.RowKit Go.Deep
set_option linter.unusedVariables false
set_option linter.unusedSimpArgs false
set_option maxRecDepth 100000

/-- An entry whose texts are short. -/
structure Ent.small (e : Ent) : Prop where
  row : e.row.size ≤ 1000
  fam : e.fam.size ≤ 1000
  qual : e.qual.size ≤ 1000
  val : e.val.size ≤ 1000
  ts : 0 ≤ e.ts ∧ e.ts ≤ 18446744073709551615
  kind : 0 ≤ e.kind ∧ e.kind ≤ 3
theorem Ent.small.ok {e : Ent} (h : e.small) : e.ok where
  row := Nat.le_trans h.row (by decide)
  fam := Nat.le_trans h.fam (by decide)
  qual := Nat.le_trans h.qual (by decide)
  val := Nat.le_trans h.val (by decide)
  ts := by
    have := h.ts
    have h1 : IntKind.u64.min = 0 := by decide
    have h2 : IntKind.u64.max = 18446744073709551615 := by decide
    simp [Lit.wf, h1, h2]; omega
  kind := by
    have := h.kind
    have h1 : IntKind.i64.min = -9223372036854775808 := by decide
    have h2 : IntKind.i64.max = 9223372036854775807 := by decide
    simp [Lit.wf, h1, h2]; omega
theorem small_zero : zeroE.small := ⟨by decide, by decide, by decide, by decide, by decide, by decide⟩

theorem ownE_new (w : World) (base : Nat) (f : Ent) (hb : base ≤ w.heap.size) : OwnE (w.alloc (Obj.cells #[.string f.row, .string f.fam, .string f.qual, .int .u64 f.ts, .int .i64 f.kind, .string f.val] 67)) base w.heap.size 1 [f] :=
  World.ownsRow_lit (base := base) (e := 67) (size := 6) w #[.string f.row, .string f.fam, .string f.qual, .int .u64 f.ts, .int .i64 f.kind, .string f.val] 1 hb (by decide) rfl

end Go.Proofs.YtnncedndlhfdkacDoor

/-
  What is left of a list of writes when it is played from its front: the puts of its run.
-/
namespace Go.Proofs.YtnncedndlhfdkacDoor
set_option linter.unusedVariables false

/-- The list that is played up to 'k'. -/
def Rep (ws : List Ent) (k : Nat) (L : List Ent) : Prop := Ord L ∧ ∀ x, x ∈ L ↔ ∃ i, i < k ∧ ws[i]? = some x ∧ x.kind = 0 ∧ StandsTo ws i k
/-- A delete does away with this one. -/
def hit (x e : Ent) : Bool := sameCol x e && ((x.ts == e.ts) || ((e.kind == 2) && decide (x.ts ≤ e.ts)))

theorem sameCol_comm (a b : Ent) : sameCol a b = sameCol b a := by
  rw [Bool.eq_iff_iff, sameCol_iff, sameCol_iff]
  constructor <;> rintro ⟨h1, h2, h3⟩ <;> exact ⟨h1.symm, h2.symm, h3.symm⟩
theorem hit_kills (x e : Ent) : hit x e = kills e x := by
  unfold hit kills
  rw [sameCol_comm x e]
  cases sameCol e x
  · rfl
  · by_cases h2 : e.kind = 2
    · by_cases h : x.ts ≤ e.ts
      · simp [h2, h]
      · have : ¬ x.ts = e.ts := by omega
        simp [h2, h, this]
    · rw [Bool.eq_iff_iff]
      simp [h2]
      exact eq_comm

theorem rep_zero (ws : List Ent) : Rep ws 0 [] := ⟨List.Pairwise.nil, fun x => ⟨fun h => by simp at h, fun ⟨i, hi, _⟩ => by omega⟩⟩
theorem standsTo_self (ws : List Ent) (k : Nat) : StandsTo ws k (k + 1) := fun j v e h1 h2 => by omega
theorem standsTo_iff {ws : List Ent} {i k : Nat} {x e : Ent} (hx : ws[i]? = some x) (he : ws[k]? = some e) (hik : i < k) : StandsTo ws i (k + 1) ↔ StandsTo ws i k ∧ kills e x = false :=
  ⟨fun h => ⟨fun j v y h1 h2 => h j v y h1 (by omega), h k e x hik (by omega) he hx⟩, fun h => standsTo_succ h.1 he hx h.2⟩
theorem key_kills {x e : Ent} (hx : x.kind = 0) (he : e.kind = 0) : keyCmp x e = 0 ↔ kills e x = true := by
  rw [keyCmp_zero]
  unfold kills
  simp [sameCol_iff, hx, he]
  constructor
  · rintro ⟨h1, h2, h3, h4⟩; exact ⟨⟨h1.symm, h2.symm, h3.symm⟩, h4.symm⟩
  · rintro ⟨⟨h1, h2, h3⟩, h4⟩; exact ⟨h1.symm, h2.symm, h3.symm, h4.symm⟩
theorem rep_put {ws : List Ent} {k : Nat} {e : Ent} {L : List Ent} (h : Rep ws k L) (he : ws[k]? = some e) (h0 : e.kind = 0) : Rep ws (k + 1) (into L e) := by
  obtain ⟨h1, h2⟩ := into_spec e L h.1
  refine ⟨h1, fun x => (h2 x).trans ⟨?_, ?_⟩⟩
  · rintro (rfl | ⟨hx, hz⟩)
    · exact ⟨k, by omega, he, h0, standsTo_self ws k⟩
    · obtain ⟨i, hi, a, b, c⟩ := (h.2 x).1 hx
      refine ⟨i, by omega, a, b, (standsTo_iff a he hi).2 ⟨c, ?_⟩⟩
      cases hk : kills e x
      · rfl
      · exact absurd ((key_kills b h0).2 hk) hz
  · rintro ⟨i, hi, a, b, c⟩
    by_cases hik : i = k
    · subst hik
      rw [he] at a
      simp at a
      exact .inl a.symm
    · obtain ⟨c1, c2⟩ := (standsTo_iff a he (by omega)).1 c
      refine .inr ⟨(h.2 x).2 ⟨i, by omega, a, b, c1⟩, fun hz => ?_⟩
      rw [(key_kills b h0).1 hz] at c2
      cases c2
theorem rep_del {ws : List Ent} {k : Nat} {e : Ent} {L : List Ent} (h : Rep ws k L) (he : ws[k]? = some e) (h0 : ¬ e.kind = 0) : Rep ws (k + 1) (L.filter fun x => !(hit x e)) := by
  refine ⟨h.1.filter _, fun x => ?_⟩
  rw [List.mem_filter, hit_kills, h.2 x]
  constructor
  · rintro ⟨⟨i, hi, a, b, c⟩, hk⟩
    exact ⟨i, by omega, a, b, (standsTo_iff a he hi).2 ⟨c, by simpa using hk⟩⟩
  · rintro ⟨i, hi, a, b, c⟩
    by_cases hik : i = k
    · subst hik
      rw [he] at a
      simp at a
      subst a
      exact absurd b h0
    · obtain ⟨c1, c2⟩ := (standsTo_iff a he (by omega)).1 c
      exact ⟨⟨i, by omega, a, b, c1⟩, by simp [c2]⟩

/-- The puts of a list of entries. -/
def puts (R : List Ent) : List Ent := R.filter fun x => x.kind == 0
theorem length_puts (R : List Ent) : (puts R).length ≤ R.length := List.length_filter_le _ _
theorem rep_kept {ws L R : List Ent} (h : Rep ws ws.length L) (hk : Kept ws ws.length R) : L = puts R := by
  refine ord_ext h.1 (hk.1.filter _) (fun x => ?_)
  rw [h.2 x]
  unfold puts
  rw [List.mem_filter, hk.2 x]
  constructor
  · rintro ⟨i, hi, a, b, c⟩
    refine ⟨⟨i, hi, a, .inl ⟨by omega, fun j v e h1 h2 h3 => c j v e h1 (List.getElem?_eq_some_iff.1 h2).1 h2 h3⟩⟩, by simp [b]⟩
  · rintro ⟨⟨i, hi, a, b⟩, h0⟩
    have h0' : x.kind = 0 := by simpa using h0
    rcases b with ⟨_, hs⟩ | ⟨h2, _⟩
    · exact ⟨i, hi, a, h0', fun j v e h1 _ h2 h3 => hs j v e h1 h2 h3⟩
    · omega
end Go.Proofs.YtnncedndlhfdkacDoor

/-
  What a stack of runs shows.
-/
namespace Go.Proofs.YtnncedndlhfdkacDoor
set_option linter.unusedVariables false
set_option linter.unusedSimpArgs false

theorem okPair_key {p e : Ent} (h : okPair p e = true) : keyCmp p e = -1 := by
  unfold okPair at h
  simp only [Bool.and_eq_true, decide_eq_true_eq, Bool.not_eq_true', beq_iff_eq] at h
  first
    | exact h.1
    | exact h.2
    | (have h1 := h.1; have h2 := h.2; rcases keyCmp_vals p e with q | q | q <;> simp_all)
theorem ord_of_adj : ∀ (l : List Ent), (∀ i p e, l[i]? = some p → l[i + 1]? = some e → keyCmp p e = -1) → Ord l
  | [], _ => List.Pairwise.nil
  | [a], _ => by simp [Ord]
  | a :: b :: r, h => by
    have ih := ord_of_adj (b :: r) (fun i p e h1 h2 => h (i + 1) p e (by simpa using h1) (by simpa using h2))
    have hab : keyCmp a b = -1 := h 0 a b rfl rfl
    refine List.pairwise_cons.2 ⟨fun x hx => ?_, ih⟩
    rcases List.mem_cons.1 hx with rfl | hx
    · exact hab
    · exact keyCmp_trans hab ((List.pairwise_cons.1 ih).1 x hx)
theorem ord_of_good {es : List Ent} (h : GoodR es) : Ord es := ord_of_adj es (fun i p e h1 h2 => okPair_key (h.2 i p e h1 h2))
theorem ord_get {l : List Ent} (h : Ord l) {i j : Nat} {x y : Ent} (hij : i < j) (hx : l[i]? = some x) (hy : l[j]? = some y) : keyCmp x y = -1 := by
  obtain ⟨h1, rfl⟩ := List.getElem?_eq_some_iff.1 hx
  obtain ⟨h2, rfl⟩ := List.getElem?_eq_some_iff.1 hy
  exact List.pairwise_iff_getElem.1 h i j h1 h2 hij

def GoodRs (rs : List (List Ent)) : Prop := rs.length ≤ 50 ∧ ∀ es ∈ rs, GoodR es
/-- An entry at a place. -/
def At (rs : List (List Ent)) (i j : Nat) (x : Ent) : Prop := ∃ es, rs[i]? = some es ∧ es[j]? = some x
/-- Some newer run does away with it. -/
def HidTo (rs : List (List Ent)) (k : Nat) (x : Ent) : Prop := ∃ m ds d, m < k ∧ rs[m]? = some ds ∧ d ∈ ds ∧ kills d x = true
def Good (rs : List (List Ent)) (inr : ByteArray → Bool) (i : Nat) (x : Ent) : Prop := x.kind = 0 ∧ inr x.row = true ∧ ¬ HidTo rs i x
def MrgTo (rs : List (List Ent)) (inr : ByteArray → Bool) (i j : Nat) (L : List Ent) : Prop :=
  Ord L ∧ ∀ x, x ∈ L ↔ ∃ i' j', (i' < i ∨ (i' = i ∧ j' < j)) ∧ At rs i' j' x ∧ Good rs inr i' x
def Mrg (rs : List (List Ent)) (inr : ByteArray → Bool) (L : List Ent) : Prop := Ord L ∧ ∀ x, x ∈ L ↔ ∃ i j, At rs i j x ∧ Good rs inr i x
def MrgOf (rs : List (List Ent)) (inr : ByteArray → Bool) (L : List Ent) : Prop := (GoodRs rs → Mrg rs inr L) ∧ (¬ GoodRs rs → L = [])
theorem mrgOf_uniq {rs : List (List Ent)} {inr : ByteArray → Bool} {L M : List Ent} (h : MrgOf rs inr L) (k : MrgOf rs inr M) : L = M := by
  by_cases g : GoodRs rs
  · exact ord_ext (h.1 g).1 (k.1 g).1 (fun x => ((h.1 g).2 x).trans ((k.1 g).2 x).symm)
  · rw [h.2 g, k.2 g]

theorem mrgTo_zero (rs : List (List Ent)) (inr : ByteArray → Bool) : MrgTo rs inr 0 0 [] :=
  ⟨List.Pairwise.nil, fun x => ⟨fun h => by simp at h, fun ⟨i, j, h, _⟩ => by omega⟩⟩
theorem mrgTo_row {rs : List (List Ent)} {inr : ByteArray → Bool} {i j : Nat} {es L : List Ent} (h : MrgTo rs inr i j L) (he : rs[i]? = some es) (hj : es.length ≤ j) : MrgTo rs inr (i + 1) 0 L := by
  refine ⟨h.1, fun x => (h.2 x).trans ⟨?_, ?_⟩⟩
  · rintro ⟨i', j', hp, ha, hg⟩
    exact ⟨i', j', by omega, ha, hg⟩
  · rintro ⟨i', j', hp, ⟨fs, h1, h2⟩, hg⟩
    refine ⟨i', j', ?_, ⟨fs, h1, h2⟩, hg⟩
    by_cases hii : i' = i
    · subst hii
      rw [he] at h1
      simp at h1
      subst h1
      have := (List.getElem?_eq_some_iff.1 h2).1
      omega
    · omega
theorem mrgTo_skip {rs : List (List Ent)} {inr : ByteArray → Bool} {i j : Nat} {e : Ent} {L : List Ent} (h : MrgTo rs inr i j L) (he : At rs i j e) (hn : ¬ Good rs inr i e) : MrgTo rs inr i (j + 1) L := by
  refine ⟨h.1, fun x => (h.2 x).trans ⟨?_, ?_⟩⟩
  · rintro ⟨i', j', hp, ha, hg⟩
    exact ⟨i', j', by omega, ha, hg⟩
  · rintro ⟨i', j', hp, ha, hg⟩
    refine ⟨i', j', ?_, ha, hg⟩
    by_cases hq : i' = i ∧ j' = j
    · obtain ⟨rfl, rfl⟩ := hq
      obtain ⟨es, h1, h2⟩ := he
      obtain ⟨fs, h3, h4⟩ := ha
      rw [h1] at h3
      simp at h3
      subst h3
      rw [h2] at h4
      simp at h4
      subst h4
      exact absurd hg hn
    · omega
theorem mrgTo_put {rs : List (List Ent)} {inr : ByteArray → Bool} {i j : Nat} {e : Ent} {L : List Ent} (hG : GoodRs rs) (h : MrgTo rs inr i j L) (he : At rs i j e) (hg : Good rs inr i e) : MrgTo rs inr i (j + 1) (into L e) := by
  obtain ⟨h1, h2⟩ := into_spec e L h.1
  have uniq : ∀ x i' j', (i' < i ∨ (i' = i ∧ j' < j)) → At rs i' j' x → Good rs inr i' x → keyCmp x e ≠ 0 := by
    rintro x i' j' hp ⟨fs, a1, a2⟩ hx hz
    rcases hp with hp | ⟨rfl, hp⟩
    · exact hg.2.2 ⟨i', fs, x, hp, a1, List.mem_of_getElem? a2, by
        obtain ⟨k1, k2, k3, k4, k5⟩ := keyCmp_zero.1 hz
        unfold kills
        have hk : ¬ x.kind = 2 := by have := hx.1; omega
        simp [sameCol_iff, hk, k1, k2, k3, k5]⟩
    · obtain ⟨es, b1, b2⟩ := he
      rw [b1] at a1
      simp at a1
      subst a1
      have := ord_get (ord_of_good (hG.2 es (List.mem_of_getElem? b1))) hp a2 b2
      omega
  refine ⟨h1, fun x => (h2 x).trans ⟨?_, ?_⟩⟩
  · rintro (rfl | ⟨hx, _⟩)
    · exact ⟨i, j, by omega, he, hg⟩
    · obtain ⟨i', j', hp, ha, hg'⟩ := (h.2 x).1 hx
      exact ⟨i', j', by omega, ha, hg'⟩
  · rintro ⟨i', j', hp, ha, hg'⟩
    by_cases hq : i' = i ∧ j' = j
    · obtain ⟨rfl, rfl⟩ := hq
      obtain ⟨es, a1, a2⟩ := he
      obtain ⟨fs, a3, a4⟩ := ha
      rw [a1] at a3
      simp at a3
      subst a3
      rw [a2] at a4
      simp at a4
      exact .inl a4.symm
    · have hp' : i' < i ∨ (i' = i ∧ j' < j) := by omega
      exact .inr ⟨(h.2 x).2 ⟨i', j', hp', ha, hg'⟩, uniq x i' j' hp' ha hg'⟩
theorem mrg_of_to {rs : List (List Ent)} {inr : ByteArray → Bool} {i j : Nat} {L : List Ent} (h : MrgTo rs inr i j L) (hi : rs.length ≤ i) : Mrg rs inr L := by
  refine ⟨h.1, fun x => (h.2 x).trans ⟨?_, ?_⟩⟩
  · rintro ⟨i', j', hp, ha, hg⟩
    exact ⟨i', j', ha, hg⟩
  · rintro ⟨i', j', ⟨es, h1, h2⟩, hg⟩
    have := (List.getElem?_eq_some_iff.1 h1).1
    exact ⟨i', j', by omega, ⟨es, h1, h2⟩, hg⟩
theorem hidTo_zero (rs : List (List Ent)) (x : Ent) : ¬ HidTo rs 0 x := fun ⟨m, _, _, h, _⟩ => by omega
theorem hidTo_succ {rs : List (List Ent)} {k : Nat} {x : Ent} {ds : List Ent} (hd : rs[k]? = some ds) : HidTo rs (k + 1) x ↔ HidTo rs k x ∨ ∃ d ∈ ds, kills d x = true := by
  constructor
  · rintro ⟨m, es, d, h1, h2, h3, h4⟩
    by_cases hm : m = k
    · subst hm
      rw [hd] at h2
      simp at h2
      subst h2
      exact .inr ⟨d, h3, h4⟩
    · exact .inl ⟨m, es, d, by omega, h2, h3, h4⟩
  · rintro (⟨m, es, d, h1, h2, h3, h4⟩ | ⟨d, h3, h4⟩)
    · exact ⟨m, es, d, by omega, h2, h3, h4⟩
    · exact ⟨k, ds, d, by omega, hd, h3, h4⟩
theorem mrgTo_len {rs : List (List Ent)} {inr : ByteArray → Bool} {i j : Nat} {L : List Ent} (h : MrgTo rs inr i j L) : ∀ x ∈ L, x ∈ rs.flatten := by
  intro x hx
  obtain ⟨i', j', _, ⟨es, h1, h2⟩, _⟩ := (h.2 x).1 hx
  exact List.mem_flatten.2 ⟨es, List.mem_of_getElem? h1, List.mem_of_getElem? h2⟩
theorem mrg_len {rs : List (List Ent)} {inr : ByteArray → Bool} {L : List Ent} (h : Mrg rs inr L) : ∀ x ∈ L, x ∈ rs.flatten := by
  intro x hx
  obtain ⟨i', j', ⟨es, h1, h2⟩, _⟩ := (h.2 x).1 hx
  exact List.mem_flatten.2 ⟨es, List.mem_of_getElem? h1, List.mem_of_getElem? h2⟩
end Go.Proofs.YtnncedndlhfdkacDoor

/-
  Runs that are valid: the loop of spec.ValidRun.
-/
namespace Go.Proofs.YtnncedndlhfdkacDoor
open Go.ChangeShapes Go.WideShapes Go.ChangeAt Go.RowKit Go.Deep
set_option linter.unusedVariables false

theorem okPair_f1 {p e : Ent} (h : (keyCmp p e != -1) = true) : okPair p e = false := by
  unfold okPair; simp at h; simp [h]
theorem okPair_t1 {p e : Ent} (h : (keyCmp p e != -1) = false) (h2 : (p.kind == 2) = false) : okPair p e = true := by
  unfold okPair; simp at h; simp [h, h2]
theorem okPair_t2 {p e : Ent} (h : (keyCmp p e != -1) = false) (h2 : (e.kind == 2) = false) : okPair p e = true := by
  unfold okPair; simp at h; simp [h, h2]
theorem okPair_s {p e : Ent} (h : (keyCmp p e != -1) = false) (h2 : (p.kind == 2) = true) (h3 : (e.kind == 2) = true) : okPair p e = !sameCol p e := by
  unfold okPair; simp at h; simp [h, h2, h3]

/-- How the test of spec.ValidRun on two neighbours comes out. -/
theorem pair_ways (p e : Ent) :
    ((keyCmp p e != -1) = true ∧ okPair p e = false) ∨ ((keyCmp p e != -1) = false ∧ (p.kind == 2) = false ∧ okPair p e = true) ∨
    ((keyCmp p e != -1) = false ∧ (p.kind == 2) = true ∧ (e.kind == 2) = false ∧ okPair p e = true) ∨
    ((keyCmp p e != -1) = false ∧ (p.kind == 2) = true ∧ (e.kind == 2) = true ∧ sameCol p e = true ∧ okPair p e = false) ∨
    ((keyCmp p e != -1) = false ∧ (p.kind == 2) = true ∧ (e.kind == 2) = true ∧ sameCol p e = false ∧ okPair p e = true) := by
  cases h1 : (keyCmp p e != -1)
  · cases h2 : (p.kind == 2)
    · exact .inr (.inl ⟨rfl, rfl, okPair_t1 h1 h2⟩)
    · cases h3 : (e.kind == 2)
      · exact .inr (.inr (.inl ⟨rfl, rfl, rfl, okPair_t2 h1 h3⟩))
      · cases h4 : sameCol p e
        · exact .inr (.inr (.inr (.inr ⟨rfl, rfl, rfl, rfl, by rw [okPair_s h1 h2 h3, h4]; rfl⟩)))
        · exact .inr (.inr (.inr (.inl ⟨rfl, rfl, rfl, rfl, by rw [okPair_s h1 h2 h3, h4]; rfl⟩)))
  · exact .inl ⟨rfl, okPair_f1 h1⟩

set_option maxHeartbeats 2000000 in
theorem specValidRun_core (b off cap : Nat) (es : List Ent) (w : World) (hE : EntsAt w b off es) (hok : ∀ e ∈ es, e.ok) (hB : b < w.heap.size) (hlen : es.length ≤ cap) (hcap : cap ≤ maxLen) :
    Calls Tryd.prog 14 #[.agg #[.slice (some ⟨b, off, none⟩) es.length cap]] w fun e w' =>
      ∃ r : Bool, e = .returned (.bool r) ∧ (r = true ↔ GoodR es) ∧ Below w.heap.size w w' := by
  obtain ⟨W0, hW0⟩ : ∃ W0 : World, W0 = w.alloc (Obj.cells #[.slice (some ⟨b, off, none⟩) es.length cap] 25) := ⟨_, rfl⟩
  have hb0 : Below w.heap.size w W0 := by rw [hW0]; exact (Below.refl _ _).alloc (Nat.le_refl _) _
  have hz0 : w.heap.size < W0.heap.size := by rw [hW0]; simp
  have ca : W0.cell? ⟨w.heap.size, 0, none⟩ = some (.slice (some ⟨b, off, none⟩) es.length cap) := by rw [hW0]; simp
  have HE : Hid (EntsAt W0 b off es) := hE.below hb0 hB
  have HO : Hid (∀ e ∈ es, e.ok) := hok
  clear hE hok
  unfold maxLen at hcap
  by_cases hbig : 10000 < es.length
  · have H : Hid (¬ GoodR es) := fun h => by have := h.1.1; omega
    go_enter Tryd.func14, Tryd.ntmps14
    go_wp2
    go_ret
    exact ⟨_, rfl, iffF H.out, (Below.refl _ _).alloc (Nat.le_refl _) _⟩
  go_enter Tryd.func14, Tryd.ntmps14
  go_wp2_with fail
  rw [← hW0]
  clear hW0
  go_loopw [3] (fun i wr => ∃ (k : Nat), k ≤ es.length ∧ i = .int .i64 k ∧ (∀ x ∈ es.take k, x.vld = true) ∧ PairsTo es k ∧ Below W0.heap.size W0 wr) (fun i _ => es.length - (intOf i).toNat)
  case atStart => exact ⟨0, Nat.zero_le _, rfl, by simp, fun i p e hi => by omega, Below.refl _ _⟩
  case round =>
    obtain ⟨k, hk, rfl, hv, hP, hb⟩ := hrel
    have HV : Hid ((∀ x ∈ es.take k, x.vld = true) ∧ PairsTo es k) := ⟨hv, hP⟩
    clear hv hP
    have hs2 := hb.size
    have car : wr.cell? ⟨w.heap.size, 0, none⟩ = some (.slice (some ⟨b, off, none⟩) es.length cap) := by rw [hb.cell (p := ⟨w.heap.size, 0, none⟩) (by show w.heap.size < _; omega)]; exact ca
    by_cases hlt : k < es.length
    · obtain ⟨e, he⟩ : ∃ e, es[k]? = some e := ⟨_, List.getElem?_eq_getElem hlt⟩
      have HEr := HE.out.below hb (by omega)
      obtain ⟨c0, c1, c2, c3, c4, c5⟩ := HEr k e he
      have HK : Hid (e.ok ∧ es[k]? = some e ∧ EntsAt wr b off es) := ⟨HO.out e (List.mem_of_getElem? he), he, HEr⟩
      clear he HEr
      go_wp2_with fail
      refine (specValid_core e.row e.fam e.qual e.val e.ts e.kind _ HK.out.1.row HK.out.1.fam HK.out.1.qual HK.out.1.val).mono ?_
      rintro e' w1 ⟨rfl, hb1⟩
      obtain ⟨hc1, hf1⟩ := bcell hb1
      have hz1 : wr.heap.size < w1.heap.size := by have := hb1.size; simp at this; omega
      have hb2 := (hb.alloc hb.size (Obj.cells #[.string e.row, .string e.fam, .string e.qual, .int .u64 e.ts, .int .i64 e.kind, .string e.val] 67)).trans (hb1.mono (by simp; omega))
      clear c0 c1 c2 c3 c4 c5
      cases hv : vE e.row e.fam e.qual e.kind e.val
      · have H : Hid (¬ GoodR es) := fun h => by
          have := h.1.2 e (List.mem_of_getElem? HK.out.2.1)
          unfold Ent.vld at this
          rw [hv] at this
          cases this
        go_wp2_with fail
        go_ret
        exact ⟨_, rfl, iffF H.out, hb0.trans (hb2.mono (by omega))⟩
      · have H : Hid (∀ x ∈ es.take (k + 1), x.vld = true) := vld_of_take HV.out.1 HK.out.2.1 hv
        by_cases hk0 : k = 0
        · subst hk0
          go_wp2_with fail
          go_roundw
          case rel => exact ⟨0 + 1, by omega, by go_num, H.out, fun i p e hi => by omega, hb2⟩
          case measure => simp [intOf]; omega
        · obtain ⟨m, rfl⟩ : ∃ m, k = m + 1 := ⟨k - 1, by omega⟩
          obtain ⟨p, hp⟩ : ∃ e, es[m]? = some e := ⟨_, List.getElem?_eq_getElem (by omega)⟩
          have hbw : Below wr.heap.size wr w1 := ((Below.refl _ _).alloc (Nat.le_refl _) (Obj.cells #[.string e.row, .string e.fam, .string e.qual, .int .u64 e.ts, .int .i64 e.kind, .string e.val] 67)).trans (hb1.mono (by simp))
          have car1 : w1.cell? ⟨w.heap.size, 0, none⟩ = some (.slice (some ⟨b, off, none⟩) es.length cap) := by rw [hbw.cell (p := ⟨w.heap.size, 0, none⟩) (by show w.heap.size < _; omega)]; exact car
          obtain ⟨d0, d1, d2, d3, d4, d5⟩ := HK.out.2.2.below hbw (by omega) m p hp
          have HKp : Hid (es[m]? = some p) := hp
          clear hp
          have hw : IntKind.i64.wrap (m : Int) = (m : Int) := Go.IntWalk.i64_in _ (by omega)
          go_wp2_with fail
          refine (specCompareKeys_any p e _).mono ?_
          rintro e' w2 ⟨rfl, hb3⟩
          obtain ⟨hc3, hf3⟩ := bcell hb3
          have hz3 : w1.heap.size < w2.heap.size := by have := hb3.size; simp at this; omega
          have hb4 := (hb2.alloc hb2.size (Obj.cells #[.string p.row, .string p.fam, .string p.qual, .int .u64 p.ts, .int .i64 p.kind, .string p.val] 67)).trans (hb3.mono (by have := hb2.size; simp; omega))
          clear d0 d1 d2 d3 d4 d5
          rcases pair_ways p e with ⟨g1, ho⟩ | ⟨g1, g2, ho⟩ | ⟨g1, g2, g3, ho⟩ | ⟨g1, g2, g3, g4, ho⟩ | ⟨g1, g2, g3, g4, ho⟩
          · have H2 : Hid (¬ GoodR es) := fun h => by
              have := h.2 m p e HKp.out HK.out.2.1
              rw [ho] at this; cases this
            go_wp2_with fail
            go_ret
            exact ⟨_, rfl, iffF H2.out, hb0.trans (hb4.mono (by omega))⟩
          · have H2 : Hid (PairsTo es (m + 1 + 1)) := pairsTo_succ HV.out.2 HKp.out HK.out.2.1 ho
            go_wp2_with fail
            go_roundw
            case rel => exact ⟨m + 1 + 1, by omega, by go_num, H.out, H2.out, hb4⟩
            case measure => simp [intOf]; omega
          · have H2 : Hid (PairsTo es (m + 1 + 1)) := pairsTo_succ HV.out.2 HKp.out HK.out.2.1 ho
            go_wp2_with fail
            go_roundw
            case rel => exact ⟨m + 1 + 1, by omega, by go_num, H.out, H2.out, hb4⟩
            case measure => simp [intOf]; omega
          · have H2 : Hid (¬ GoodR es) := fun h => by
              have := h.2 m p e HKp.out HK.out.2.1
              rw [ho] at this; cases this
            go_wp2_with fail
            refine (sameColumn_any p e _).mono ?_
            rintro e' w3 ⟨rfl, hb5⟩
            have hb6 := hb4.trans (hb5.mono hb4.size)
            go_wp2_with fail
            go_ret
            exact ⟨_, rfl, iffF H2.out, hb0.trans (hb6.mono (by omega))⟩
          · have H2 : Hid (PairsTo es (m + 1 + 1)) := pairsTo_succ HV.out.2 HKp.out HK.out.2.1 ho
            go_wp2_with fail
            refine (sameColumn_any p e _).mono ?_
            rintro e' w3 ⟨rfl, hb5⟩
            have hb6 := hb4.trans (hb5.mono hb4.size)
            go_wp2_with fail
            go_roundw
            case rel => exact ⟨m + 1 + 1, by omega, by go_num, H.out, H2.out, hb6⟩
            case measure => simp [intOf]; omega
    · go_wp2_with fail
      go_ret
      refine ⟨_, rfl, iffT ⟨⟨by omega, fun e he => ?_⟩, pairs_of_to HV.out.2 (by omega)⟩, hb0.trans (hb.mono (by omega))⟩
      have := HV.out.1
      rw [List.take_of_length_le (by omega)] at this
      exact this e he
end Go.Proofs.YtnncedndlhfdkacDoor

/-
  Runs in memory, each a slice that is not nil; spec.l3GoodRuns, impl.validStack, spec.l3Says.
-/
namespace Go.Proofs.YtnncedndlhfdkacDoor
open Go.ChangeShapes Go.WideShapes Go.ChangeAt Go.RowKit Go.Deep
set_option linter.unusedVariables false
set_option linter.unusedSimpArgs false

/-- A run: where its entries lie, and what they are. -/
structure Rm where
  b : Nat
  off : Nat
  cap : Nat
  es : List Ent
abbrev Rm.u (r : Rm) : Value := .slice (some ⟨r.b, r.off, none⟩) r.es.length r.cap
structure Rm.at (w : World) (r : Rm) : Prop where
  ents : EntsAt w r.b r.off r.es
  lt : r.b < w.heap.size
  len : r.es.length ≤ r.cap
  cap : r.cap ≤ maxLen
theorem Rm.at.below {w w' : World} {r : Rm} (h : r.at w) (hb : Below w.heap.size w w') : r.at w' := ⟨h.ents.below hb h.lt, by have := hb.size; have := h.lt; omega, h.len, h.cap⟩
def RmsAt (w : World) (b off : Nat) (l : List Rm) : Prop := ∀ i r, l[i]? = some r → w.cell? ⟨b, off + i, none⟩ = some r.u ∧ r.at w
theorem RmsAt.below {w w' : World} {b off : Nat} {l : List Rm} (h : RmsAt w b off l) (hb : Below w.heap.size w w') (hlt : b < w.heap.size) : RmsAt w' b off l := by
  intro i r hr
  obtain ⟨h1, h2⟩ := h i r hr
  exact ⟨by rw [hb.cell (p := ⟨b, off + i, none⟩) (by exact hlt)]; exact h1, h2.below hb⟩
def okM (l : List Rm) : Prop := ∀ r ∈ l, ∀ e ∈ r.es, e.ok
abbrev esM (l : List Rm) : List (List Ent) := l.map Rm.es

theorem goodRs_of {l : List Rm} (h : l.length ≤ 50) (k : ∀ r ∈ l, GoodR r.es) : GoodRs (esM l) := by
  refine ⟨by simpa using h, fun es he => ?_⟩
  obtain ⟨r, hr, rfl⟩ := List.mem_map.1 he
  exact k r hr
theorem goodRs_mem {l : List Rm} (h : GoodRs (esM l)) {r : Rm} (hr : r ∈ l) : GoodR r.es := h.2 _ (List.mem_map.2 ⟨r, hr, rfl⟩)
theorem mem_take_succ {α : Type} {l : List α} {k : Nat} {a x : α} (h : l[k]? = some a) (hx : x ∈ l.take (k + 1)) : x ∈ l.take k ∨ x = a := by
  rw [List.take_add_one, h] at hx
  simpa using hx

/-- What the entries of a run say of a key. -/
def saysF (e : Ent) : List Ent → Int → Int × ByteArray
  | [], h => (h, ⟨#[]⟩)
  | d :: r, h => if sameCol d e = true then
      (if (d.kind == 0) = true ∧ (d.ts == e.ts) = true then (1, d.val) else if (d.kind == 1) = true ∧ (d.ts == e.ts) = true then (2, ⟨#[]⟩) else if (d.kind == 2) = true ∧ e.ts ≤ d.ts then saysF e r 2 else saysF e r h)
    else saysF e r h
theorem saysF_kills (e : Ent) : ∀ (es : List Ent) (h : Int), (∀ d ∈ es, d.vld = true) → ((saysF e es h).1 ≠ 0 ↔ h ≠ 0 ∨ ∃ d ∈ es, kills d e = true)
  | [], h, _ => by simp [saysF]
  | d :: r, h, hv => by
    have ih2 := saysF_kills e r 2 (fun x hx => hv x (List.mem_cons_of_mem _ hx))
    have ihh := saysF_kills e r h (fun x hx => hv x (List.mem_cons_of_mem _ hx))
    have hd := hv d (by simp)
    unfold Ent.vld vE at hd
    have hk := of_decide_eq_true hd
    unfold saysF
    have hex : (∃ x ∈ d :: r, kills x e = true) ↔ kills d e = true ∨ ∃ x ∈ r, kills x e = true := by simp
    rw [hex]
    by_cases hc : sameCol d e = true
    · rw [if_pos hc]
      by_cases h0 : (d.kind == 0) = true ∧ (d.ts == e.ts) = true
      · rw [if_pos h0]
        have : kills d e = true := by
          unfold kills
          have : d.kind = 0 := by simpa using h0.1
          simp [hc, this, h0.2]
        simp [this]
      · rw [if_neg h0]
        by_cases h1 : (d.kind == 1) = true ∧ (d.ts == e.ts) = true
        · rw [if_pos h1]
          have : kills d e = true := by
            unfold kills
            have : d.kind = 1 := by simpa using h1.1
            simp [hc, this, h1.2]
          simp [this]
        · rw [if_neg h1]
          by_cases h2 : (d.kind == 2) = true ∧ e.ts ≤ d.ts
          · rw [if_pos h2, ih2]
            have : kills d e = true := by
              unfold kills
              have : d.kind = 2 := by simpa using h2.1
              simp [hc, this, h2.2]
            simp [this]
          · rw [if_neg h2, ihh]
            have : kills d e = false := by
              unfold kills
              simp only [beq_iff_eq] at h0 h1 h2
              rw [hc]
              by_cases hk2 : d.kind = 2
              · simp [hk2]
                have : ¬ e.ts ≤ d.ts := fun q => h2 ⟨hk2, q⟩
                omega
              · simp [hk2]
                intro q
                have : d.kind = 0 ∨ d.kind = 1 := by omega
                rcases this with z | z
                · exact h0 ⟨z, q⟩
                · exact h1 ⟨z, q⟩
            simp [this]
    · rw [if_neg hc, ihh]
      have : kills d e = false := by
        unfold kills
        simp [hc]
      simp [this]
theorem saysF_drop {e d : Ent} {es : List Ent} {k : Nat} {h : Int} (hd : es[k]? = some d) : saysF e (es.drop k) h = saysF e (d :: es.drop (k + 1)) h := by
  congr 1
  obtain ⟨h1, rfl⟩ := List.getElem?_eq_some_iff.1 hd
  exact List.drop_eq_getElem_cons h1
theorem rms_out {w : World} {b off m : Nat} {l : List Rm} {r : Rm} (h : RmsAt w b off l) (hb : b < w.heap.size) (hr : l[m]? = some r) : (∀ n : Out w, n.u.cell? ⟨b, off + m, none⟩ = some (.slice (some ⟨r.b, r.off, none⟩) r.es.length r.cap)) ∧ ∀ n : Out w, r.at n.u :=
  ⟨fun n => (h.below n.out hb m r hr).1, fun n => (h.below n.out hb m r hr).2⟩
end Go.Proofs.YtnncedndlhfdkacDoor

/-
  spec.l3Says.
-/
namespace Go.Proofs.YtnncedndlhfdkacDoor
open Go.ChangeShapes Go.WideShapes Go.ChangeAt Go.RowKit Go.Deep
set_option linter.unusedVariables false
set_option linter.unusedSimpArgs false

theorem ent_box (w : World) (e : Ent) : EntsAt (w.alloc (Obj.cells #[.string e.row, .string e.fam, .string e.qual, .int .u64 e.ts, .int .i64 e.kind, .string e.val] 67)) w.heap.size 0 [e] := by
  intro j y hy
  obtain rfl : j = 0 := by
    have := (List.getElem?_eq_some_iff.1 hy).1
    simpa using this
  simp at hy
  subst hy
  simp

theorem saysF_cons (e d : Ent) (r : List Ent) (h : Int) : saysF e (d :: r) h = if sameCol d e = true then
      (if (d.kind == 0) = true ∧ (d.ts == e.ts) = true then (1, d.val) else if (d.kind == 1) = true ∧ (d.ts == e.ts) = true then (2, ⟨#[]⟩) else if (d.kind == 2) = true ∧ e.ts ≤ d.ts then saysF e r 2 else saysF e r h)
    else saysF e r h := rfl

end Go.Proofs.YtnncedndlhfdkacDoor

/-
  The draws: a list of writes.
-/
namespace Go.Proofs.YtnncedndlhfdkacDoor
open Go.ChangeShapes Go.WideShapes Go.ChangeAt Go.RowKit Go.Deep
set_option linter.unusedVariables false
set_option linter.unusedSimpArgs false
set_option maxRecDepth 100000

end Go.Proofs.YtnncedndlhfdkacDoor

/-
  The draws: their beginning.
-/
namespace Go.Proofs.YtnncedndlhfdkacDoor
open Go.ChangeShapes Go.WideShapes Go.ChangeAt Go.RowKit Go.Deep
set_option linter.unusedVariables false
set_option linter.unusedSimpArgs false
set_option maxRecDepth 100000

end Go.Proofs.YtnncedndlhfdkacDoor

/-
  spec.BuildRun.
-/
namespace Go.Proofs.YtnncedndlhfdkacDoor
open Go.ChangeShapes Go.WideShapes Go.ChangeAt Go.RowKit Go.Deep
set_option linter.unusedVariables false

theorem ent_new (wx : World) (f : Ent) : EntsAt (wx.alloc (Obj.cells #[.string f.row, .string f.fam, .string f.qual, .int .u64 f.ts, .int .i64 f.kind, .string f.val] 67)) wx.heap.size 0 [f] := by
  intro j y hy
  obtain rfl : j = 0 := by
    have := (List.getElem?_eq_some_iff.1 hy).1
    simpa using this
  simp at hy
  subst hy
  simp

theorem OwnE.setBelow {w : World} {base g cap : Nat} {es : List Ent} (h : OwnE w base g cap es) (a : Addr) (ha : a.block < base) (u : Value) : OwnE (w.setCell a u) base g cap es := ownsRow_setCell_below h ha u

/-- The deletes of the column among the first 'j'. -/
def LargestTo (ws : List Ent) (e : Ent) (j : Nat) : Prop := ∀ i v, i < j → ws[i]? = some v → v.kind = 2 → sameCol v e = true → v.ts ≤ e.ts
theorem largest_of_to {ws : List Ent} {e : Ent} {j : Nat} (h : LargestTo ws e j) (hj : ws.length ≤ j) : Largest ws e := by
  intro v hv h1 h2
  obtain ⟨i, hi⟩ := List.getElem?_of_mem hv
  exact h i v (by have := (List.getElem?_eq_some_iff.1 hi).1; omega) hi h1 h2
theorem largestTo_succ {ws : List Ent} {e v : Ent} {j : Nat} (h : LargestTo ws e j) (hv : ws[j]? = some v) (hk : v.kind = 2 → sameCol v e = true → v.ts ≤ e.ts) : LargestTo ws e (j + 1) := by
  intro i u hi hu h1 h2
  by_cases e1 : i = j
  · subst e1
    rw [hv] at hu
    simp at hu
    subst hu
    exact hk h1 h2
  · exact h i u (by omega) hu h1 h2
theorem largestTo_bad {ws : List Ent} {e v : Ent} {j k : Nat} (hv : ws[j]? = some v) (h1 : v.kind = 2) (h2 : sameCol v e = true) (h3 : ¬ v.ts ≤ e.ts) (hk : j < k) : ¬ LargestTo ws e k := fun h => h3 (h j v hk hv h1 h2)
theorem largestTo_mono {ws : List Ent} {e : Ent} {j k : Nat} (h : LargestTo ws e k) (hj : j ≤ k) : LargestTo ws e j := fun i v hi => h i v (by omega)

end Go.Proofs.YtnncedndlhfdkacDoor

/-
  The draws: their beginning, sizes, one run.
-/
namespace Go.Proofs.YtnncedndlhfdkacDoor
open Go.ChangeShapes Go.WideShapes Go.ChangeAt Go.RowKit Go.Deep
set_option linter.unusedVariables false
set_option linter.unusedSimpArgs false
set_option maxRecDepth 100000

end Go.Proofs.YtnncedndlhfdkacDoor

/-
  The draws: an entry spoilt.
-/
namespace Go.Proofs.YtnncedndlhfdkacDoor
open Go.ChangeShapes Go.WideShapes Go.ChangeAt Go.RowKit Go.Deep
set_option linter.unusedVariables false
set_option linter.unusedSimpArgs false
set_option maxRecDepth 100000

end Go.Proofs.YtnncedndlhfdkacDoor

/-
  The draws: a run spoilt.
-/
namespace Go.Proofs.YtnncedndlhfdkacDoor
open Go.ChangeShapes Go.WideShapes Go.ChangeAt Go.RowKit Go.Deep
set_option linter.unusedVariables false
set_option linter.unusedSimpArgs false
set_option maxRecDepth 100000

theorem cells_of_ents {w : World} {b off : Nat} {es : List Ent} (h : EntsAt w b off es) : ∀ j u, (cellsE es)[j]? = some u → w.cell? ((⟨b, off, none⟩ : Addr).add j) = some u := by
  intro j u hu
  have hj : j < es.length * 6 := by rw [← length_cellsE]; exact (List.getElem?_eq_some_iff.1 hu).1
  obtain ⟨e, he⟩ : ∃ e, es[j / 6]? = some e := ⟨_, List.getElem?_eq_getElem (by omega)⟩
  have hg := cellsE_get es (j / 6) e he (j % 6) (Nat.mod_lt _ (by omega))
  rw [show j / 6 * 6 + j % 6 = j by omega, hu] at hg
  obtain ⟨c0, c1, c2, c3, c4, c5⟩ := h (j / 6) e he
  rw [Addr.add_mid, show off + j = off + j / 6 * 6 + j % 6 by omega]
  have hm : j % 6 < 6 := Nat.mod_lt _ (by omega)
  generalize j % 6 = m at *
  match m, hm, hg with
  | 0, _, hg => rw [Nat.add_zero, c0, hg]; rfl
  | 1, _, hg => rw [c1, hg]; rfl
  | 2, _, hg => rw [c2, hg]; rfl
  | 3, _, hg => rw [c3, hg]; rfl
  | 4, _, hg => rw [c4, hg]; rfl
  | 5, _, hg => rw [c5, hg]; rfl
theorem one_cells (es : List Ent) : ∀ u ∈ cellsE es, u.oneCell' = true := by
  intro u hu
  unfold cellsE at hu
  obtain ⟨e, _, he⟩ := List.mem_flatMap.1 hu
  simp at he
  rcases he with rfl | rfl | rfl | rfl | rfl | rfl <;> rfl
/-- Entries appended to a row of the call's own. -/
theorem wpList_append_ents {ops : Array Oper} {rest : List Oper} {o : Oper} {a : Act} {Q : Exit → Act → World → Prop} (w : World) (hgd : o.guard = none) (s x : Operand)
    (ho : o.op = .call { callee := .builtin .append, args := #[s, x], argTypes := #[23, 23] })
    (base g cp n b off m cx : Nat) (fs es : List Ent) (hs : a.eval s = .slice (some ⟨g, 0, none⟩) n cp) (hx : a.eval x = .slice (some ⟨b, off, none⟩) m cx) (hn : n = fs.length) (hm : m = es.length) (hO : OwnE w base g cp fs)
    (hc : EntsAt w b off es) (hlen : fs.length + es.length ≤ 2 ^ 30) (hbase : base ≤ w.heap.size)
    (h : ∀ g' cp' w', OwnE w' base g' cp' (fs ++ es) → w.grownBy w' (some g) → wpList Tryd.prog ops Q rest (a.put o.dst (.slice (some ⟨g', 0, none⟩) (n + m) cp')) w') : wpList Tryd.prog ops Q (o :: rest) a w := by
  subst hn hm
  obtain ⟨i, hi, hz0, hz1, hz2⟩ := info_parts Tryd.infoEnt
  refine wpList_append_own_at w hgd s x 23 ho base 67 i _ 6 80 Tryd.underlying23 hi hz0 hz1 hz2 rfl (by decide) (.slice (some ⟨g, 0, none⟩) fs.length cp) fs.length (cellsE fs) hs hO ⟨b, off, none⟩ es.length cx (cellsE es) hx (length_cellsE es) (cells_of_ents hc) (one_cells es) ?_ ?_ hbase ?_
  · unfold maxLen; omega
  · omega
  · intro v' w' hO' hgr hnil _
    rcases hO'.2 with ⟨h0, _⟩ | ⟨g', cap', cur, hv, _, _, hn, hcap, _, _⟩
    · have := (hnil.1 h0).1
      cases this
    · subst hv
      refine h g' cap' w' ?_ hgr
      unfold OwnE
      rw [List.length_append, cellsE_append]
      exact hO'

/-- What a spoilt run may be. -/
structure SpoilOf (w : World) (b : Nat) (es : List Ent) (r : Rm) (w' : World) : Prop where
  at_ : r.at w'
  ok : ∀ e ∈ r.es, e.small
  len : r.es.length ≤ es.length + 1
  blk : r.b = b ∨ w.heap.size ≤ r.b
theorem mem_set_small {fs : List Ent} {i : Nat} {e' : Ent} (h : ∀ e ∈ fs, e.small) (he : e'.small) : ∀ e ∈ fs.set i e', e.small := by
  intro e hm
  rcases List.mem_or_eq_of_mem_set hm with q | rfl
  · exact h e q
  · exact he
end Go.Proofs.YtnncedndlhfdkacDoor

/-
  spec.l2Entries: the walk.
-/
namespace Go.Proofs.YtnncedndlhfdkacDoor
open Go.ChangeShapes Go.WideShapes Go.ChangeAt Go.RowKit Go.Deep
set_option linter.unusedVariables false
set_option linter.unusedSimpArgs false
set_option maxRecDepth 100000

abbrev Blk.v (k : Blk) : Value := .agg #[.int .i64 (k.fr : Int), .int .i64 (k.til : Int), .int .i64 (k.count : Int), .string k.row]
/-- What l2Entries hands back. -/
def EntPost (w : World) (xs : List UInt8) (k : Blk) (r : Ending) (w' : World) : Prop :=
  ∃ (g cp : Nat) (err : Int) (l : List Ent), r = .returned (.tuple #[.int .i64 err, .slice (some ⟨g, 0, none⟩) l.length cp]) ∧ (err, l) = blkM xs k ∧ OwnE w' w.heap.size g cp l ∧ (∀ e ∈ l, e.ok) ∧ Below w.heap.size w w'

/-- The reader's box and the row of entries. -/
structure JS (w0 : World) (R : Nat) (vs : List Value) (g cp : Nat) (l : List Ent) (wr : World) : Prop where
  box : BoxAt wr w0.heap.size 60 3 R vs
  row : OwnE wr w0.heap.size g cp l
  ne : ¬ R = g
  below : Below w0.heap.size w0 wr
theorem JS.call {w0 : World} {R : Nat} {vs : List Value} {g cp : Nat} {l : List Ent} {wr w1 : World} (h : JS w0 R vs g cp l wr) (hb : Below wr.heap.size wr w1) : JS w0 R vs g cp l w1 :=
  ⟨h.box.below hb, h.row.below hb h.row.lt.2, h.ne, h.below.trans (hb.mono h.below.size)⟩
theorem OwnE.chg' {S : Nat → Prop} {w w' : World} {base g cp : Nat} {l : List Ent} (h : OwnE w base g cp l) (hc : Chg S w w') (hn : ¬ S g) : OwnE w' base g cp l := own_chg h hc (fun k q => by simp [Value.ownBlock] at q; subst q; exact hn)
theorem JS.set3 {w0 : World} {R : Nat} {vs : List Value} {g cp : Nat} {l : List Ent} {wr : World} (h : JS w0 R vs g cp l wr) (x y z : Value) : JS w0 R [x, y, z] g cp l (set3 wr R x y z) := by
  have hc : Chg (fun k => k = R) wr (Go.Proofs.YtnncedndlhfdkacDoor.set3 wr R x y z) := ((Chg.of_set wr R 0 x (S := fun q => q = R) rfl).trans (Chg.of_set _ R 1 y (S := fun q => q = R) rfl)).trans (Chg.of_set _ R 2 z (S := fun q => q = R) rfl)
  exact ⟨h.box.set3 x y z, h.row.chg' hc (fun q => h.ne q.symm), h.ne, below_set3 h.below h.box.lt.1 x y z⟩
/-- .. beside a variable of the round's. -/
theorem JS.beside {w0 : World} {R : Nat} {vs : List Value} {g cp : Nat} {l : List Ent} {wr : World} (h : JS w0 R vs g cp l wr) {E : Nat} (h1 : ¬ R = E) (h2 : ¬ g = E) (h3 : w0.heap.size ≤ E) (j : Nat) (u : Value) : JS w0 R vs g cp l (wr.setCell ⟨E, j, none⟩ u) :=
  ⟨h.box.beside h1 j u, h.row.chg' (Chg.of_set wr E j u (S := fun q => q = E) rfl) h2, h.ne, below_set h.below h3 j u⟩
theorem JS.app {w0 : World} {R : Nat} {vs : List Value} {g cp g' cp' : Nat} {l l' : List Ent} {wr w1 : World} (h : JS w0 R vs g cp l wr) (hO : OwnE w1 w0.heap.size g' cp' l') (hgr : wr.grownBy w1 (some g)) (hat : g' = g ∨ g' = wr.heap.size) : JS w0 R vs g' cp' l' w1 := by
  have hi := h.box.lt
  have hn := h.ne
  exact ⟨h.box.chg (Chg.of_grown hgr (S := fun k => k = g) (fun k hk => by cases hk; rfl)) hn, hO, by omega, h.below.grown hgr h.below.size (fun k hk => by cases hk; exact h.row.lt.1)⟩

theorem wpList_append_entA {ops : Array Oper} {rest : List Oper} {o : Oper} {a : Act} {Q : Exit → Act → World → Prop} (w : World) (hgd : o.guard = none) (s x : Operand)
    (ho : o.op = .call { callee := .builtin .append, args := #[s, x], argTypes := #[23, 23] })
    (base g cp n b m cx : Nat) (fs es : List Ent) (hs : a.eval s = .slice (some ⟨g, 0, none⟩) n cp) (hx : a.eval x = .slice (some ⟨b, 0, none⟩) m cx) (hn : n = fs.length) (hm : m = es.length) (hO : OwnE w base g cp fs)
    (hc : EntsAt w b 0 es) (hlen : fs.length + es.length ≤ 2 ^ 30) (hbase : base ≤ w.heap.size)
    (h : ∀ g' cp' w', OwnE w' base g' cp' (fs ++ es) → w.grownBy w' (some g) → (g' = g ∨ g' = w.heap.size) → wpList Tryd.prog ops Q rest (a.put o.dst (.slice (some ⟨g', 0, none⟩) (n + m) cp')) w') : wpList Tryd.prog ops Q (o :: rest) a w := by
  subst hn hm
  obtain ⟨i, hi, hz0, hz1, hz2⟩ := info_parts Tryd.infoEnt
  refine wpList_append_own_at w hgd s x 23 ho base 67 i _ 6 80 Tryd.underlying23 hi hz0 hz1 hz2 rfl (by decide) (.slice (some ⟨g, 0, none⟩) fs.length cp) fs.length (cellsE fs) hs hO ⟨b, 0, none⟩ es.length cx (cellsE es) hx (length_cellsE es) (cells_of_ents hc) (one_cells es) ?_ ?_ hbase ?_
  · unfold maxLen; omega
  · omega
  · intro v' w' hO' hgr hnil hat
    rcases hO'.2 with ⟨h0, _⟩ | ⟨g', cap', cur, hv, _, _, hn, hcap, _, _⟩
    · have := (hnil.1 h0).1
      cases this
    · subst hv
      refine h g' cap' w' ?_ hgr ?_
      · unfold OwnE
        rw [List.length_append, cellsE_append]
        exact hO'
      · simp [Value.ownBlock] at hat
        exact hat
theorem ok_of_read {e : Ent} (hv : e.vld = true) (h0 : 0 ≤ e.ts) (h1 : e.ts < 18446744073709551616) : e.ok := by
  obtain ⟨v1, v2, v3, v4, v5, v6, v7, v8⟩ := vld_parts hv
  refine ⟨by unfold maxLen; omega, by unfold maxLen; omega, by unfold maxLen; omega, by unfold maxLen; omega, ?_, ?_⟩
  · simp only [Lit.wf, Bool.and_eq_true, decide_eq_true_eq]
    have h1 : IntKind.u64.min = 0 := rfl
    have h2 : IntKind.u64.max = 18446744073709551615 := rfl
    omega
  · simp only [Lit.wf, Bool.and_eq_true, decide_eq_true_eq]
    have h1 : IntKind.i64.min = -9223372036854775808 := rfl
    have h2 : IntKind.i64.max = 9223372036854775807 := rfl
    omega
/-- The first two fields of an entry, read. -/
theorem entRead1 {xs before : List UInt8} {i i1 i2 n : Nat} {b1 b2 : Bool} {rest : ByteArray} (h1 : GotNum xs i false i1 b1 n) (h2 : GotStr xs i1 b1 i2 b2 rest) (h : b2 = true ∨ before.length < n) : getEnt before (xs.drop i) = none := by
  unfold getEnt
  cases b1 with
  | true => rw [gotNum_none h1]
  | false =>
    rw [(gotNum_bad h1).2]
    simp only []
    cases b2 with
    | true => rw [gotStr_none h2]
    | false =>
      rw [(gotStr_good h2).2]
      simp only []
      rw [if_pos (by rcases h with h | h; cases h; exact h)]
/-- .. and the others. -/
theorem entRead2 {xs before : List UInt8} {i i1 i2 i3 i4 i5 i6 i7 n ts kind : Nat} {b1 b3 b4 b5 b6 b7 : Bool} {rest fam qual val : ByteArray} (h1 : GotNum xs i false i1 b1 n) (h2 : GotStr xs i1 b1 i2 false rest) (hn : ¬ before.length < n)
    (h3 : GotStr xs i2 false i3 b3 fam) (h4 : GotStr xs i3 b3 i4 b4 qual) (h5 : GotNum xs i4 b4 i5 b5 ts) (h6 : GotNum xs i5 b5 i6 b6 kind) (h7 : GotStr xs i6 b6 i7 b7 val) :
    (b7 = true → getEnt before (xs.drop i) = none) ∧ (b7 = false → getEnt before (xs.drop i) =
      if 2 < kind ∨ ¬ shared before (before.take n ++ bl rest) = n ∨ (⟨ba (before.take n ++ bl rest), fam, qual, (ts : Int), (kind : Int), val⟩ : Ent).vld = false then none
      else some (⟨ba (before.take n ++ bl rest), fam, qual, (ts : Int), (kind : Int), val⟩, xs.drop i7)) := by
  obtain ⟨rfl, q2⟩ := gotStr_good h2
  obtain ⟨_, q1⟩ := gotNum_bad h1
  constructor
  · rintro rfl
    unfold getEnt
    rw [q1]
    simp only []
    rw [q2]
    simp only []
    rw [if_neg hn]
    cases b3 with
    | true => rw [gotStr_none h3]
    | false =>
      rw [(gotStr_good h3).2]
      simp only []
      cases b4 with
      | true => rw [gotStr_none h4]
      | false =>
        rw [(gotStr_good h4).2]
        simp only []
        cases b5 with
        | true => rw [gotNum_none h5]
        | false =>
          rw [(gotNum_bad h5).2]
          simp only []
          cases b6 with
          | true => rw [gotNum_none h6]
          | false =>
            rw [(gotNum_bad h6).2]
            simp only []
            rw [gotStr_none h7]
  · rintro rfl
    obtain ⟨rfl, q7⟩ := gotStr_good h7
    obtain ⟨rfl, q6⟩ := gotNum_bad h6
    obtain ⟨rfl, q5⟩ := gotNum_bad h5
    obtain ⟨rfl, q4⟩ := gotStr_good h4
    obtain ⟨_, q3⟩ := gotStr_good h3
    unfold getEnt
    rw [q1]
    simp only []
    rw [q2]
    simp only []
    rw [if_neg hn, q3]
    simp only []
    rw [q4]
    simp only []
    rw [q5]
    simp only []
    rw [q6]
    simp only []
    rw [q7]
    simp only [ba_bl]
set_option maxHeartbeats 5000000 in
theorem l2Entries_core (b off cap : Nat) (xs : List UInt8) (k : Blk) (w : World) (hx : BysAt w b off xs) (hb : b < w.heap.size) (hlen : xs.length ≤ 2 ^ 30) (hcap : xs.length ≤ cap) (hcm : cap ≤ maxLen) (hk : k.in xs.length) :
    Calls Tryd.prog 13 #[.slice (some ⟨b, off, none⟩) xs.length cap, k.v] w fun r w' => EntPost w xs k r w' := by
  obtain ⟨fr, til, count, row⟩ := k
  obtain ⟨h1, h2, h3, h4, h5⟩ := hk
  simp only [] at h1 h2 h3 h4 h5
  obtain ⟨W1, hW1⟩ : ∃ W1 : World, W1 = w.alloc (Obj.cells #[.int .i64 (fr : Int), .int .i64 (til : Int), .int .i64 (count : Int), .string row] 41) := ⟨_, rfl⟩
  have hb1 : Below w.heap.size w W1 := by rw [hW1]; exact (Below.refl _ _).alloc (Nat.le_refl _) _
  have z1 : W1.heap.size = w.heap.size + 1 := by rw [hW1]; simp
  have HK : Hid (W1.cell? ⟨w.heap.size, 0, none⟩ = some (.int .i64 (fr : Int)) ∧ W1.cell? ⟨w.heap.size, 1, none⟩ = some (.int .i64 (til : Int)) ∧ W1.cell? ⟨w.heap.size, 2, none⟩ = some (.int .i64 (count : Int)) ∧ W1.cell? ⟨w.heap.size, 3, none⟩ = some (.string row)) := by
    rw [hW1]; refine ⟨?_, ?_, ?_, ?_⟩ <;> simp
  have HX1 : Hid (BysAt W1 b off xs) := hx.below hb1 hb
  obtain ⟨N, hN⟩ : ∃ N : Nat, xs.length = N := ⟨_, rfl⟩
  have HN : Hid (xs.length = N) := hN
  have HCm : Hid (cap ≤ maxLen) := hcm
  rw [hN] at hlen hcap h3 ⊢
  clear hx hN hcm
  obtain ⟨m, hm⟩ : ∃ m : Nat, m = til - fr := ⟨_, rfl⟩
  have hmi : fr + m = til := by omega
  obtain ⟨bd, hbd⟩ : ∃ bd, bd = (xs.drop fr).take m := ⟨_, rfl⟩
  have hbdl : bd.length = m := by rw [hbd, List.length_take, List.length_drop, HN.out]; omega
  have HBd : Hid (bd = (xs.drop fr).take m ∧ bd.length = m ∧ m = til - fr) := ⟨hbd, hbdl, hm⟩
  have HXw : Hid (∀ w' : World, Below W1.heap.size W1 w' → BysAt w' b (off + fr) bd ∧ BysAt w' b off xs) := fun w' h => ⟨by rw [hbd]; exact bys_sub (HX1.out.below h (by omega)) fr m, HX1.out.below h (by omega)⟩
  have HKw : Hid (∀ w' : World, Below W1.heap.size W1 w' → w'.cell? ⟨w.heap.size, 1, none⟩ = some (.int .i64 (til : Int)) ∧ w'.cell? ⟨w.heap.size, 2, none⟩ = some (.int .i64 (count : Int)) ∧ w'.cell? ⟨w.heap.size, 3, none⟩ = some (.string row)) := by
    intro w' h
    have hlt : w.heap.size < W1.heap.size := by omega
    rw [h.cell (p := ⟨w.heap.size, 1, none⟩) hlt, h.cell (p := ⟨w.heap.size, 2, none⟩) hlt, h.cell (p := ⟨w.heap.size, 3, none⟩) hlt]
    exact HK.out.2
  clear hbd hm hbdl
  have y1 : (fr : Int) ≤ (til : Int) := by omega
  have y2 : (til : Int) ≤ (cap : Int) := by omega
  have y3 : ¬ fr = cap := by omega
  obtain ⟨W2, hW2⟩ : ∃ W2 : World, W2 = W1.alloc (Obj.cells #[] 67) := ⟨_, rfl⟩
  have hb2 : Below W1.heap.size W1 W2 := by rw [hW2]; exact (Below.refl _ _).alloc (Nat.le_refl _) _
  have z2 : W2.heap.size = W1.heap.size + 1 := by rw [hW2]; simp
  have HO2 : Hid (OwnE W2 W1.heap.size W1.heap.size 0 []) := by
    rw [hW2]; exact World.ownsRow_made W1 #[] 0 (Nat.le_refl _) (Nat.zero_le _) (by simp)
  go_enter Tryd.func13, Tryd.ntmps13
  go_upto_region 1 with fail
  rw [← hW1]
  clear hW1
  obtain ⟨q0, q1, _⟩ := HK.out
  go_upto_region 3 with fail
  rw [← hW2]
  clear hW2 q0 q1
  rw [← HBd.out.2.2]
  obtain ⟨g0, hg0⟩ : ∃ g0 : Nat, g0 = w.heap.size + 1 := ⟨_, rfl⟩
  rw [← hg0]
  rw [z1, ← hg0] at HO2
  have HG0 : Hid (g0 = w.heap.size + 1) := hg0
  clear hg0
  obtain ⟨c2, hc2⟩ : ∃ c2 : Nat, c2 = cap - fr := ⟨_, rfl⟩
  have hc2m : m ≤ c2 := by omega
  rw [← hc2]
  clear hc2 y1 y2 y3
  obtain ⟨cx, hcx⟩ : ∃ c : Nat, (crc bd).toNat = c := ⟨_, rfl⟩
  have hcx2 : cx < 4294967296 := by rw [← hcx]; exact (crc bd).isLt
  have HCx : Hid ((crc bd).toNat = cx) := hcx
  obtain ⟨fx, hfxd⟩ : ∃ c : Nat, fixAt xs til = c := ⟨_, rfl⟩
  have hfx2 : fx < 4294967296 := by rw [← hfxd]; exact fixAt_lt _ _
  have HFx : Hid (fixAt xs til = fx) := hfxd
  have HCrc : Hid (∀ w' : World, Below W1.heap.size W1 w' → Calls Tryd.prog 25 #[.slice (some ⟨b, off + fr, none⟩) m c2] w' fun e w'' => e = .returned (.int .u32 (cx : Int)) ∧ w'' = w') := by
    intro w' h
    have := specCrc_core b (off + fr) c2 bd w' (HXw.out w' h).1 (by rw [HBd.out.2.1]; unfold maxLen; omega)
    rw [HBd.out.2.1, hcx] at this
    exact this
  have HFix : Hid (∀ w' : World, Below W1.heap.size W1 w' → Calls Tryd.prog 24 #[.slice (some ⟨b, off, none⟩) N cap, .int .i64 (til : Int)] w' fun e w'' => e = .returned (.int .u32 (fx : Int)) ∧ Below w'.heap.size w' w'') := by
    intro w' h
    have := l2GetFixed_core b off cap xs til w' (HXw.out w' h).2 (by rw [HN.out]; exact hlen) (by rw [HN.out]; omega)
    rw [HN.out, hfxd] at this
    exact this
  clear hcx hfxd
  have sz2 := hb2.size
  go_cut [33] (fun s wx => ∃ c : Bool, s = .bool c ∧ (c = true ↔ ¬ cx = fx) ∧ Below W2.heap.size W2 wx)
  case first =>
    have k1 : W2.cell? ⟨w.heap.size, 1, none⟩ = some (.int .i64 (til : Int)) := (HKw.out W2 hb2).1
    have kb : Below W1.heap.size W1 W2 := hb2
    have kc : Below W2.heap.size W2 W2 := Below.refl _ _
    go_region_with (first
      | (go_at_call 25; refine (HCrc.out _ ?hB).mono ?_; (case hB => (repeat (first | assumption | refine Below.drew ?_))); rintro e1 w1' ⟨rfl, hw1'⟩; rw [hw1']; clear hw1' w1')
      | (go_at_call 24; refine (HFix.out _ ?hB).mono ?_; (case hB => (repeat (first | assumption | refine Below.drew ?_))); rintro e2 w2' ⟨rfl, hw2'⟩; have hz2' : Below W2.heap.size W2 w2' := (Below.drew kc).trans hw2'; clear hw2'))
    all_goals go_wp2_with fail
    all_goals go_meet
    all_goals exact ⟨_, rfl, by rw [bne_iff_ne]; omega, hz2'⟩
  case rest =>
  obtain ⟨c, rfl, hc, hbc⟩ := hcut
  have sc := hbc.size
  have kw : Below w.heap.size w wc := (hb1.trans (hb2.mono (by omega))).trans (hbc.mono (by omega))
  have k1 : Below W1.heap.size W1 wc := hb2.trans (hbc.mono sz2)
  have HOc : Hid (OwnE wc W1.heap.size g0 0 []) := by
    have h := HO2.out.below hbc (by have := HG0.out; omega)
    rw [HG0.out, ← z1] at h
    rw [HG0.out, ← z1]
    exact h
  clear HO2 hbc HCrc HFix
  cases c with
  | true =>
    have HI : Hid (blkM xs ⟨fr, til, count, row⟩ = (2, [])) := by
      show blkM xs ⟨fr, til, count, row⟩ = (2, [])
      unfold blkM
      simp only []
      rw [← HBd.out.2.2, ← HBd.out.1, HCx.out, HFx.out, if_pos (hc.1 rfl)]
    clear hc
    go_wp2_with fail
    go_ret2
    exact ⟨g0, 0, 2, [], rfl, HI.out.symm, OwnE.mono HOc.out (by omega), fun e he => by simp at he, kw⟩
  | false =>
  have hsum : cx = fx := Decidable.not_not.1 (fun q => by have := hc.2 q; cases this)
  have HI0 : Hid (blkM xs ⟨fr, til, count, row⟩ = entEnd (bl row) (getEnts count [] bd)) := by
    show blkM xs ⟨fr, til, count, row⟩ = _
    unfold blkM
    simp only []
    rw [← HBd.out.2.2, ← HBd.out.1, HCx.out, HFx.out, if_neg (fun q => q hsum)]
  clear hc hsum HCx HFx
  obtain ⟨W4, hW4⟩ : ∃ W4 : World, W4 = wc.alloc (Obj.cells #[.slice (some ⟨b, off + fr, none⟩) m c2, .int .i64 0, .bool false] 60) := ⟨_, rfl⟩
  have hb4 : Below wc.heap.size wc W4 := by rw [hW4]; exact (Below.refl _ _).alloc (Nat.le_refl _) _
  obtain ⟨R, hR⟩ : ∃ R : Nat, R = wc.heap.size := ⟨_, rfl⟩
  have HS4 : Hid (JS W1 R [.slice (some ⟨b, off + fr, none⟩) m c2, .int .i64 0, .bool false] g0 0 [] W4) := by
    refine ⟨?_, HOc.out.below hb4 (by have := HOc.out.lt; omega), by have := HOc.out.lt; omega, k1.trans (hb4.mono (by omega))⟩
    rw [hW4, hR]; exact boxAt_new wc _ (by omega) rfl
  go_upto_region 8 with fail
  rw [← hW4, ← hR]
  clear hW4 hR hb4 HOc kw k1 sc
  have HX : Hid (bd.length = m) := HBd.out.2.1
  go_loopw [7, 9, 10] (fun o s kk wr => ∃ (k i g cp : Nat) (bf : ByteArray) (l : List Ent), o = .slice (some ⟨g, 0, none⟩) l.length cp ∧ s = .string bf ∧ kk = .int .i64 (k : Int) ∧ EntsTo count bd k l (bl bf) (bd.drop i) ∧ i ≤ m ∧ bf.size ≤ 64 ∧ (∀ e ∈ l, e.ok) ∧ JS W1 R [.slice (some ⟨b, off + fr, none⟩) m c2, .int .i64 (i : Int), .bool false] g cp l wr) (fun _ _ kk _ => count - (intOf kk).toNat)
  case atStart => exact ⟨0, 0, g0, 0, ⟨#[]⟩, [], rfl, rfl, rfl, entsTo_zero _ _, Nat.zero_le _, by decide, fun e he => by simp at he, HS4.out⟩
  case round =>
    clear HS4
    obtain ⟨k, i0, g, cp, bf, l, rfl, rfl, rfl, hET, hi0, hbf, hokl, hJS⟩ := hrel
    have hkK : k ≤ count := hET.1
    have hlk : l.length ≤ 1000 := by have := hET.2.1; omega
    have HET : Hid (EntsTo count bd k l (bl bf) (bd.drop i0) ∧ ∀ e ∈ l, e.ok) := ⟨hET, hokl⟩
    have HJ : Hid (JS W1 R [.slice (some ⟨b, off + fr, none⟩) m c2, .int .i64 (i0 : Int), .bool false] g cp l wr) := hJS
    have kcnt := (HKw.out wr hJS.below).2.1
    clear hET hokl hJS
    by_cases hlt : k < count
    · have zk : (k : Int) < (count : Int) := by omega
      obtain ⟨V0, hV0⟩ : ∃ V : World, V = wr.alloc (Obj.cells #[.string ⟨#[]⟩, .string ⟨#[]⟩, .string ⟨#[]⟩, .int .u64 0, .int .i64 0, .string ⟨#[]⟩] 67) := ⟨_, rfl⟩
      obtain ⟨E, hE⟩ : ∃ E : Nat, E = wr.heap.size := ⟨_, rfl⟩
      have hRl := HJ.out.box.lt
      have hgl := HJ.out.row.lt
      have hER : ¬ E = R := by omega
      have hEg : ¬ E = g := by omega
      have hE1 : W1.heap.size ≤ E := by have := HJ.out.below.size; omega
      have HS0 : Hid (JS W1 R [.slice (some ⟨b, off + fr, none⟩) m c2, .int .i64 (i0 : Int), .bool false] g cp l V0 ∧ BoxAt V0 W1.heap.size 67 6 E [.string ⟨#[]⟩, .string ⟨#[]⟩, .string ⟨#[]⟩, .int .u64 0, .int .i64 0, .string ⟨#[]⟩]) := by
        have hbv : Below wr.heap.size wr V0 := by rw [hV0]; exact (Below.refl _ _).alloc (Nat.le_refl _) _
        refine ⟨HJ.out.call hbv, ?_⟩
        rw [hV0, hE]; exact boxAt_new wr _ (by rw [← hE]; exact hE1) rfl
      go_upto_region 14 with fail
      rw [← hV0, ← hE]
      clear hV0 hE hRl HJ kcnt
      -- n
      have r0 := HS0.out.1.box.cell (j := 0) rfl
      have r1 := HS0.out.1.box.cell (j := 1) rfl
      have r2 := HS0.out.1.box.cell (j := 2) rfl
      have sA := HS0.out.1.below.size
      have hgn := l2GetNum_core b (off + fr) c2 bd i0 false V0 (HXw.out V0 HS0.out.1.below).1 (by omega) (by rw [HX.out]; omega) (by rw [HX.out]; exact hi0)
      rw [HX.out] at hgn
      go_wp2_with fail
      clear r0 r1 r2
      refine hgn.mono ?_
      rintro r u1 ⟨i1, b1, n, rfl, hG1, hb1⟩
      rw [HX.out]
      have hi1 := hG1.1
      rw [HX.out] at hi1
      have hsz1 := hG1.2.1
      have HG1 : Hid (GotNum bd i0 false i1 b1 n) := hG1
      have HT1 : Hid (JS W1 R [.slice (some ⟨b, off + fr, none⟩) m c2, .int .i64 (i0 : Int), .bool false] g cp l u1 ∧ BoxAt u1 W1.heap.size 67 6 E [.string ⟨#[]⟩, .string ⟨#[]⟩, .string ⟨#[]⟩, .int .u64 0, .int .i64 0, .string ⟨#[]⟩]) := ⟨HS0.out.1.call hb1, HS0.out.2.below hb1⟩
      clear hG1 hb1 hgn HS0 sA
      have f0 := HT1.out.1.box.frozen 0
      have f1 := HT1.out.1.box.frozen 1
      have f2 := HT1.out.1.box.frozen 2
      have r0 := HT1.out.1.box.cell (j := 0) rfl
      have r1 := HT1.out.1.box.cell (j := 1) rfl
      have r2 := HT1.out.1.box.cell (j := 2) rfl
      obtain ⟨V1, hV1⟩ : ∃ V : World, V = set3 u1 R (.slice (some ⟨b, off + fr, none⟩) m c2) (.int .i64 (i1 : Int)) (.bool b1) := ⟨_, rfl⟩
      have HS1 : Hid (JS W1 R [.slice (some ⟨b, off + fr, none⟩) m c2, .int .i64 (i1 : Int), .bool b1] g cp l V1 ∧ BoxAt V1 W1.heap.size 67 6 E [.string ⟨#[]⟩, .string ⟨#[]⟩, .string ⟨#[]⟩, .int .u64 0, .int .i64 0, .string ⟨#[]⟩]) := by rw [hV1]; exact ⟨HT1.out.1.set3 _ _ _, HT1.out.2.beside3 hER _ _ _⟩
      unfold set3 at hV1
      go_upto_region 15 with fail
      rw [← hV1]
      clear hV1 f0 f1 f2 r0 r1 r2 HT1
      -- rest
      have r0 := HS1.out.1.box.cell (j := 0) rfl
      have r1 := HS1.out.1.box.cell (j := 1) rfl
      have r2 := HS1.out.1.box.cell (j := 2) rfl
      have sA := HS1.out.1.below.size
      have hgn := l2GetStr_core b (off + fr) c2 bd i1 b1 V1 (HXw.out V1 HS1.out.1.below).1 (by omega) (by rw [HX.out]; omega) (by rw [HX.out]; exact hc2m) (by rw [HX.out]; exact hi1)
      rw [HX.out] at hgn
      go_wp2_with fail
      clear r0 r1 r2
      refine hgn.mono ?_
      rintro r u2 ⟨i2, b2, rest, rfl, hG2, hb2⟩
      rw [HX.out]
      have hi2 := hG2.1
      rw [HX.out] at hi2
      have hsz2 := hG2.2.1
      rw [HX.out] at hsz2
      have HG2 : Hid (GotStr bd i1 b1 i2 b2 rest) := hG2
      have HT2 : Hid (JS W1 R [.slice (some ⟨b, off + fr, none⟩) m c2, .int .i64 (i1 : Int), .bool b1] g cp l u2 ∧ BoxAt u2 W1.heap.size 67 6 E [.string ⟨#[]⟩, .string ⟨#[]⟩, .string ⟨#[]⟩, .int .u64 0, .int .i64 0, .string ⟨#[]⟩]) := ⟨HS1.out.1.call hb2, HS1.out.2.below hb2⟩
      clear hG2 hb2 hgn HS1 sA
      have f0 := HT2.out.1.box.frozen 0
      have f1 := HT2.out.1.box.frozen 1
      have f2 := HT2.out.1.box.frozen 2
      have r0 := HT2.out.1.box.cell (j := 0) rfl
      have r1 := HT2.out.1.box.cell (j := 1) rfl
      have r2 := HT2.out.1.box.cell (j := 2) rfl
      obtain ⟨V2, hV2⟩ : ∃ V : World, V = set3 u2 R (.slice (some ⟨b, off + fr, none⟩) m c2) (.int .i64 (i2 : Int)) (.bool b2) := ⟨_, rfl⟩
      have HS2 : Hid (JS W1 R [.slice (some ⟨b, off + fr, none⟩) m c2, .int .i64 (i2 : Int), .bool b2] g cp l V2 ∧ BoxAt V2 W1.heap.size 67 6 E [.string ⟨#[]⟩, .string ⟨#[]⟩, .string ⟨#[]⟩, .int .u64 0, .int .i64 0, .string ⟨#[]⟩]) := by rw [hV2]; exact ⟨HT2.out.1.set3 _ _ _, HT2.out.2.beside3 hER _ _ _⟩
      unfold set3 at hV2
      go_upto_region 16 with fail
      rw [← hV2]
      clear hV2 f0 f1 f2 r0 r1 r2 HT2
      have r2 := HS2.out.1.box.cell (j := 2) rfl
      have hbf2 : (bf.size : Int) ≤ 64 := by omega
      go_cut [62] (fun s wx => ∃ c : Bool, s = .bool c ∧ (c = true ↔ b2 = true ∨ bf.size < n) ∧ wx = V2)
      case first =>
        cases b2 with
        | true =>
          go_wp2_with fail
          go_meet
          exact ⟨true, rfl, by simp, rfl⟩
        | false =>
          by_cases c1 : bf.size < n
          · have y1 : (bf.size : Int) < (n : Int) := by omega
            go_wp2_with fail
            go_meet
            exact ⟨true, rfl, by simp [c1], rfl⟩
          · have y1 : ¬ (bf.size : Int) < (n : Int) := by omega
            go_wp2_with fail
            go_meet
            exact ⟨false, rfl, by simp; omega, rfl⟩
      case rest =>
      obtain ⟨c, rfl, hc, hwc⟩ := hcut
      rw [hwc]
      clear hwc wc r2
      cases c with
      | true =>
        have HI : Hid (blkM xs ⟨fr, til, count, row⟩ = (3, [])) := by
          show blkM xs ⟨fr, til, count, row⟩ = (3, [])
          rw [HI0.out, HET.out.1.stop hlt (entRead1 HG1.out HG2.out (by rw [bl_len]; exact hc.1 rfl))]; rfl
        have sV := HS2.out.1.below.size
        have HW : Hid (OwnE (V2.alloc (Obj.cells #[] 67)) w.heap.size V2.heap.size 0 [] ∧ Below w.heap.size w (V2.alloc (Obj.cells #[] 67))) := ⟨World.ownsRow_made V2 #[] 0 (by omega) (Nat.zero_le _) (by simp), (hb1.trans (HS2.out.1.below.mono (by omega))).alloc (by omega) _⟩
        clear hc
        go_wp2_with fail
        go_ret2
        exact ⟨V2.heap.size, 0, 3, [], rfl, HI.out.symm, HW.out.1, fun e he => by simp at he, HW.out.2⟩
      | false =>
      have hcf : ¬ (b2 = true ∨ bf.size < n) := fun q => by have := hc.2 q; cases this
      have hb2f : b2 = false := by
        cases b2 with
        | true => exact absurd (.inl rfl) hcf
        | false => rfl
      subst hb2f
      have hnb : n ≤ bf.size := Nat.not_lt.1 (fun q => hcf (.inr q))
      clear hc hcf
      go_upto_region 23 with fail
      obtain ⟨rw', hrw⟩ : ∃ s : ByteArray, s = bf.extract 0 n ++ rest := ⟨_, rfl⟩
      have HRow : Hid (bl rw' = (bl bf).take n ++ bl rest) := by
        show bl rw' = _
        rw [hrw]
        show (bf.extract 0 n ++ rest).data.toList = _
        rw [ByteArray.data_append, Array.toList_append, Lib.extract_data]
        simp
      have hrsz : rw'.size ≤ 64 + m := by
        rw [← bl_len, HRow.out, List.length_append, bl_len, List.length_take]
        omega
      have HBa : Hid (ba ((bl bf).take n ++ bl rest) = rw') := by rw [← HRow.out]; exact ba_bl _
      rw [← hrw]
      clear hrw
      -- fam
      have r0 := HS2.out.1.box.cell (j := 0) rfl
      have r1 := HS2.out.1.box.cell (j := 1) rfl
      have r2 := HS2.out.1.box.cell (j := 2) rfl
      have sA := HS2.out.1.below.size
      have hgn := l2GetStr_core b (off + fr) c2 bd i2 false V2 (HXw.out V2 HS2.out.1.below).1 (by omega) (by rw [HX.out]; omega) (by rw [HX.out]; exact hc2m) (by rw [HX.out]; exact hi2)
      rw [HX.out] at hgn
      go_wp2_with fail
      clear r0 r1 r2
      refine hgn.mono ?_
      rintro r u3 ⟨i3, b3, fam, rfl, hG3, hb3⟩
      rw [HX.out]
      have hi3 := hG3.1
      rw [HX.out] at hi3
      have hsz3 := hG3.2.1
      rw [HX.out] at hsz3
      have HG3 : Hid (GotStr bd i2 false i3 b3 fam) := hG3
      have HT3 : Hid (JS W1 R [.slice (some ⟨b, off + fr, none⟩) m c2, .int .i64 (i2 : Int), .bool false] g cp l u3 ∧ BoxAt u3 W1.heap.size 67 6 E [.string ⟨#[]⟩, .string ⟨#[]⟩, .string ⟨#[]⟩, .int .u64 0, .int .i64 0, .string ⟨#[]⟩]) := ⟨HS2.out.1.call hb3, HS2.out.2.below hb3⟩
      clear hG3 hb3 hgn HS2 sA
      have f0 := HT3.out.1.box.frozen 0
      have f1 := HT3.out.1.box.frozen 1
      have f2 := HT3.out.1.box.frozen 2
      have r0 := HT3.out.1.box.cell (j := 0) rfl
      have r1 := HT3.out.1.box.cell (j := 1) rfl
      have r2 := HT3.out.1.box.cell (j := 2) rfl
      obtain ⟨V3, hV3⟩ : ∃ V : World, V = set3 u3 R (.slice (some ⟨b, off + fr, none⟩) m c2) (.int .i64 (i3 : Int)) (.bool b3) := ⟨_, rfl⟩
      have HS3 : Hid (JS W1 R [.slice (some ⟨b, off + fr, none⟩) m c2, .int .i64 (i3 : Int), .bool b3] g cp l V3 ∧ BoxAt V3 W1.heap.size 67 6 E [.string ⟨#[]⟩, .string ⟨#[]⟩, .string ⟨#[]⟩, .int .u64 0, .int .i64 0, .string ⟨#[]⟩]) := by rw [hV3]; exact ⟨HT3.out.1.set3 _ _ _, HT3.out.2.beside3 hER _ _ _⟩
      unfold set3 at hV3
      go_upto_region 24 with fail
      rw [← hV3]
      clear hV3 f0 f1 f2 r0 r1 r2 HT3
      -- qual
      have r0 := HS3.out.1.box.cell (j := 0) rfl
      have r1 := HS3.out.1.box.cell (j := 1) rfl
      have r2 := HS3.out.1.box.cell (j := 2) rfl
      have sA := HS3.out.1.below.size
      have hgn := l2GetStr_core b (off + fr) c2 bd i3 b3 V3 (HXw.out V3 HS3.out.1.below).1 (by omega) (by rw [HX.out]; omega) (by rw [HX.out]; exact hc2m) (by rw [HX.out]; exact hi3)
      rw [HX.out] at hgn
      go_wp2_with fail
      clear r0 r1 r2
      refine hgn.mono ?_
      rintro r u4 ⟨i4, b4, qual, rfl, hG4, hb4⟩
      rw [HX.out]
      have hi4 := hG4.1
      rw [HX.out] at hi4
      have hsz4 := hG4.2.1
      rw [HX.out] at hsz4
      have HG4 : Hid (GotStr bd i3 b3 i4 b4 qual) := hG4
      have HT4 : Hid (JS W1 R [.slice (some ⟨b, off + fr, none⟩) m c2, .int .i64 (i3 : Int), .bool b3] g cp l u4 ∧ BoxAt u4 W1.heap.size 67 6 E [.string ⟨#[]⟩, .string ⟨#[]⟩, .string ⟨#[]⟩, .int .u64 0, .int .i64 0, .string ⟨#[]⟩]) := ⟨HS3.out.1.call hb4, HS3.out.2.below hb4⟩
      clear hG4 hb4 hgn HS3 sA
      have f0 := HT4.out.1.box.frozen 0
      have f1 := HT4.out.1.box.frozen 1
      have f2 := HT4.out.1.box.frozen 2
      have r0 := HT4.out.1.box.cell (j := 0) rfl
      have r1 := HT4.out.1.box.cell (j := 1) rfl
      have r2 := HT4.out.1.box.cell (j := 2) rfl
      obtain ⟨V4, hV4⟩ : ∃ V : World, V = set3 u4 R (.slice (some ⟨b, off + fr, none⟩) m c2) (.int .i64 (i4 : Int)) (.bool b4) := ⟨_, rfl⟩
      have HS4 : Hid (JS W1 R [.slice (some ⟨b, off + fr, none⟩) m c2, .int .i64 (i4 : Int), .bool b4] g cp l V4 ∧ BoxAt V4 W1.heap.size 67 6 E [.string ⟨#[]⟩, .string ⟨#[]⟩, .string ⟨#[]⟩, .int .u64 0, .int .i64 0, .string ⟨#[]⟩]) := by rw [hV4]; exact ⟨HT4.out.1.set3 _ _ _, HT4.out.2.beside3 hER _ _ _⟩
      unfold set3 at hV4
      go_upto_region 25 with fail
      rw [← hV4]
      clear hV4 f0 f1 f2 r0 r1 r2 HT4
      -- ts
      have r0 := HS4.out.1.box.cell (j := 0) rfl
      have r1 := HS4.out.1.box.cell (j := 1) rfl
      have r2 := HS4.out.1.box.cell (j := 2) rfl
      have sA := HS4.out.1.below.size
      have hgn := l2GetNum_core b (off + fr) c2 bd i4 b4 V4 (HXw.out V4 HS4.out.1.below).1 (by omega) (by rw [HX.out]; omega) (by rw [HX.out]; exact hi4)
      rw [HX.out] at hgn
      go_wp2_with fail
      clear r0 r1 r2
      refine hgn.mono ?_
      rintro r u5 ⟨i5, b5, ts, rfl, hG5, hb5⟩
      rw [HX.out]
      have hi5 := hG5.1
      rw [HX.out] at hi5
      have hsz5 := hG5.2.1
      have HG5 : Hid (GotNum bd i4 b4 i5 b5 ts) := hG5
      have HT5 : Hid (JS W1 R [.slice (some ⟨b, off + fr, none⟩) m c2, .int .i64 (i4 : Int), .bool b4] g cp l u5 ∧ BoxAt u5 W1.heap.size 67 6 E [.string ⟨#[]⟩, .string ⟨#[]⟩, .string ⟨#[]⟩, .int .u64 0, .int .i64 0, .string ⟨#[]⟩]) := ⟨HS4.out.1.call hb5, HS4.out.2.below hb5⟩
      clear hG5 hb5 hgn HS4 sA
      have f0 := HT5.out.1.box.frozen 0
      have f1 := HT5.out.1.box.frozen 1
      have f2 := HT5.out.1.box.frozen 2
      have r0 := HT5.out.1.box.cell (j := 0) rfl
      have r1 := HT5.out.1.box.cell (j := 1) rfl
      have r2 := HT5.out.1.box.cell (j := 2) rfl
      obtain ⟨V5, hV5⟩ : ∃ V : World, V = set3 u5 R (.slice (some ⟨b, off + fr, none⟩) m c2) (.int .i64 (i5 : Int)) (.bool b5) := ⟨_, rfl⟩
      have HS5 : Hid (JS W1 R [.slice (some ⟨b, off + fr, none⟩) m c2, .int .i64 (i5 : Int), .bool b5] g cp l V5 ∧ BoxAt V5 W1.heap.size 67 6 E [.string ⟨#[]⟩, .string ⟨#[]⟩, .string ⟨#[]⟩, .int .u64 0, .int .i64 0, .string ⟨#[]⟩]) := by rw [hV5]; exact ⟨HT5.out.1.set3 _ _ _, HT5.out.2.beside3 hER _ _ _⟩
      unfold set3 at hV5
      go_upto_region 26 with fail
      rw [← hV5]
      clear hV5 f0 f1 f2 r0 r1 r2 HT5
      -- kind
      have r0 := HS5.out.1.box.cell (j := 0) rfl
      have r1 := HS5.out.1.box.cell (j := 1) rfl
      have r2 := HS5.out.1.box.cell (j := 2) rfl
      have sA := HS5.out.1.below.size
      have hgn := l2GetNum_core b (off + fr) c2 bd i5 b5 V5 (HXw.out V5 HS5.out.1.below).1 (by omega) (by rw [HX.out]; omega) (by rw [HX.out]; exact hi5)
      rw [HX.out] at hgn
      go_wp2_with fail
      clear r0 r1 r2
      refine hgn.mono ?_
      rintro r u6 ⟨i6, b6, kind, rfl, hG6, hb6⟩
      rw [HX.out]
      have hi6 := hG6.1
      rw [HX.out] at hi6
      have hsz6 := hG6.2.1
      have HG6 : Hid (GotNum bd i5 b5 i6 b6 kind) := hG6
      have HT6 : Hid (JS W1 R [.slice (some ⟨b, off + fr, none⟩) m c2, .int .i64 (i5 : Int), .bool b5] g cp l u6 ∧ BoxAt u6 W1.heap.size 67 6 E [.string ⟨#[]⟩, .string ⟨#[]⟩, .string ⟨#[]⟩, .int .u64 0, .int .i64 0, .string ⟨#[]⟩]) := ⟨HS5.out.1.call hb6, HS5.out.2.below hb6⟩
      clear hG6 hb6 hgn HS5 sA
      have f0 := HT6.out.1.box.frozen 0
      have f1 := HT6.out.1.box.frozen 1
      have f2 := HT6.out.1.box.frozen 2
      have r0 := HT6.out.1.box.cell (j := 0) rfl
      have r1 := HT6.out.1.box.cell (j := 1) rfl
      have r2 := HT6.out.1.box.cell (j := 2) rfl
      obtain ⟨V6, hV6⟩ : ∃ V : World, V = set3 u6 R (.slice (some ⟨b, off + fr, none⟩) m c2) (.int .i64 (i6 : Int)) (.bool b6) := ⟨_, rfl⟩
      have HS6 : Hid (JS W1 R [.slice (some ⟨b, off + fr, none⟩) m c2, .int .i64 (i6 : Int), .bool b6] g cp l V6 ∧ BoxAt V6 W1.heap.size 67 6 E [.string ⟨#[]⟩, .string ⟨#[]⟩, .string ⟨#[]⟩, .int .u64 0, .int .i64 0, .string ⟨#[]⟩]) := by rw [hV6]; exact ⟨HT6.out.1.set3 _ _ _, HT6.out.2.beside3 hER _ _ _⟩
      unfold set3 at hV6
      go_upto_region 27 with fail
      rw [← hV6]
      clear hV6 f0 f1 f2 r0 r1 r2 HT6
      -- val
      have r0 := HS6.out.1.box.cell (j := 0) rfl
      have r1 := HS6.out.1.box.cell (j := 1) rfl
      have r2 := HS6.out.1.box.cell (j := 2) rfl
      have sA := HS6.out.1.below.size
      have hgn := l2GetStr_core b (off + fr) c2 bd i6 b6 V6 (HXw.out V6 HS6.out.1.below).1 (by omega) (by rw [HX.out]; omega) (by rw [HX.out]; exact hc2m) (by rw [HX.out]; exact hi6)
      rw [HX.out] at hgn
      go_wp2_with fail
      clear r0 r1 r2
      refine hgn.mono ?_
      rintro r u7 ⟨i7, b7, val, rfl, hG7, hb7⟩
      rw [HX.out]
      have hi7 := hG7.1
      rw [HX.out] at hi7
      have hsz7 := hG7.2.1
      rw [HX.out] at hsz7
      have HG7 : Hid (GotStr bd i6 b6 i7 b7 val) := hG7
      have HT7 : Hid (JS W1 R [.slice (some ⟨b, off + fr, none⟩) m c2, .int .i64 (i6 : Int), .bool b6] g cp l u7 ∧ BoxAt u7 W1.heap.size 67 6 E [.string ⟨#[]⟩, .string ⟨#[]⟩, .string ⟨#[]⟩, .int .u64 0, .int .i64 0, .string ⟨#[]⟩]) := ⟨HS6.out.1.call hb7, HS6.out.2.below hb7⟩
      clear hG7 hb7 hgn HS6 sA
      have f0 := HT7.out.1.box.frozen 0
      have f1 := HT7.out.1.box.frozen 1
      have f2 := HT7.out.1.box.frozen 2
      have r0 := HT7.out.1.box.cell (j := 0) rfl
      have r1 := HT7.out.1.box.cell (j := 1) rfl
      have r2 := HT7.out.1.box.cell (j := 2) rfl
      obtain ⟨V7, hV7⟩ : ∃ V : World, V = set3 u7 R (.slice (some ⟨b, off + fr, none⟩) m c2) (.int .i64 (i7 : Int)) (.bool b7) := ⟨_, rfl⟩
      have HS7 : Hid (JS W1 R [.slice (some ⟨b, off + fr, none⟩) m c2, .int .i64 (i7 : Int), .bool b7] g cp l V7 ∧ BoxAt V7 W1.heap.size 67 6 E [.string ⟨#[]⟩, .string ⟨#[]⟩, .string ⟨#[]⟩, .int .u64 0, .int .i64 0, .string ⟨#[]⟩]) := by rw [hV7]; exact ⟨HT7.out.1.set3 _ _ _, HT7.out.2.beside3 hER _ _ _⟩
      unfold set3 at hV7
      go_upto_region 28 with fail
      rw [← hV7]
      clear hV7 f0 f1 f2 r0 r1 r2 HT7
      have HRd : Hid ((b7 = true → getEnt (bl bf) (bd.drop i0) = none) ∧ (b7 = false → getEnt (bl bf) (bd.drop i0) =
          if 2 < kind ∨ ¬ shared (bl bf) (bl rw') = n ∨ (⟨rw', fam, qual, (ts : Int), (kind : Int), val⟩ : Ent).vld = false then none else some (⟨rw', fam, qual, (ts : Int), (kind : Int), val⟩, bd.drop i7))) := by
        have h := entRead2 (before := bl bf) HG1.out HG2.out (by rw [bl_len]; omega) HG3.out HG4.out HG5.out HG6.out HG7.out
        rw [HBa.out, ← HRow.out] at h
        exact h
      clear HG1 HG2 HG3 HG4 HG5 HG6 HG7 HBa HRow
      have f0 := HS7.out.2.frozen 0
      have f1 := HS7.out.2.frozen 1
      have f2 := HS7.out.2.frozen 2
      have f3 := HS7.out.2.frozen 3
      have f5 := HS7.out.2.frozen 5
      have r0 := HS7.out.2.cell (j := 0) rfl
      have r1 := HS7.out.2.cell (j := 1) rfl
      have r2 := HS7.out.2.cell (j := 2) rfl
      have r3 := HS7.out.2.cell (j := 3) rfl
      have r5 := HS7.out.2.cell (j := 5) rfl
      obtain ⟨V8, hV8⟩ : ∃ V : World, V = ((((V7.setCell ⟨E, 0, none⟩ (.string rw')).setCell ⟨E, 1, none⟩ (.string fam)).setCell ⟨E, 2, none⟩ (.string qual)).setCell ⟨E, 3, none⟩ (.int .u64 (ts : Int))).setCell ⟨E, 5, none⟩ (.string val) := ⟨_, rfl⟩
      have HS8 : Hid (JS W1 R [.slice (some ⟨b, off + fr, none⟩) m c2, .int .i64 (i7 : Int), .bool b7] g cp l V8 ∧ BoxAt V8 W1.heap.size 67 6 E [.string rw', .string fam, .string qual, .int .u64 (ts : Int), .int .i64 0, .string val]) := by
        rw [hV8]
        refine ⟨?_, ?_⟩
        · have hR' : ¬ R = E := fun q => hER q.symm
          have hg' : ¬ g = E := fun q => hEg q.symm
          exact ((((HS7.out.1.beside hR' hg' hE1 0 _).beside hR' hg' hE1 1 _).beside hR' hg' hE1 2 _).beside hR' hg' hE1 3 _).beside hR' hg' hE1 5 _
        · exact ((((HS7.out.2.set 0 _).set 1 _).set 2 _).set 3 _).set 5 _
      go_upto_region 33 with fail
      rw [← hV8]
      clear hV8 f0 f1 f2 f3 f5 r0 r1 r2 r3 r5 HS7
      have r2 := HS8.out.1.box.cell (j := 2) rfl
      go_cut [117] (fun s wx => ∃ c : Bool, s = .bool c ∧ (c = true ↔ b7 = true ∨ 2 < kind ∨ ¬ shared (bl bf) (bl rw') = n) ∧ Below V8.heap.size V8 wx)
      case first =>
        cases b7 with
        | true =>
          go_wp2_with fail
          go_meet
          exact ⟨true, rfl, by simp, Below.refl _ _⟩
        | false =>
          by_cases c1 : 2 < kind
          · have y1 : (2 : Int) < (kind : Int) := by omega
            go_wp2_with fail
            go_meet
            exact ⟨true, rfl, by simp [c1], Below.refl _ _⟩
          · have y1 : ¬ (2 : Int) < (kind : Int) := by omega
            obtain ⟨sh', hsh⟩ : ∃ q : Nat, q = shared (bl bf) (bl rw') := ⟨_, rfl⟩
            have hsl : sh' ≤ 64 := by rw [hsh]; have := (shared_le (bl bf) (bl rw')).1; rw [bl_len] at this; omega
            have hcs := l2Shared_core bf rw' V8 (by unfold maxLen; omega) (by unfold maxLen; omega)
            rw [← hsh] at hcs
            have HSh : Hid (sh' = shared (bl bf) (bl rw')) := hsh
            clear hsh
            go_wp2_with fail
            refine hcs.mono ?_
            rintro e v9 ⟨rfl, hb9⟩
            clear hcs
            by_cases c2 : sh' = n
            · subst c2
              go_wp2_with fail
              go_meet
              exact ⟨false, by simp, by rw [← HSh.out]; simp; omega, hb9⟩
            · have y2 : ¬ (sh' : Int) = (n : Int) := by omega
              go_wp2_with fail
              go_meet
              exact ⟨true, by first | rfl | (simp [c2]; omega) | simp [c2], by rw [← HSh.out]; simp [c2], hb9⟩
      case rest =>
      obtain ⟨c, rfl, hc, hbc⟩ := hcut
      have HSc : Hid (JS W1 R [.slice (some ⟨b, off + fr, none⟩) m c2, .int .i64 (i7 : Int), .bool b7] g cp l wc ∧ BoxAt wc W1.heap.size 67 6 E [.string rw', .string fam, .string qual, .int .u64 (ts : Int), .int .i64 0, .string val]) := ⟨HS8.out.1.call hbc, HS8.out.2.below hbc⟩
      clear hbc HS8 r2
      have sC := HSc.out.1.below.size
      have BC := HSc.out.1.below
      cases c with
      | true =>
        have HNone : Hid (getEnt (bl bf) (bd.drop i0) = none) := by
          show getEnt (bl bf) (bd.drop i0) = none
          cases b7 with
          | true => exact HRd.out.1 rfl
          | false =>
            rw [HRd.out.2 rfl, if_pos]
            rcases hc.1 rfl with h | h | h
            · cases h
            · exact .inl h
            · exact .inr (.inl h)
        clear hc
        have HI : Hid (blkM xs ⟨fr, til, count, row⟩ = (3, [])) := by
          show blkM xs ⟨fr, til, count, row⟩ = (3, [])
          rw [HI0.out, HET.out.1.stop hlt HNone.out]; rfl
        have HW : Hid (OwnE (wc.alloc (Obj.cells #[] 67)) w.heap.size wc.heap.size 0 [] ∧ Below w.heap.size w (wc.alloc (Obj.cells #[] 67))) := ⟨World.ownsRow_made wc #[] 0 (by omega) (Nat.zero_le _) (by simp), (hb1.trans (BC.mono (by omega))).alloc (by omega) _⟩
        go_wp2_with fail
        go_ret2
        exact ⟨wc.heap.size, 0, 3, [], rfl, HI.out.symm, HW.out.1, fun e he => by simp at he, HW.out.2⟩
      | false =>
      have hcf : ¬ (b7 = true ∨ 2 < kind ∨ ¬ shared (bl bf) (bl rw') = n) := fun q => by have := hc.2 q; cases this
      have hb7f : b7 = false := by
        cases b7 with
        | true => exact absurd (.inl rfl) hcf
        | false => rfl
      subst hb7f
      have hkd : kind ≤ 2 := Nat.not_lt.1 (fun q => hcf (.inr (.inl q)))
      have hsn : shared (bl bf) (bl rw') = n := Decidable.not_not.1 (fun q => hcf (.inr (.inr q)))
      obtain ⟨en, hen⟩ : ∃ e : Ent, e = ⟨rw', fam, qual, (ts : Int), (kind : Int), val⟩ := ⟨_, rfl⟩
      have HRd2 : Hid (getEnt (bl bf) (bd.drop i0) = if en.vld = false then none else some (en, bd.drop i7)) := by
        show getEnt (bl bf) (bd.drop i0) = _
        rw [HRd.out.2 rfl, ← hen]
        by_cases q : en.vld = false
        · rw [if_pos (.inr (.inr q)), if_pos q]
        · rw [if_neg (by rintro (h | h | h); omega; exact h hsn; exact q h), if_neg q]
      have HEn : Hid (en = ⟨rw', fam, qual, (ts : Int), (kind : Int), val⟩) := hen
      clear hc hcf HRd hsn hen
      have f4 := HSc.out.2.frozen 4
      have r4 := HSc.out.2.cell (j := 4) rfl
      obtain ⟨V9, hV9⟩ : ∃ V : World, V = wc.setCell ⟨E, 4, none⟩ (.int .i64 (kind : Int)) := ⟨_, rfl⟩
      have HS9 : Hid (JS W1 R [.slice (some ⟨b, off + fr, none⟩) m c2, .int .i64 (i7 : Int), .bool false] g cp l V9 ∧ BoxAt V9 W1.heap.size 67 6 E [.string rw', .string fam, .string qual, .int .u64 (ts : Int), .int .i64 (kind : Int), .string val]) := by
        rw [hV9]
        exact ⟨HSc.out.1.beside (fun q => hER q.symm) (fun q => hEg q.symm) hE1 4 _, HSc.out.2.set 4 _⟩
      go_upto_region 36 with fail
      rw [← hV9]
      clear hV9 f4 r4 HSc sC BC
      have r0 := HS9.out.2.cell (j := 0) rfl
      have r1 := HS9.out.2.cell (j := 1) rfl
      have r2 := HS9.out.2.cell (j := 2) rfl
      have r3 := HS9.out.2.cell (j := 3) rfl
      have r4 := HS9.out.2.cell (j := 4) rfl
      have r5 := HS9.out.2.cell (j := 5) rfl
      have hvc := specValid_core rw' fam qual val (ts : Int) (kind : Int) V9 (by unfold maxLen; omega) (by unfold maxLen; omega) (by unfold maxLen; omega) (by unfold maxLen; omega)
      obtain ⟨vd, hvd⟩ : ∃ v : Bool, v = vE rw' fam qual (kind : Int) val := ⟨_, rfl⟩
      have HVd : Hid (en.vld = vd) := by rw [HEn.out, hvd]; exact rfl
      rw [← hvd] at hvc
      clear hvd
      go_wp2_with fail
      clear r0 r1 r2 r3 r4 r5
      refine hvc.mono ?_
      rintro e u10 ⟨rfl, hb10⟩
      have HS10 : Hid (JS W1 R [.slice (some ⟨b, off + fr, none⟩) m c2, .int .i64 (i7 : Int), .bool false] g cp l u10 ∧ BoxAt u10 W1.heap.size 67 6 E [.string rw', .string fam, .string qual, .int .u64 (ts : Int), .int .i64 (kind : Int), .string val]) := ⟨HS9.out.1.call hb10, HS9.out.2.below hb10⟩
      clear hvc hb10 HS9
      have sC := HS10.out.1.below.size
      have BC := HS10.out.1.below
      cases vd with
      | false =>
        have HNone : Hid (getEnt (bl bf) (bd.drop i0) = none) := by
          show getEnt (bl bf) (bd.drop i0) = none
          rw [HRd2.out, if_pos HVd.out]
        have HI : Hid (blkM xs ⟨fr, til, count, row⟩ = (3, [])) := by
          show blkM xs ⟨fr, til, count, row⟩ = (3, [])
          rw [HI0.out, HET.out.1.stop hlt HNone.out]; rfl
        have HW : Hid (OwnE (u10.alloc (Obj.cells #[] 67)) w.heap.size u10.heap.size 0 [] ∧ Below w.heap.size w (u10.alloc (Obj.cells #[] 67))) := ⟨World.ownsRow_made u10 #[] 0 (by omega) (Nat.zero_le _) (by simp), (hb1.trans (BC.mono (by omega))).alloc (by omega) _⟩
        go_wp2_with fail
        go_ret2
        exact ⟨u10.heap.size, 0, 3, [], rfl, HI.out.symm, HW.out.1, fun e he => by simp at he, HW.out.2⟩
      | true =>
        have HSome : Hid (getEnt (bl bf) (bd.drop i0) = some (en, bd.drop i7)) := by
          show getEnt (bl bf) (bd.drop i0) = _
          rw [HRd2.out, if_neg (by rw [HVd.out]; decide)]
        have r0 := HS10.out.2.cell (j := 0) rfl
        have r1 := HS10.out.2.cell (j := 1) rfl
        have r2 := HS10.out.2.cell (j := 2) rfl
        have r3 := HS10.out.2.cell (j := 3) rfl
        have r4 := HS10.out.2.cell (j := 4) rfl
        have r5 := HS10.out.2.cell (j := 5) rfl
        obtain ⟨WD, hWD⟩ : ∃ V : World, V = u10.alloc (Obj.cells #[.string rw', .string fam, .string qual, .int .u64 (ts : Int), .int .i64 (kind : Int), .string val] 67) := ⟨_, rfl⟩
        have hbD : Below u10.heap.size u10 WD := by rw [hWD]; exact (Below.refl _ _).alloc (Nat.le_refl _) _
        have zD : WD.heap.size = u10.heap.size + 1 := by rw [hWD]; simp
        have HTD : Hid (JS W1 R [.slice (some ⟨b, off + fr, none⟩) m c2, .int .i64 (i7 : Int), .bool false] g cp l WD ∧ EntsAt WD u10.heap.size 0 [en]) := by
          refine ⟨HS10.out.1.call hbD, ?_⟩
          rw [hWD, HEn.out]
          exact ent_box u10 ⟨rw', fam, qual, (ts : Int), (kind : Int), val⟩
        have sD := HTD.out.1.below.size
        clear hbD
        go_wp2_with (at_builtin; rw [← hWD]; refine wpList_append_entA _ rfl _ _ rfl W1.heap.size g cp l.length u10.heap.size 1 1 l [en] rfl rfl rfl rfl ?hO ?hc ?hl ?hb ?_)
        case hO => first | exact HTD.out.1.row | (rw [← hWD]; exact HTD.out.1.row)
        case hc => first | exact HTD.out.2 | (rw [← hWD]; exact HTD.out.2)
        case hl => first | omega | (simp; omega)
        case hb => first | exact sD | omega
        intro g' cp' wE hOE hgrE hatE
        try rw [← hWD] at hgrE
        try rw [← z1] at hOE
        have hatE2 : g' = g ∨ g' = WD.heap.size := by
          rcases hatE with h | h
          · exact .inl h
          · right
            first | exact h | (rw [h, zD])
        have HTE : Hid (JS W1 R [.slice (some ⟨b, off + fr, none⟩) m c2, .int .i64 (i7 : Int), .bool false] g' cp' (l ++ [en]) wE) := HTD.out.1.app hOE hgrE hatE2
        have HEE : Hid (EntsTo count bd (k + 1) (l ++ [en]) (bl rw') (bd.drop i7) ∧ ∀ e ∈ l ++ [en], e.ok) := by
          refine ⟨?_, ?_⟩
          · have h := HET.out.1.more hlt HSome.out
            have hr : en.row = rw' := by rw [HEn.out]
            rw [hr] at h
            exact h
          · intro e he
            rcases List.mem_append.1 he with he | he
            · exact HET.out.2 e he
            · simp at he
              subst he
              refine ok_of_read HVd.out ?_ ?_
              · rw [HEn.out]; show (0 : Int) ≤ (ts : Int); omega
              · rw [HEn.out]; show (ts : Int) < _; omega
        have hr64 : rw'.size ≤ 64 := by
          have h := (vld_parts HVd.out).2.1
          rw [HEn.out] at h
          exact h
        have hle : l.length + 1 = (l ++ [en]).length := by simp
        rw [hle]
        clear hOE hgrE hatE hatE2 hWD HTD sD zD r0 r1 r2 r3 r4 r5 HS10 HSome HRd2
        go_wp2_with fail
        go_roundw
        case rel => exact ⟨k + 1, i7, g', cp', rw', l ++ [en], by simp, rfl, by go_num, HEE.out.1, hi7, hr64, HEE.out.2, HTE.out⟩
        case measure => simp [intOf]; omega
    · obtain rfl : k = count := by omega
      have hl1 : 1 ≤ l.length := by have := HET.out.1.2.1; omega
      obtain ⟨e0, he0⟩ : ∃ e0, l[0]? = some e0 := ⟨_, List.getElem?_eq_getElem (by omega)⟩
      have hrow0 : row0 l = bl e0.row := by
        cases l with
        | nil => simp at he0
        | cons x t => simp at he0; subst he0; rfl
      have c0 : wr.cell? ⟨g, 0, none⟩ = some (.string e0.row) := by
        have := (HJ.out.row.at 0 e0 he0).1
        simpa using this
      have ks := (HKw.out wr HJ.out.below).2.2
      have r1 := HJ.out.box.cell (j := 1) rfl
      have HD : Hid (blkM xs ⟨fr, til, k, row⟩ = if bd.drop i0 ≠ [] ∨ bl e0.row ≠ bl row then (3, []) else (0, l)) := by
        show blkM xs ⟨fr, til, k, row⟩ = _
        rw [HI0.out, HET.out.1.done, ← hrow0]; rfl
      have hdr : (bd.drop i0 = []) ↔ i0 = m := by
        rw [List.drop_eq_nil_iff, HX.out]
        omega
      have HDr : Hid (((bd.drop i0 = []) ↔ i0 = m) ∧ ∀ e ∈ l, e.ok) := ⟨hdr, HET.out.2⟩
      clear hdr hrow0 he0 HET HI0
      have zl : (0 : Int) < (l.length : Int) := by omega
      go_upto_region 40 with fail
      go_cut [144] (fun s wx => ∃ c : Bool, s = .bool c ∧ (c = true ↔ ¬ i0 = m ∨ ¬ e0.row = row) ∧ Below wr.heap.size wr wx)
      case first =>
        by_cases hi : i0 = m
        · subst hi
          by_cases hr : e0.row = row
          · subst hr
            go_region
            all_goals go_wp2_with fail
            all_goals go_meet
            all_goals exact ⟨false, by simp, by simp, (Below.refl _ _).drew⟩
          · have hne : (e0.row.toList == row.toList) = false := by
              rw [beq_eq_false_iff_ne]
              exact fun q => hr (toList_inj q)
            go_region
            all_goals go_wp2_with fail
            all_goals go_meet
            all_goals exact ⟨true, by simp [hne], by simp [hr], (Below.refl _ _).drew⟩
        · have y5 : ¬ (i0 : Int) = (m : Int) := by omega
          have y6 : ((i0 : Int) != (m : Int)) = true := by rw [bne_iff_ne]; exact y5
          go_region
          all_goals go_wp2_with fail
          all_goals go_meet
          all_goals exact ⟨true, by simp, by simp [hi], (Below.refl _ _).drew⟩
      case rest =>
      obtain ⟨c, rfl, hc, hbc⟩ := hcut
      have HJc := HJ.out.call hbc
      have HJ2 : Hid (OwnE wc W1.heap.size g cp l ∧ Below W1.heap.size W1 wc) := ⟨HJc.row, HJc.below⟩
      have sC := HJc.below.size
      clear c0 ks r1 hbc HJc HJ
      cases c with
      | true =>
        have HI : Hid (blkM xs ⟨fr, til, k, row⟩ = (3, [])) := by
          show blkM xs ⟨fr, til, k, row⟩ = (3, [])
          rw [HD.out, if_pos]
          rcases hc.1 rfl with h | h
          · exact .inl (fun q => h (HDr.out.1.1 q))
          · exact .inr (fun q => h (bytes_inj q))
        have HW : Hid (OwnE (wc.alloc (Obj.cells #[] 67)) w.heap.size wc.heap.size 0 [] ∧ Below w.heap.size w (wc.alloc (Obj.cells #[] 67))) := ⟨World.ownsRow_made wc #[] 0 (by omega) (Nat.zero_le _) (by simp), (hb1.trans (HJ2.out.2.mono (by omega))).alloc (by omega) _⟩
        clear hc
        go_wp2_with fail
        go_ret2
        exact ⟨wc.heap.size, 0, 3, [], rfl, HI.out.symm, HW.out.1, fun e he => by simp at he, HW.out.2⟩
      | false =>
        have hcf : ¬ (¬ i0 = m ∨ ¬ e0.row = row) := fun q => by have := hc.2 q; cases this
        have HI : Hid (blkM xs ⟨fr, til, k, row⟩ = (0, l)) := by
          show blkM xs ⟨fr, til, k, row⟩ = (0, l)
          rw [HD.out, if_neg]
          rintro (h | h)
          · exact h (HDr.out.1.2 (Decidable.not_not.1 (fun q => hcf (.inl q))))
          · refine hcf (.inr (fun q => h (by rw [q])))
        have HW : Hid (OwnE wc w.heap.size g cp l ∧ Below w.heap.size w wc) := ⟨OwnE.mono HJ2.out.1 (by omega), hb1.trans (HJ2.out.2.mono (by omega))⟩
        clear hc hcf
        go_wp2_with fail
        go_ret2
        exact ⟨g, cp, 0, l, rfl, HI.out.symm, HW.out.1, HDr.out.2, HW.out.2⟩
end Go.Proofs.YtnncedndlhfdkacDoor

