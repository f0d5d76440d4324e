/-
  Cursors and their heap, without memory: what the least one gives next.
-/
import Derived.Test.YtjphalbjimggcaeQMrgF
import Derived.Test.YtjphalbjimggcaeQRms
import Derived.Sort.LotB
namespace Go.Proofs.Ytjphalbjimggcae
set_option linter.unusedVariables false
set_option linter.unusedSimpArgs false

/-- A cursor: its block, the entries that it holds, its place among them and its age. -/
structure Cu where
  blk : Nat
  r : Rm
  pos : Nat
  age : Nat
instance : Inhabited Cu := ⟨⟨0, ⟨0, 0, 0, []⟩, 0, 0⟩⟩
def Cu.head (c : Cu) : Ent := c.r.es[c.pos]?.getD zeroE
def Cu.rest (c : Cu) : List Ent := c.r.es.drop c.pos
theorem Cu.head_get {c : Cu} (h : c.pos < c.r.es.length) : c.r.es[c.pos]? = some c.head := by
  unfold Cu.head
  rw [List.getElem?_eq_getElem h]; rfl
theorem Cu.rest_cons {c : Cu} (h : c.pos < c.r.es.length) : c.rest = c.head :: c.r.es.drop (c.pos + 1) := by
  unfold Cu.rest
  obtain ⟨h1, h2⟩ := List.getElem?_eq_some_iff.1 (Cu.head_get h)
  rw [← h2]; exact List.drop_eq_getElem_cons h1
def lessC (a b : Cu) : Bool := if keyCmp a.head b.head = 0 then decide (a.age < b.age) else decide (keyCmp a.head b.head < 0)
/-- The heap's order, from the other side. -/
def gtC (a b : Cu) : Bool := lessC b a
theorem lessC_iff {a b : Cu} : lessC a b = true ↔ Lt2 (a.age, a.head) (b.age, b.head) := by
  unfold lessC Lt2
  rcases keyCmp_vals a.head b.head with h | h | h <;> simp [h]
theorem lessC_false {a b : Cu} : lessC a b = false ↔ ¬ Lt2 (a.age, a.head) (b.age, b.head) := by
  rw [← lessC_iff]; simp
theorem lt2_not_trans {p q r : Nat × Ent} (h : ¬ Lt2 p q) (k : ¬ Lt2 q r) : ¬ Lt2 p r := by
  intro hr
  by_cases hpq : p.1 = q.1
  · have h2 := keyCmp_neg p.2 q.2
    rcases keyCmp_vals p.2 q.2 with c | c | c
    · exact h (.inl c)
    · have e := keyCmp_congr c (c := r.2)
      refine k ?_
      rcases hr with g | ⟨g, g'⟩
      · exact .inl (by omega)
      · exact .inr ⟨by omega, by omega⟩
    · exact k (lt2_trans (.inl (by omega)) hr)
  · rcases lt2_total hpq with g | g
    · exact h g
    · exact k (lt2_trans g hr)
theorem swo_gtC : Go.Sort.SWO gtC where
  irrefl := fun x => lessC_false.2 (lt2_irrefl _)
  trans := fun x y z h k => by
    unfold gtC at *
    rw [lessC_iff] at *
    exact lt2_trans k h
  ntrans := fun x y z h k => by
    unfold gtC at *
    rw [lessC_false] at *
    exact lt2_not_trans k h

def sumL (l : List (Nat × List Ent)) : Nat := (l.map fun p => p.2.length).sum
/-- What came and what is still to come. -/
structure Flow (A : Nat → Ent → Prop) (N : Nat) (P : List (Nat × Ent)) (l : List (Nat × List Ent)) : Prop where
  sorted : P.Pairwise Lt2
  ahead : ∀ p ∈ P, ∀ c ∈ l, ∀ x ∈ c.2, Lt2 p (c.1, x)
  all : ∀ a x, A a x ↔ (a, x) ∈ P ∨ ∃ c ∈ l, c.1 = a ∧ x ∈ c.2
  ages : l.Pairwise fun c c' => c.1 ≠ c'.1
  ord : ∀ c ∈ l, Ord c.2
  count : P.length + sumL l = N
theorem Flow.perm {A : Nat → Ent → Prop} {N : Nat} {P : List (Nat × Ent)} {l m : List (Nat × List Ent)} (h : Flow A N P l) (hp : l.Perm m) : Flow A N P m where
  sorted := h.sorted
  ahead := fun p hp' c hc => h.ahead p hp' c (hp.mem_iff.2 hc)
  all := fun a x => (h.all a x).trans (by
    constructor
    · rintro (k | ⟨c, hc, k⟩)
      · exact .inl k
      · exact .inr ⟨c, hp.mem_iff.1 hc, k⟩
    · rintro (k | ⟨c, hc, k⟩)
      · exact .inl k
      · exact .inr ⟨c, hp.mem_iff.2 hc, k⟩)
  ages := (hp.pairwise_iff (fun h => Ne.symm h)).1 h.ages
  ord := fun c hc => h.ord c (hp.mem_iff.2 hc)
  count := by
    have : sumL m = sumL l := ((hp.map (fun p : Nat × List Ent => p.2.length)).sum_nat).symm
    rw [this]; exact h.count
theorem Flow.done {A : Nat → Ent → Prop} {N : Nat} {P : List (Nat × Ent)} (h : Flow A N P []) : ∀ a x, (a, x) ∈ P ↔ A a x := fun a x => by
  rw [h.all]; simp
theorem Flow.next {A : Nat → Ent → Prop} {N : Nat} {P : List (Nat × Ent)} {a : Nat} {e : Ent} {r : List Ent} {l : List (Nat × List Ent)} (h : Flow A N P ((a, e :: r) :: l)) : ∀ p ∈ P, Lt2 p (a, e) :=
  fun p hp => h.ahead p hp (a, e :: r) (by simp) e (by simp)
theorem Flow.step {A : Nat → Ent → Prop} {N : Nat} {P : List (Nat × Ent)} {a : Nat} {e : Ent} {r : List Ent} {l : List (Nat × List Ent)} (h : Flow A N P ((a, e :: r) :: l))
    (hm : ∀ c ∈ l, ∃ y ys, c.2 = y :: ys ∧ ¬ Lt2 (c.1, y) (a, e)) : Flow A N (P ++ [(a, e)]) ((a, r) :: l) where
  sorted := List.pairwise_append.2 ⟨h.sorted, by simp, fun p hp q hq => by simp at hq; subst hq; exact h.next p hp⟩
  ahead := fun p hp c hc x hx => by
    rcases List.mem_append.1 hp with hp | hp
    · rcases List.mem_cons.1 hc with rfl | hc
      · exact h.ahead p hp (a, e :: r) (by simp) x (List.mem_cons_of_mem _ hx)
      · exact h.ahead p hp c (List.mem_cons_of_mem _ hc) x hx
    · simp at hp
      subst hp
      have ho := List.pairwise_cons.1 (h.ord (a, e :: r) (by simp))
      rcases List.mem_cons.1 hc with rfl | hc
      · exact .inl (ho.1 x hx)
      · obtain ⟨y, ys, e1, e2⟩ := hm c hc
        have hne : ¬ a = c.1 := (List.pairwise_cons.1 h.ages).1 c hc
        have h1 : Lt2 (a, e) (c.1, y) := (lt2_total (p := (a, e)) (q := (c.1, y)) hne).resolve_right e2
        rw [e1] at hx
        rcases List.mem_cons.1 hx with rfl | hx
        · exact h1
        · have ho' := h.ord c (List.mem_cons_of_mem _ hc)
          rw [e1] at ho'
          exact lt2_trans h1 (.inl ((List.pairwise_cons.1 ho').1 x hx))
  all := fun b x => (h.all b x).trans (by
    constructor
    · rintro (k | ⟨c, hc, k1, k2⟩)
      · exact .inl (List.mem_append_left _ k)
      · rcases List.mem_cons.1 hc with rfl | hc
        · rcases List.mem_cons.1 k2 with rfl | k2
          · left; simp at k1; subst k1; simp
          · exact .inr ⟨(a, r), by simp, k1, k2⟩
        · exact .inr ⟨c, List.mem_cons_of_mem _ hc, k1, k2⟩
    · rintro (k | ⟨c, hc, k1, k2⟩)
      · rcases List.mem_append.1 k with k | k
        · exact .inl k
        · simp at k
          exact .inr ⟨(a, e :: r), by simp, k.1.symm, by simp [k.2]⟩
      · rcases List.mem_cons.1 hc with rfl | hc
        · exact .inr ⟨(a, e :: r), by simp, k1, List.mem_cons_of_mem _ k2⟩
        · exact .inr ⟨c, List.mem_cons_of_mem _ hc, k1, k2⟩)
  ages := List.pairwise_cons.2 ⟨fun c hc => (List.pairwise_cons.1 h.ages).1 c hc, (List.pairwise_cons.1 h.ages).2⟩
  ord := fun c hc => by
    rcases List.mem_cons.1 hc with rfl | hc
    · exact (List.pairwise_cons.1 (h.ord (a, e :: r) (by simp))).2
    · exact h.ord c (List.mem_cons_of_mem _ hc)
  count := by
    have := h.count
    simp [sumL] at this ⊢
    omega
theorem Flow.drop {A : Nat → Ent → Prop} {N : Nat} {P : List (Nat × Ent)} {a : Nat} {l : List (Nat × List Ent)} (h : Flow A N P ((a, []) :: l)) : Flow A N P l where
  sorted := h.sorted
  ahead := fun p hp c hc => h.ahead p hp c (List.mem_cons_of_mem _ hc)
  all := fun b x => (h.all b x).trans (by simp)
  ages := (List.pairwise_cons.1 h.ages).2
  ord := fun c hc => h.ord c (List.mem_cons_of_mem _ hc)
  count := by
    have := h.count
    simp [sumL] at this ⊢
    omega
end Go.Proofs.Ytjphalbjimggcae
