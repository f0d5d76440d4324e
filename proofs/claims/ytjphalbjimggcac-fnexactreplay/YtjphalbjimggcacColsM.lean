/-
  What the columns of a list of writes hold is what its run keeps.
-/
import Derived.Test.YtjphalbjimggcacCols
namespace Go.Proofs.Ytjphalbjimggcac
set_option linter.unusedVariables false

theorem sameCol_col {a b : Ent} : sameCol a b = true ↔ a.col = b.col := by
  rw [sameCol_iff]
  unfold Ent.col
  simp
theorem kills_of {v e : Ent} (h : kills v e = true) : v.col = e.col ∧ ((v.kind = 2 ∧ e.ts ≤ v.ts) ∨ (¬ v.kind = 2 ∧ v.ts = e.ts)) := by
  unfold kills at h
  rw [Bool.and_eq_true] at h
  refine ⟨sameCol_col.1 h.1, ?_⟩
  by_cases k : v.kind = 2
  · left
    have := h.2
    rw [if_pos (by simp [k])] at this
    exact ⟨k, of_decide_eq_true this⟩
  · right
    have := h.2
    rw [if_neg (by simp [k])] at this
    exact ⟨k, by simpa using this⟩
theorem kills_mk {v e : Ent} (h : v.col = e.col) (k : (v.kind = 2 ∧ e.ts ≤ v.ts) ∨ (¬ v.kind = 2 ∧ v.ts = e.ts)) : kills v e = true := by
  unfold kills
  rw [sameCol_col.2 h, Bool.true_and]
  rcases k with ⟨k, q⟩ | ⟨k, q⟩
  · rw [if_pos (by simp [k])]; simpa using q
  · rw [if_neg (by simp [k])]; simpa using q
theorem stands_succ (w : Ent) (l : List Ent) (i : Nat) : Stands (w :: l) (i + 1) ↔ Stands l i := by
  constructor
  · intro h j v e h1 h2 h3
    exact h (j + 1) v e (by omega) (by simpa using h2) (by simpa using h3)
  · intro h j v e h1 h2 h3
    obtain ⟨j', rfl⟩ : ∃ j', j = j' + 1 := ⟨j - 1, by omega⟩
    exact h j' v e (by omega) (by simpa using h2) (by simpa using h3)
theorem stands_zero (w : Ent) (l : List Ent) : Stands (w :: l) 0 ↔ ∀ v ∈ l, kills v w = false := by
  constructor
  · intro h v hv
    obtain ⟨j, hj⟩ := List.getElem?_of_mem hv
    exact h (j + 1) v w (by omega) (by simpa using hj) rfl
  · intro h j v e h1 h2 h3
    obtain ⟨j', rfl⟩ : ∃ j', j = j' + 1 := ⟨j - 1, by omega⟩
    simp at h2 h3
    subst h3
    exact h v (List.mem_of_getElem? h2)

/-- The deletes of a column. -/
structure DelOk (l : List Ent) (c : Col) (k : CW) : Prop where
  has : k.d = true → ∃ e ∈ l, e.col = c ∧ e.kind = 2 ∧ e.ts = k.u
  all : ∀ e ∈ l, e.col = c → e.kind = 2 → k.d = true ∧ e.ts ≤ k.u
  zero : k.d = false → k.u = 0
theorem delOk : ∀ (l : List Ent), (∀ e ∈ l, 0 ≤ e.ts) → ∀ c, DelOk l c ((colsOf l c).getD cw0)
  | [], _, c => ⟨fun h => by simp [colsOf, cw0] at h, fun e h => by simp at h, fun _ => rfl⟩
  | w :: l, hp, c => by
    have ih := delOk l (fun e he => hp e (List.mem_cons_of_mem _ he)) c
    have hw := hp w (by simp)
    by_cases hc : c = w.col
    · have e1 : (colsOf (w :: l) c).getD cw0 = cwAdd ((colsOf l c).getD cw0) w := by simp [colsOf, hc]
      rw [e1]
      generalize (colsOf l c).getD cw0 = k at *
      unfold cwAdd
      by_cases hk : w.kind = 2
      · rw [if_pos hk]
        refine ⟨fun _ => ?_, fun e he h1 h2 => ?_, fun h => by simp at h⟩
        · by_cases hm : k.u ≤ w.ts
          · exact ⟨w, by simp, hc.symm, hk, by simp [Int.max_eq_right hm]⟩
          · cases hd : k.d with
            | false => have := ih.zero hd; omega
            | true =>
              obtain ⟨e, h1, h2, h3, h4⟩ := ih.has hd
              exact ⟨e, List.mem_cons_of_mem _ h1, h2, h3, by rw [h4]; simp; omega⟩
        · refine ⟨rfl, ?_⟩
          rcases List.mem_cons.1 he with rfl | he
          · simp; omega
          · have := (ih.all e he h1 h2).2
            simp; omega
      · rw [if_neg hk]
        by_cases hd : k.d = true ∧ w.ts ≤ k.u
        · rw [if_pos hd]
          refine ⟨fun h => ?_, fun e he h1 h2 => ?_, ih.zero⟩
          · obtain ⟨e, h1, h2⟩ := ih.has h
            exact ⟨e, List.mem_cons_of_mem _ h1, h2⟩
          · rcases List.mem_cons.1 he with rfl | he
            · exact absurd h2 hk
            · exact ih.all e he h1 h2
        · rw [if_neg hd]
          refine ⟨fun h => ?_, fun e he h1 h2 => ?_, ih.zero⟩
          · obtain ⟨e, h1, h2⟩ := ih.has h
            exact ⟨e, List.mem_cons_of_mem _ h1, h2⟩
          · rcases List.mem_cons.1 he with rfl | he
            · exact absurd h2 hk
            · exact ih.all e he h1 h2
    · have e1 : (colsOf (w :: l) c).getD cw0 = (colsOf l c).getD cw0 := by simp [colsOf, hc]
      rw [e1]
      refine ⟨fun h => ?_, fun e he h1 h2 => ?_, ih.zero⟩
      · obtain ⟨e, h1, h2⟩ := ih.has h
        exact ⟨e, List.mem_cons_of_mem _ h1, h2⟩
      · rcases List.mem_cons.1 he with rfl | he
        · exact absurd h1.symm hc
        · exact ih.all e he h1 h2

/-- A write that no delete of its column covers leaves something at its key. -/
theorem some_left : ∀ (l : List Ent), (∀ e ∈ l, 0 ≤ e.ts) → ∀ c t, (∃ v ∈ l, v.col = c ∧ ¬ v.kind = 2 ∧ v.ts = t) → ¬ (((colsOf l c).getD cw0).d = true ∧ t ≤ ((colsOf l c).getD cw0).u) → (((colsOf l c).getD cw0).f t).isSome = true
  | [], _, c, t, ⟨v, hv, _⟩, _ => by simp at hv
  | w :: l, hp, c, t, ⟨v, hv, h1, h2, h3⟩, hn => by
    have ih := some_left l (fun e he => hp e (List.mem_cons_of_mem _ he)) c t
    by_cases hc : c = w.col
    · have e1 : (colsOf (w :: l) c).getD cw0 = cwAdd ((colsOf l c).getD cw0) w := by simp [colsOf, hc]
      rw [e1] at hn ⊢
      generalize (colsOf l c).getD cw0 = k at *
      unfold cwAdd at *
      by_cases hk : w.kind = 2
      · rw [if_pos hk] at hn ⊢
        refine ih ⟨v, ?_, h1, h2, h3⟩ (fun q => hn ⟨rfl, ?_⟩)
        · rcases List.mem_cons.1 hv with rfl | hv
          · exact absurd hk h2
          · exact hv
        · have := q.2
          simp; omega
      · rw [if_neg hk] at hn ⊢
        by_cases hd : k.d = true ∧ w.ts ≤ k.u
        · rw [if_pos hd] at hn ⊢
          refine ih ⟨v, ?_, h1, h2, h3⟩ hn
          rcases List.mem_cons.1 hv with rfl | hv
          · exact absurd ⟨hd.1, by rw [← h3]; exact hd.2⟩ hn
          · exact hv
        · rw [if_neg hd] at hn ⊢
          simp only
          by_cases ht : t = w.ts
          · rw [if_pos ht]
            cases hq : (k.f t).isSome <;> simp [hq]
          · rw [if_neg ht]
            refine ih ⟨v, ?_, h1, h2, h3⟩ hn
            rcases List.mem_cons.1 hv with rfl | hv
            · exact absurd h3.symm ht
            · exact hv
    · have e1 : (colsOf (w :: l) c).getD cw0 = (colsOf l c).getD cw0 := by simp [colsOf, hc]
      rw [e1] at hn ⊢
      refine ih ⟨v, ?_, h1, h2, h3⟩ hn
      rcases List.mem_cons.1 hv with rfl | hv
      · exact absurd h1.symm hc
      · exact hv

theorem left_iff : ∀ (l : List Ent), (∀ e ∈ l, 0 ≤ e.ts) → ∀ c t x, ((colsOf l c).getD cw0).f t = some x ↔ (x.col = c ∧ x.ts = t ∧ ¬ x.kind = 2 ∧ ∃ i, l[i]? = some x ∧ Stands l i)
  | [], _, c, t, x => by simp [colsOf, cw0]
  | w :: l, hp, c, t, x => by
    have hp' : ∀ e ∈ l, 0 ≤ e.ts := fun e he => hp e (List.mem_cons_of_mem _ he)
    have ih := left_iff l hp' c
    have hdel := delOk l hp' c
    have hsl := some_left l hp' c
    -- what stands at place 0, and behind it
    have hsplit : ∀ x : Ent, (∃ i, (w :: l)[i]? = some x ∧ Stands (w :: l) i) ↔ ((x = w ∧ ∀ v ∈ l, kills v w = false) ∨ ∃ i, l[i]? = some x ∧ Stands l i) := by
      intro x
      constructor
      · rintro ⟨i, h1, h2⟩
        cases i with
        | zero => simp at h1; exact .inl ⟨h1.symm, (stands_zero w l).1 h2⟩
        | succ i => exact .inr ⟨i, by simpa using h1, (stands_succ w l i).1 h2⟩
      · rintro (⟨rfl, h⟩ | ⟨i, h1, h2⟩)
        · exact ⟨0, rfl, (stands_zero x l).2 h⟩
        · exact ⟨i + 1, by simpa using h1, (stands_succ w l i).2 h2⟩
    rw [hsplit]
    by_cases hc : c = w.col
    · have e1 : (colsOf (w :: l) c).getD cw0 = cwAdd ((colsOf l c).getD cw0) w := by simp [colsOf, hc]
      rw [e1]
      generalize (colsOf l c).getD cw0 = k at *
      unfold cwAdd
      by_cases hk : w.kind = 2
      · rw [if_pos hk]
        simp only
        rw [ih]
        constructor
        · rintro ⟨h1, h2, h3, h4⟩; exact ⟨h1, h2, h3, .inr h4⟩
        · rintro ⟨h1, h2, h3, h4 | h4⟩
          · rw [h4.1] at h3; exact absurd hk h3
          · exact ⟨h1, h2, h3, h4⟩
      · rw [if_neg hk]
        by_cases hd : k.d = true ∧ w.ts ≤ k.u
        · rw [if_pos hd, ih]
          constructor
          · rintro ⟨h1, h2, h3, h4⟩; exact ⟨h1, h2, h3, .inr h4⟩
          · rintro ⟨h1, h2, h3, h4 | h4⟩
            · exfalso
              obtain ⟨e, g1, g2, g3, g4⟩ := hdel.has hd.1
              have := h4.2 e g1
              rw [kills_mk (g2.trans hc) (.inl ⟨g3, by rw [g4]; exact hd.2⟩)] at this
              cases this
            · exact ⟨h1, h2, h3, h4⟩
        · rw [if_neg hd]
          simp only
          by_cases ht : t = w.ts
          · rw [if_pos ht]
            cases hq : k.f t with
            | some y =>
              simp only [Option.isSome_some, if_true]
              have hy := (ih t y).1 hq
              constructor
              · intro h
                injection h with h
                subst h
                exact ⟨hy.1, hy.2.1, hy.2.2.1, .inr hy.2.2.2⟩
              · rintro ⟨h1, h2, h3, h4 | h4⟩
                · exfalso
                  obtain ⟨i, g1, g2⟩ := hy.2.2.2
                  have := h4.2 y (List.mem_of_getElem? g1)
                  rw [kills_mk (hy.1.trans hc) (.inr ⟨hy.2.2.1, hy.2.1.trans ht⟩)] at this
                  cases this
                · rw [← hq]; exact (ih t x).2 ⟨h1, h2, h3, h4⟩
            | none =>
              simp only [Option.isSome_none, Bool.false_eq_true, if_false]
              constructor
              · intro h
                injection h with h
                subst h
                refine ⟨hc.symm, ht.symm, hk, .inl ⟨rfl, fun v hv => ?_⟩⟩
                cases hkl : kills v w with
                | false => rfl
                | true =>
                  exfalso
                  obtain ⟨g1, g2⟩ := kills_of hkl
                  rcases g2 with ⟨g2, g3⟩ | ⟨g2, g3⟩
                  · have := hdel.all v hv (g1.trans hc.symm) g2
                    exact hd ⟨this.1, by omega⟩
                  · have := hsl t ⟨v, hv, g1.trans hc.symm, g2, g3.trans ht.symm⟩ (fun q => hd ⟨q.1, by rw [← ht]; exact q.2⟩)
                    rw [hq] at this
                    cases this
              · rintro ⟨h1, h2, h3, h4 | h4⟩
                · rw [h4.1]
                · have := (ih t x).2 ⟨h1, h2, h3, h4⟩
                  rw [hq] at this
                  cases this
          · rw [if_neg ht, ih]
            constructor
            · rintro ⟨h1, h2, h3, h4⟩; exact ⟨h1, h2, h3, .inr h4⟩
            · rintro ⟨h1, h2, h3, h4 | h4⟩
              · rw [h4.1] at h2; exact absurd h2.symm ht
              · exact ⟨h1, h2, h3, h4⟩
    · have e1 : (colsOf (w :: l) c).getD cw0 = (colsOf l c).getD cw0 := by simp [colsOf, hc]
      rw [e1, ih]
      constructor
      · rintro ⟨h1, h2, h3, h4⟩; exact ⟨h1, h2, h3, .inr h4⟩
      · rintro ⟨h1, h2, h3, h4 | h4⟩
        · rw [h4.1] at h1; exact absurd h1.symm hc
        · exact ⟨h1, h2, h3, h4⟩

theorem colsOf_mem : ∀ (l : List Ent) (c : Col), (∃ k, colsOf l c = some k) ↔ ∃ e ∈ l, e.col = c
  | [], c => by simp [colsOf]
  | w :: l, c => by
    by_cases hc : c = w.col
    · simp [colsOf, hc]
    · have := colsOf_mem l c
      simp only [colsOf, hc, if_false]
      rw [this]
      constructor
      · rintro ⟨e, h1, h2⟩; exact ⟨e, List.mem_cons_of_mem _ h1, h2⟩
      · rintro ⟨e, h1, h2⟩
        rcases List.mem_cons.1 h1 with rfl | h1
        · exact absurd h2.symm hc
        · exact ⟨e, h1, h2⟩
end Go.Proofs.Ytjphalbjimggcac
