import Derived.Test.YtjphalbjimggcaeQMapK
/-
  The columns of a list of writes: the model, and the map that holds them.
-/
namespace Go.Proofs.Ytjphalbjimggcae
open Go.ChangeShapes Go.WideShapes Go.ChangeAt Go.RowKit Go.Deep Go.Maps
set_option linter.unusedVariables false
set_option maxRecDepth 100000

/-- What a list of writes leaves of one column. -/
structure CW where
  d : Bool
  u : Int
  f : Int → Option Ent
def cw0 : CW := ⟨false, 0, fun _ => none⟩
def cwAdd (c : CW) (e : Ent) : CW :=
  if e.kind = 2 then ⟨true, max c.u e.ts, c.f⟩
  else if c.d = true ∧ e.ts ≤ c.u then c
  else ⟨c.d, c.u, fun t => if t = e.ts then (if (c.f t).isSome then c.f t else some e) else c.f t⟩
/-- A column's name. -/
abbrev Col := ByteArray × ByteArray × ByteArray
def Ent.wcol (e : Ent) : Col := (e.row, e.fam, e.qual)
def colsOf : List Ent → Col → Option CW
  | [], _ => none
  | w :: rest, c => if c = w.wcol then some (cwAdd ((colsOf rest c).getD cw0) w) else colsOf rest c

def Col.okc (c : Col) : Prop := c.1.size ≤ maxLen ∧ c.2.1.size ≤ maxLen ∧ c.2.2.size ≤ maxLen
abbrev Col.v (c : Col) : Value := colV c.1 c.2.1 c.2.2
def Col.l (c : Col) : Lit := colL c.1 c.2.1 c.2.2
theorem Col.key {c : Col} (h : c.okc) : keyOf Try.prog 85 c.v = some c.l := keyCol h.1 h.2.1 h.2.2
theorem Col.inj {c c' : Col} (h : c.okc) (h' : c'.okc) (e : c.l = c'.l) : c = c' := by
  have h1 := Col.key h
  have h2 := Col.key h'
  rw [← e] at h2
  have := lawCol.inj h1 h2
  obtain ⟨a, b, d⟩ := c
  obtain ⟨a', b', d'⟩ := c'
  simp at this
  obtain ⟨rfl, rfl, rfl⟩ := this
  rfl

/-- The inner map of a column. -/
def Inner (w : World) (base N : Nat) (m : Option Nat) (f : Int → Option Ent) : Prop :=
  (m = none ∧ f = fun _ => none) ∨ ∃ b n, m = some b ∧ Inn w b n f ∧ n ≤ N ∧ base ≤ b
theorem Inner.kept {w w' : World} {base N : Nat} {m : Option Nat} {f : Int → Option Ent} {row : Option Nat} (h : Inner w base N m f) (hg : w.grownBy w' row) (hne : m = none ∨ m ≠ row) : Inner w' base N m f := by
  rcases h with h | ⟨b, n, rfl, h, hn, hb⟩
  · exact .inl h
  · refine .inr ⟨b, n, rfl, h.kept hg ?_, hn, hb⟩
    rcases hne with e | e
    · cases e
    · exact e
theorem Inner.mono {w : World} {base N N' : Nat} {m : Option Nat} {f : Int → Option Ent} (h : Inner w base N m f) (hn : N ≤ N') : Inner w base N' m f := by
  rcases h with h | ⟨b, n, rfl, h, h1, hb⟩
  · exact .inl h
  · exact .inr ⟨b, n, rfl, h, by omega, hb⟩

/-- Block 'B' is the map of the columns 'G'; 'M' says where their inner maps lie. -/
structure Outer (w : World) (base B N : Nat) (G : Col → Option CW) (M : Col → Option Nat) : Prop where
  map : ∃ D, w.ownsMap Try.prog 85 Rh B N D ∧ ∀ c, Col.okc c → (G c = none ∧ Maps.has D c.l = false) ∨ ∃ k, G c = some k ∧ Maps.has D c.l = true ∧ ∀ z, D.atKey c.l z = .held (.agg #[.bool k.d, .int .u64 k.u, .map (M c)])
  inner : ∀ c k, G c = some k → Inner w base N (M c) k.f
  nom : ∀ c, G c = none → M c = none
  apart : ∀ c c' b, M c = some b → M c' = some b → c = c'
  off : ∀ c b, M c = some b → b ≠ B
  ok : ∀ c k, G c = some k → Col.okc c

theorem zeroCW (w : World) : (zeroValue 103).run Try.prog w = .ok (.agg #[.bool false, .int .u64 0, .map none]) w := by kernel_rfl

theorem Outer.look {w : World} {base B N : Nat} {G : Col → Option CW} {M : Col → Option Nat} (h : Outer w base B N G M) {c : Col} (hc : Col.okc c) :
    (Instr.lookup 99 (.map (some B)) c.v false).run Try.prog w = .ok (.agg #[.bool ((G c).getD cw0).d, .int .u64 ((G c).getD cw0).u, .map (M c)]) w := by
  obtain ⟨D, hD, hv⟩ := h.map
  obtain ⟨v, ps, hrun, hR⟩ := hD.lookup lawCol Try.underlying99 (zeroCW w) (zd := .held (.agg #[.bool false, .int .u64 0, .map none])) (zp := []) rfl (Col.key hc)
  have hR' := (Rh_eq hR).1
  rcases hv c hc with ⟨h1, h2⟩ | ⟨k, h1, h2, h3⟩
  · rw [Maps.atKey_of_not_has h2] at hR'
    simp only [DataW.held.injEq] at hR'
    rw [h1, h.nom c h1, hrun, ← hR']; rfl
  · rw [h3] at hR'
    simp only [DataW.held.injEq] at hR'
    rw [h1, hrun, ← hR']; rfl

theorem Outer.lt {w : World} {base B N : Nat} {G : Col → Option CW} {M : Col → Option Nat} (h : Outer w base B N G M) : B < w.heap.size := by
  obtain ⟨D, hD, _⟩ := h.map
  exact hD.lt
theorem Outer.inLt {w : World} {base B N : Nat} {G : Col → Option CW} {M : Col → Option Nat} (h : Outer w base B N G M) {c : Col} {b : Nat} (hb : M c = some b) : b < w.heap.size ∧ base ≤ b := by
  cases hg : G c with
  | none => rw [h.nom c hg] at hb; cases hb
  | some k =>
    rcases h.inner c k hg with ⟨e, _⟩ | ⟨b', n, e, hi, _, hbb⟩
    · rw [e] at hb; cases hb
    · rw [e] at hb
      injection hb with hb
      subst hb
      exact ⟨hi.lt, hbb⟩
theorem Outer.kept {w w' : World} {base B N : Nat} {G : Col → Option CW} {M : Col → Option Nat} (h : Outer w base B N G M) (hg : w.grownBy w' none) : Outer w' base B N G M := by
  obtain ⟨D, hD, hv⟩ := h.map
  exact ⟨⟨D, hD.kept hg (by simp), hv⟩, fun c k hk => (h.inner c k hk).kept hg (by cases M c <;> simp), h.nom, h.apart, h.off, h.ok⟩
theorem Outer.made (w : World) (base : Nat) : Outer (w.alloc (.map #[] 0)) base w.heap.size 0 (fun _ => none) (fun _ => none) :=
  ⟨⟨.map [], World.ownsMap_made w Try.prog 85 Rh, fun c _ => .inl ⟨rfl, rfl⟩⟩, fun c k h => (by cases h), fun _ _ => rfl, fun _ _ _ h => (by cases h), fun _ _ h => (by cases h), fun _ _ h => (by cases h)⟩

theorem Outer.put {w w' : World} {base B N : Nat} {G : Col → Option CW} {M : Col → Option Nat} (h : Outer w base B N G M) {c : Col} (hc : Col.okc c) (hN : N < maxLen) (hg : w.grownBy w' (M c)) (k : CW) (m : Option Nat)
    (hi : Inner w' base (N + 1) m k.f) (hm : m = M c ∨ (M c = none ∧ ∃ b, m = some b ∧ w.heap.size ≤ b)) :
    ∃ w'', (Instr.mapUpdate 99 (.map (some B)) c.v (.agg #[.bool k.d, .int .u64 k.u, .map m])).run Try.prog w' = .ok () w'' ∧
      Outer w'' base B (N + 1) (fun x => if x = c then some k else G x) (fun x => if x = c then m else M x) ∧ w'.grownBy w'' (some B) := by
  obtain ⟨D, hD, hv⟩ := h.map
  have hne : some B ≠ M c := fun q => h.off c B q.symm rfl
  obtain ⟨w'', hrun, ho, hg2⟩ := (hD.kept hg hne).update lawCol Try.underlying99 hN (Col.key hc) (val := .agg #[.bool k.d, .int .u64 k.u, .map m]) (d := .held (.agg #[.bool k.d, .int .u64 k.u, .map m])) (ps := []) rfl
  clear hN
  have hmB : ∀ b, m = some b → b ≠ B := fun b hb => by
    rcases hm with e | ⟨_, b', e, hlt⟩
    · rw [e] at hb; exact h.off c b hb
    · rw [e] at hb
      injection hb with hb
      have := h.lt
      omega
  refine ⟨w'', hrun, ⟨⟨_, ho, fun x hx => ?_⟩, fun x kx hk => ?_, fun x hx => ?_, fun x y b hx hy => ?_, fun x b hx => ?_, fun x kx hk => ?_⟩, hg2⟩
  · by_cases e : x = c
    · subst e
      exact .inr ⟨k, by simp, Maps.has_put_same (hD.kept hg hne).isMap (lawCol.key (Col.key hc)) _, fun z => by rw [if_pos rfl]; exact Maps.atKey_put_same (hD.kept hg hne).isMap (lawCol.key (Col.key hc)) _ z⟩
    · have hl : x.l ≠ c.l := fun q => e (Col.inj hx hc q)
      rcases hv x hx with ⟨h1, h2⟩ | ⟨kk, h1, h2, h3⟩
      · exact .inl ⟨by simp [e, h1], by rw [Maps.has_put_other hl]; exact h2⟩
      · exact .inr ⟨kk, by simp [e, h1], by rw [Maps.has_put_other hl]; exact h2, fun z => by rw [Maps.atKey_put_other hl, if_neg e]; exact h3 z⟩
  · by_cases e : x = c
    · subst e
      simp at hk
      subst hk
      simp only [if_true]
      refine hi.kept hg2 ?_
      cases hq : m with
      | none => exact .inl rfl
      | some b => exact .inr (fun q => hmB b hq (by injection q))
    · simp [e] at hk
      simp only [e, if_false]
      have h0 := h.inner x kx hk
      have h1 : Inner w' base N (M x) kx.f := h0.kept hg (by
        cases hq : M x with
        | none => exact .inl rfl
        | some b => exact .inr (fun q => e (h.apart x c b hq q.symm)))
      refine (h1.kept hg2 ?_).mono (by omega)
      cases hq : M x with
      | none => exact .inl rfl
      | some b => exact .inr (fun q => h.off x b hq (by injection q))
  · by_cases e : x = c
    · simp [e] at hx
    · simp [e] at hx ⊢
      exact h.nom x hx
  · by_cases e : x = c
    · by_cases e' : y = c
      · rw [e, e']
      · simp [e] at hx
        simp [e'] at hy
        rcases hm with q | ⟨_, b', q, hlt⟩
        · rw [q] at hx; rw [e]; exact h.apart c y b hx hy
        · rw [q] at hx
          have hx' : b' = b := Option.some.inj hx
          exact absurd (h.inLt hy).1 (by rw [← hx']; exact Nat.not_lt.2 hlt)
    · by_cases e' : y = c
      · simp [e] at hx
        simp [e'] at hy
        rcases hm with q | ⟨_, b', q, hlt⟩
        · rw [q] at hy; rw [e']; exact h.apart x c b hx hy
        · rw [q] at hy
          have hy' : b' = b := Option.some.inj hy
          exact absurd (h.inLt hx).1 (by rw [← hy']; exact Nat.not_lt.2 hlt)
      · simp [e] at hx
        simp [e'] at hy
        exact h.apart x y b hx hy
  · by_cases e : x = c
    · simp [e] at hx; exact hmB b hx
    · simp [e] at hx; exact h.off x b hx
  · by_cases e : x = c
    · rw [e]; exact hc
    · simp [e] at hk; exact h.ok x kx hk
end Go.Proofs.Ytjphalbjimggcae

/-
  What the columns of a list of writes hold is what its run keeps.
-/
namespace Go.Proofs.Ytjphalbjimggcae
set_option linter.unusedVariables false

theorem sameCol_wcol {a b : Ent} : sameCol a b = true ↔ a.wcol = b.wcol := by
  rw [sameCol_iff]
  unfold Ent.wcol
  simp
theorem kills_of {v e : Ent} (h : kills v e = true) : v.wcol = e.wcol ∧ ((v.kind = 2 ∧ e.ts ≤ v.ts) ∨ (¬ v.kind = 2 ∧ v.ts = e.ts)) := by
  unfold kills at h
  rw [Bool.and_eq_true] at h
  refine ⟨sameCol_wcol.1 h.1, ?_⟩
  by_cases k : v.kind = 2
  · left
    have := h.2
    rw [if_pos (by simp [k])] at this
    exact ⟨k, of_decide_eq_true this⟩
  · right
    have := h.2
    rw [if_neg (by simp [k])] at this
    exact ⟨k, by simpa using this⟩
theorem kills_mk {v e : Ent} (h : v.wcol = e.wcol) (k : (v.kind = 2 ∧ e.ts ≤ v.ts) ∨ (¬ v.kind = 2 ∧ v.ts = e.ts)) : kills v e = true := by
  unfold kills
  rw [sameCol_wcol.2 h, Bool.true_and]
  rcases k with ⟨k, q⟩ | ⟨k, q⟩
  · rw [if_pos (by simp [k])]; simpa using q
  · rw [if_neg (by simp [k])]; simpa using q
theorem stands_succ (w : Ent) (l : List Ent) (i : Nat) : Stands (w :: l) (i + 1) ↔ Stands l i := by
  constructor
  · intro h j v e h1 h2 h3
    exact h (j + 1) v e (by omega) (by simpa using h2) (by simpa using h3)
  · intro h j v e h1 h2 h3
    obtain ⟨j', rfl⟩ : ∃ j', j = j' + 1 := ⟨j - 1, by omega⟩
    exact h j' v e (by omega) (by simpa using h2) (by simpa using h3)
theorem stands_zero (w : Ent) (l : List Ent) : Stands (w :: l) 0 ↔ ∀ v ∈ l, kills v w = false := by
  constructor
  · intro h v hv
    obtain ⟨j, hj⟩ := List.getElem?_of_mem hv
    exact h (j + 1) v w (by omega) (by simpa using hj) rfl
  · intro h j v e h1 h2 h3
    obtain ⟨j', rfl⟩ : ∃ j', j = j' + 1 := ⟨j - 1, by omega⟩
    simp at h2 h3
    subst h3
    exact h v (List.mem_of_getElem? h2)

/-- The deletes of a column. -/
structure DelOk (l : List Ent) (c : Col) (k : CW) : Prop where
  has : k.d = true → ∃ e ∈ l, e.wcol = c ∧ e.kind = 2 ∧ e.ts = k.u
  all : ∀ e ∈ l, e.wcol = c → e.kind = 2 → k.d = true ∧ e.ts ≤ k.u
  zero : k.d = false → k.u = 0
theorem delOk : ∀ (l : List Ent), (∀ e ∈ l, 0 ≤ e.ts) → ∀ c, DelOk l c ((colsOf l c).getD cw0)
  | [], _, c => ⟨fun h => by simp [colsOf, cw0] at h, fun e h => by simp at h, fun _ => rfl⟩
  | w :: l, hp, c => by
    have ih := delOk l (fun e he => hp e (List.mem_cons_of_mem _ he)) c
    have hw := hp w (by simp)
    by_cases hc : c = w.wcol
    · have e1 : (colsOf (w :: l) c).getD cw0 = cwAdd ((colsOf l c).getD cw0) w := by simp [colsOf, hc]
      rw [e1]
      generalize (colsOf l c).getD cw0 = k at *
      unfold cwAdd
      by_cases hk : w.kind = 2
      · rw [if_pos hk]
        refine ⟨fun _ => ?_, fun e he h1 h2 => ?_, fun h => by simp at h⟩
        · by_cases hm : k.u ≤ w.ts
          · exact ⟨w, by simp, hc.symm, hk, by simp [Int.max_eq_right hm]⟩
          · cases hd : k.d with
            | false => have := ih.zero hd; omega
            | true =>
              obtain ⟨e, h1, h2, h3, h4⟩ := ih.has hd
              exact ⟨e, List.mem_cons_of_mem _ h1, h2, h3, by rw [h4]; simp; omega⟩
        · refine ⟨rfl, ?_⟩
          rcases List.mem_cons.1 he with rfl | he
          · simp; omega
          · have := (ih.all e he h1 h2).2
            simp; omega
      · rw [if_neg hk]
        by_cases hd : k.d = true ∧ w.ts ≤ k.u
        · rw [if_pos hd]
          refine ⟨fun h => ?_, fun e he h1 h2 => ?_, ih.zero⟩
          · obtain ⟨e, h1, h2⟩ := ih.has h
            exact ⟨e, List.mem_cons_of_mem _ h1, h2⟩
          · rcases List.mem_cons.1 he with rfl | he
            · exact absurd h2 hk
            · exact ih.all e he h1 h2
        · rw [if_neg hd]
          refine ⟨fun h => ?_, fun e he h1 h2 => ?_, ih.zero⟩
          · obtain ⟨e, h1, h2⟩ := ih.has h
            exact ⟨e, List.mem_cons_of_mem _ h1, h2⟩
          · rcases List.mem_cons.1 he with rfl | he
            · exact absurd h2 hk
            · exact ih.all e he h1 h2
    · have e1 : (colsOf (w :: l) c).getD cw0 = (colsOf l c).getD cw0 := by simp [colsOf, hc]
      rw [e1]
      refine ⟨fun h => ?_, fun e he h1 h2 => ?_, ih.zero⟩
      · obtain ⟨e, h1, h2⟩ := ih.has h
        exact ⟨e, List.mem_cons_of_mem _ h1, h2⟩
      · rcases List.mem_cons.1 he with rfl | he
        · exact absurd h1.symm hc
        · exact ih.all e he h1 h2

/-- A write that no delete of its column covers leaves something at its key. -/
theorem some_left : ∀ (l : List Ent), (∀ e ∈ l, 0 ≤ e.ts) → ∀ c t, (∃ v ∈ l, v.wcol = c ∧ ¬ v.kind = 2 ∧ v.ts = t) → ¬ (((colsOf l c).getD cw0).d = true ∧ t ≤ ((colsOf l c).getD cw0).u) → (((colsOf l c).getD cw0).f t).isSome = true
  | [], _, c, t, ⟨v, hv, _⟩, _ => by simp at hv
  | w :: l, hp, c, t, ⟨v, hv, h1, h2, h3⟩, hn => by
    have ih := some_left l (fun e he => hp e (List.mem_cons_of_mem _ he)) c t
    by_cases hc : c = w.wcol
    · have e1 : (colsOf (w :: l) c).getD cw0 = cwAdd ((colsOf l c).getD cw0) w := by simp [colsOf, hc]
      rw [e1] at hn ⊢
      generalize (colsOf l c).getD cw0 = k at *
      unfold cwAdd at *
      by_cases hk : w.kind = 2
      · rw [if_pos hk] at hn ⊢
        refine ih ⟨v, ?_, h1, h2, h3⟩ (fun q => hn ⟨rfl, ?_⟩)
        · rcases List.mem_cons.1 hv with rfl | hv
          · exact absurd hk h2
          · exact hv
        · have := q.2
          simp; omega
      · rw [if_neg hk] at hn ⊢
        by_cases hd : k.d = true ∧ w.ts ≤ k.u
        · rw [if_pos hd] at hn ⊢
          refine ih ⟨v, ?_, h1, h2, h3⟩ hn
          rcases List.mem_cons.1 hv with rfl | hv
          · exact absurd ⟨hd.1, by rw [← h3]; exact hd.2⟩ hn
          · exact hv
        · rw [if_neg hd] at hn ⊢
          simp only
          by_cases ht : t = w.ts
          · rw [if_pos ht]
            cases hq : (k.f t).isSome <;> simp [hq]
          · rw [if_neg ht]
            refine ih ⟨v, ?_, h1, h2, h3⟩ hn
            rcases List.mem_cons.1 hv with rfl | hv
            · exact absurd h3.symm ht
            · exact hv
    · have e1 : (colsOf (w :: l) c).getD cw0 = (colsOf l c).getD cw0 := by simp [colsOf, hc]
      rw [e1] at hn ⊢
      refine ih ⟨v, ?_, h1, h2, h3⟩ hn
      rcases List.mem_cons.1 hv with rfl | hv
      · exact absurd h1.symm hc
      · exact hv

theorem left_iff : ∀ (l : List Ent), (∀ e ∈ l, 0 ≤ e.ts) → ∀ c t x, ((colsOf l c).getD cw0).f t = some x ↔ (x.wcol = c ∧ x.ts = t ∧ ¬ x.kind = 2 ∧ ∃ i, l[i]? = some x ∧ Stands l i)
  | [], _, c, t, x => by simp [colsOf, cw0]
  | w :: l, hp, c, t, x => by
    have hp' : ∀ e ∈ l, 0 ≤ e.ts := fun e he => hp e (List.mem_cons_of_mem _ he)
    have ih := left_iff l hp' c
    have hdel := delOk l hp' c
    have hsl := some_left l hp' c
    -- what stands at place 0, and behind it
    have hsplit : ∀ x : Ent, (∃ i, (w :: l)[i]? = some x ∧ Stands (w :: l) i) ↔ ((x = w ∧ ∀ v ∈ l, kills v w = false) ∨ ∃ i, l[i]? = some x ∧ Stands l i) := by
      intro x
      constructor
      · rintro ⟨i, h1, h2⟩
        cases i with
        | zero => simp at h1; exact .inl ⟨h1.symm, (stands_zero w l).1 h2⟩
        | succ i => exact .inr ⟨i, by simpa using h1, (stands_succ w l i).1 h2⟩
      · rintro (⟨rfl, h⟩ | ⟨i, h1, h2⟩)
        · exact ⟨0, rfl, (stands_zero x l).2 h⟩
        · exact ⟨i + 1, by simpa using h1, (stands_succ w l i).2 h2⟩
    rw [hsplit]
    by_cases hc : c = w.wcol
    · have e1 : (colsOf (w :: l) c).getD cw0 = cwAdd ((colsOf l c).getD cw0) w := by simp [colsOf, hc]
      rw [e1]
      generalize (colsOf l c).getD cw0 = k at *
      unfold cwAdd
      by_cases hk : w.kind = 2
      · rw [if_pos hk]
        simp only
        rw [ih]
        constructor
        · rintro ⟨h1, h2, h3, h4⟩; exact ⟨h1, h2, h3, .inr h4⟩
        · rintro ⟨h1, h2, h3, h4 | h4⟩
          · rw [h4.1] at h3; exact absurd hk h3
          · exact ⟨h1, h2, h3, h4⟩
      · rw [if_neg hk]
        by_cases hd : k.d = true ∧ w.ts ≤ k.u
        · rw [if_pos hd, ih]
          constructor
          · rintro ⟨h1, h2, h3, h4⟩; exact ⟨h1, h2, h3, .inr h4⟩
          · rintro ⟨h1, h2, h3, h4 | h4⟩
            · exfalso
              obtain ⟨e, g1, g2, g3, g4⟩ := hdel.has hd.1
              have := h4.2 e g1
              rw [kills_mk (g2.trans hc) (.inl ⟨g3, by rw [g4]; exact hd.2⟩)] at this
              cases this
            · exact ⟨h1, h2, h3, h4⟩
        · rw [if_neg hd]
          simp only
          by_cases ht : t = w.ts
          · rw [if_pos ht]
            cases hq : k.f t with
            | some y =>
              simp only [Option.isSome_some, if_true]
              have hy := (ih t y).1 hq
              constructor
              · intro h
                injection h with h
                subst h
                exact ⟨hy.1, hy.2.1, hy.2.2.1, .inr hy.2.2.2⟩
              · rintro ⟨h1, h2, h3, h4 | h4⟩
                · exfalso
                  obtain ⟨i, g1, g2⟩ := hy.2.2.2
                  have := h4.2 y (List.mem_of_getElem? g1)
                  rw [kills_mk (hy.1.trans hc) (.inr ⟨hy.2.2.1, hy.2.1.trans ht⟩)] at this
                  cases this
                · rw [← hq]; exact (ih t x).2 ⟨h1, h2, h3, h4⟩
            | none =>
              simp only [Option.isSome_none, Bool.false_eq_true, if_false]
              constructor
              · intro h
                injection h with h
                subst h
                refine ⟨hc.symm, ht.symm, hk, .inl ⟨rfl, fun v hv => ?_⟩⟩
                cases hkl : kills v w with
                | false => rfl
                | true =>
                  exfalso
                  obtain ⟨g1, g2⟩ := kills_of hkl
                  rcases g2 with ⟨g2, g3⟩ | ⟨g2, g3⟩
                  · have := hdel.all v hv (g1.trans hc.symm) g2
                    exact hd ⟨this.1, by omega⟩
                  · have := hsl t ⟨v, hv, g1.trans hc.symm, g2, g3.trans ht.symm⟩ (fun q => hd ⟨q.1, by rw [← ht]; exact q.2⟩)
                    rw [hq] at this
                    cases this
              · rintro ⟨h1, h2, h3, h4 | h4⟩
                · rw [h4.1]
                · have := (ih t x).2 ⟨h1, h2, h3, h4⟩
                  rw [hq] at this
                  cases this
          · rw [if_neg ht, ih]
            constructor
            · rintro ⟨h1, h2, h3, h4⟩; exact ⟨h1, h2, h3, .inr h4⟩
            · rintro ⟨h1, h2, h3, h4 | h4⟩
              · rw [h4.1] at h2; exact absurd h2.symm ht
              · exact ⟨h1, h2, h3, h4⟩
    · have e1 : (colsOf (w :: l) c).getD cw0 = (colsOf l c).getD cw0 := by simp [colsOf, hc]
      rw [e1, ih]
      constructor
      · rintro ⟨h1, h2, h3, h4⟩; exact ⟨h1, h2, h3, .inr h4⟩
      · rintro ⟨h1, h2, h3, h4 | h4⟩
        · rw [h4.1] at h1; exact absurd h1.symm hc
        · exact ⟨h1, h2, h3, h4⟩

theorem colsOf_mem : ∀ (l : List Ent) (c : Col), (∃ k, colsOf l c = some k) ↔ ∃ e ∈ l, e.wcol = c
  | [], c => by simp [colsOf]
  | w :: l, c => by
    by_cases hc : c = w.wcol
    · simp [colsOf, hc]
    · have := colsOf_mem l c
      simp only [colsOf, hc, if_false]
      rw [this]
      constructor
      · rintro ⟨e, h1, h2⟩; exact ⟨e, List.mem_cons_of_mem _ h1, h2⟩
      · rintro ⟨e, h1, h2⟩
        rcases List.mem_cons.1 h1 with rfl | h1
        · exact absurd h2.symm hc
        · exact ⟨e, h1, h2⟩
end Go.Proofs.Ytjphalbjimggcae

