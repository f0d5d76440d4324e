import Derived.Maps.AppendAt
import Derived.Laws.IdiomRangeMap
import Derived.Sort.Grow
import Derived.Shelf.SlSortCmp.WholeK
import Derived.Ground.SlsfProg
import Derived.Test.YtnncedndlhfdkabChecked
import Derived.Test.YtnncedndlhfdkabPkAB
/-
  The columns of a list of writes: the model, and the map that holds them.
-/
namespace Go.Proofs.Ytnncedndlhfdkab
open Go.ChangeShapes Go.WideShapes Go.ChangeAt Go.RowKit Go.Deep Go.Maps
set_option linter.unusedVariables false
set_option maxRecDepth 100000

/-- What a list of writes leaves of one column. -/
structure CW where
  d : Bool
  u : Int
  f : Int → Option Ent
def cw0 : CW := ⟨false, 0, fun _ => none⟩
def cwAdd (c : CW) (e : Ent) : CW :=
  if e.kind = 2 then ⟨true, max c.u e.ts, c.f⟩
  else if c.d = true ∧ e.ts ≤ c.u then c
  else ⟨c.d, c.u, fun t => if t = e.ts then (if (c.f t).isSome then c.f t else some e) else c.f t⟩
/-- A column's name. -/
abbrev Col := ByteArray × ByteArray × ByteArray
def Ent.wcol (e : Ent) : Col := (e.row, e.fam, e.qual)
def colsOf : List Ent → Col → Option CW
  | [], _ => none
  | w :: rest, c => if c = w.wcol then some (cwAdd ((colsOf rest c).getD cw0) w) else colsOf rest c

def Col.okc (c : Col) : Prop := c.1.size ≤ maxLen ∧ c.2.1.size ≤ maxLen ∧ c.2.2.size ≤ maxLen
abbrev Col.v (c : Col) : Value := colV c.1 c.2.1 c.2.2
def Col.l (c : Col) : Lit := colL c.1 c.2.1 c.2.2
theorem Col.key {c : Col} (h : c.okc) : keyOf Try.prog 84 c.v = some c.l := keyCol h.1 h.2.1 h.2.2
theorem Col.inj {c c' : Col} (h : c.okc) (h' : c'.okc) (e : c.l = c'.l) : c = c' := by
  have h1 := Col.key h
  have h2 := Col.key h'
  rw [← e] at h2
  have := lawCol.inj h1 h2
  obtain ⟨a, b, d⟩ := c
  obtain ⟨a', b', d'⟩ := c'
  simp at this
  obtain ⟨rfl, rfl, rfl⟩ := this
  rfl

/-- The inner map of a column. -/
def Inner (w : World) (base N : Nat) (m : Option Nat) (f : Int → Option Ent) : Prop :=
  (m = none ∧ f = fun _ => none) ∨ ∃ b n, m = some b ∧ Inn w b n f ∧ n ≤ N ∧ base ≤ b
theorem Inner.kept {w w' : World} {base N : Nat} {m : Option Nat} {f : Int → Option Ent} {row : Option Nat} (h : Inner w base N m f) (hg : w.grownBy w' row) (hne : m = none ∨ m ≠ row) : Inner w' base N m f := by
  rcases h with h | ⟨b, n, rfl, h, hn, hb⟩
  · exact .inl h
  · refine .inr ⟨b, n, rfl, h.kept hg ?_, hn, hb⟩
    rcases hne with e | e
    · cases e
    · exact e
theorem Inner.mono {w : World} {base N N' : Nat} {m : Option Nat} {f : Int → Option Ent} (h : Inner w base N m f) (hn : N ≤ N') : Inner w base N' m f := by
  rcases h with h | ⟨b, n, rfl, h, h1, hb⟩
  · exact .inl h
  · exact .inr ⟨b, n, rfl, h, by omega, hb⟩

/-- Block 'B' is the map of the columns 'G'; 'M' says where their inner maps lie. -/
structure Outer (w : World) (base B N : Nat) (G : Col → Option CW) (M : Col → Option Nat) : Prop where
  map : ∃ D, w.ownsMap Try.prog 84 Rh B N D ∧ ∀ c, Col.okc c → (G c = none ∧ Maps.has D c.l = false) ∨ ∃ k, G c = some k ∧ Maps.has D c.l = true ∧ ∀ z, D.atKey c.l z = .held (.agg #[.bool k.d, .int .u64 k.u, .map (M c)])
  inner : ∀ c k, G c = some k → Inner w base N (M c) k.f
  nom : ∀ c, G c = none → M c = none
  apart : ∀ c c' b, M c = some b → M c' = some b → c = c'
  off : ∀ c b, M c = some b → b ≠ B
  ok : ∀ c k, G c = some k → Col.okc c

theorem zeroCW (w : World) : (zeroValue 87).run Try.prog w = .ok (.agg #[.bool false, .int .u64 0, .map none]) w := by kernel_rfl

theorem Outer.look {w : World} {base B N : Nat} {G : Col → Option CW} {M : Col → Option Nat} (h : Outer w base B N G M) {c : Col} (hc : Col.okc c) :
    (Instr.lookup 81 (.map (some B)) c.v false).run Try.prog w = .ok (.agg #[.bool ((G c).getD cw0).d, .int .u64 ((G c).getD cw0).u, .map (M c)]) w := by
  obtain ⟨D, hD, hv⟩ := h.map
  obtain ⟨v, ps, hrun, hR⟩ := hD.lookup lawCol Try.underlying81 (zeroCW w) (zd := .held (.agg #[.bool false, .int .u64 0, .map none])) (zp := []) rfl (Col.key hc)
  have hR' := (Rh_eq hR).1
  rcases hv c hc with ⟨h1, h2⟩ | ⟨k, h1, h2, h3⟩
  · rw [Maps.atKey_of_not_has h2] at hR'
    simp only [DataW.held.injEq] at hR'
    rw [h1, h.nom c h1, hrun, ← hR']; rfl
  · rw [h3] at hR'
    simp only [DataW.held.injEq] at hR'
    rw [h1, hrun, ← hR']; rfl

theorem Outer.lt {w : World} {base B N : Nat} {G : Col → Option CW} {M : Col → Option Nat} (h : Outer w base B N G M) : B < w.heap.size := by
  obtain ⟨D, hD, _⟩ := h.map
  exact hD.lt
theorem Outer.inLt {w : World} {base B N : Nat} {G : Col → Option CW} {M : Col → Option Nat} (h : Outer w base B N G M) {c : Col} {b : Nat} (hb : M c = some b) : b < w.heap.size ∧ base ≤ b := by
  cases hg : G c with
  | none => rw [h.nom c hg] at hb; cases hb
  | some k =>
    rcases h.inner c k hg with ⟨e, _⟩ | ⟨b', n, e, hi, _, hbb⟩
    · rw [e] at hb; cases hb
    · rw [e] at hb
      injection hb with hb
      subst hb
      exact ⟨hi.lt, hbb⟩
theorem Outer.kept {w w' : World} {base B N : Nat} {G : Col → Option CW} {M : Col → Option Nat} (h : Outer w base B N G M) (hg : w.grownBy w' none) : Outer w' base B N G M := by
  obtain ⟨D, hD, hv⟩ := h.map
  exact ⟨⟨D, hD.kept hg (by simp), hv⟩, fun c k hk => (h.inner c k hk).kept hg (by cases M c <;> simp), h.nom, h.apart, h.off, h.ok⟩
theorem Outer.made (w : World) (base : Nat) : Outer (w.alloc (.map #[] 0)) base w.heap.size 0 (fun _ => none) (fun _ => none) :=
  ⟨⟨.map [], World.ownsMap_made w Try.prog 84 Rh, fun c _ => .inl ⟨rfl, rfl⟩⟩, fun c k h => (by cases h), fun _ _ => rfl, fun _ _ _ h => (by cases h), fun _ _ h => (by cases h), fun _ _ h => (by cases h)⟩

theorem Outer.put {w w' : World} {base B N : Nat} {G : Col → Option CW} {M : Col → Option Nat} (h : Outer w base B N G M) {c : Col} (hc : Col.okc c) (hN : N < maxLen) (hg : w.grownBy w' (M c)) (k : CW) (m : Option Nat)
    (hi : Inner w' base (N + 1) m k.f) (hm : m = M c ∨ (M c = none ∧ ∃ b, m = some b ∧ w.heap.size ≤ b)) :
    ∃ w'', (Instr.mapUpdate 81 (.map (some B)) c.v (.agg #[.bool k.d, .int .u64 k.u, .map m])).run Try.prog w' = .ok () w'' ∧
      Outer w'' base B (N + 1) (fun x => if x = c then some k else G x) (fun x => if x = c then m else M x) ∧ w'.grownBy w'' (some B) := by
  obtain ⟨D, hD, hv⟩ := h.map
  have hne : some B ≠ M c := fun q => h.off c B q.symm rfl
  obtain ⟨w'', hrun, ho, hg2⟩ := (hD.kept hg hne).update lawCol Try.underlying81 hN (Col.key hc) (val := .agg #[.bool k.d, .int .u64 k.u, .map m]) (d := .held (.agg #[.bool k.d, .int .u64 k.u, .map m])) (ps := []) rfl
  clear hN
  have hmB : ∀ b, m = some b → b ≠ B := fun b hb => by
    rcases hm with e | ⟨_, b', e, hlt⟩
    · rw [e] at hb; exact h.off c b hb
    · rw [e] at hb
      injection hb with hb
      have := h.lt
      omega
  refine ⟨w'', hrun, ⟨⟨_, ho, fun x hx => ?_⟩, fun x kx hk => ?_, fun x hx => ?_, fun x y b hx hy => ?_, fun x b hx => ?_, fun x kx hk => ?_⟩, hg2⟩
  · by_cases e : x = c
    · subst e
      exact .inr ⟨k, by simp, Maps.has_put_same (hD.kept hg hne).isMap (lawCol.key (Col.key hc)) _, fun z => by rw [if_pos rfl]; exact Maps.atKey_put_same (hD.kept hg hne).isMap (lawCol.key (Col.key hc)) _ z⟩
    · have hl : x.l ≠ c.l := fun q => e (Col.inj hx hc q)
      rcases hv x hx with ⟨h1, h2⟩ | ⟨kk, h1, h2, h3⟩
      · exact .inl ⟨by simp [e, h1], by rw [Maps.has_put_other hl]; exact h2⟩
      · exact .inr ⟨kk, by simp [e, h1], by rw [Maps.has_put_other hl]; exact h2, fun z => by rw [Maps.atKey_put_other hl, if_neg e]; exact h3 z⟩
  · by_cases e : x = c
    · subst e
      simp at hk
      subst hk
      simp only [if_true]
      refine hi.kept hg2 ?_
      cases hq : m with
      | none => exact .inl rfl
      | some b => exact .inr (fun q => hmB b hq (by injection q))
    · simp [e] at hk
      simp only [e, if_false]
      have h0 := h.inner x kx hk
      have h1 : Inner w' base N (M x) kx.f := h0.kept hg (by
        cases hq : M x with
        | none => exact .inl rfl
        | some b => exact .inr (fun q => e (h.apart x c b hq q.symm)))
      refine (h1.kept hg2 ?_).mono (by omega)
      cases hq : M x with
      | none => exact .inl rfl
      | some b => exact .inr (fun q => h.off x b hq (by injection q))
  · by_cases e : x = c
    · simp [e] at hx
    · simp [e] at hx ⊢
      exact h.nom x hx
  · by_cases e : x = c
    · by_cases e' : y = c
      · rw [e, e']
      · simp [e] at hx
        simp [e'] at hy
        rcases hm with q | ⟨_, b', q, hlt⟩
        · rw [q] at hx; rw [e]; exact h.apart c y b hx hy
        · rw [q] at hx
          have hx' : b' = b := Option.some.inj hx
          exact absurd (h.inLt hy).1 (by rw [← hx']; exact Nat.not_lt.2 hlt)
    · by_cases e' : y = c
      · simp [e] at hx
        simp [e'] at hy
        rcases hm with q | ⟨_, b', q, hlt⟩
        · rw [q] at hy; rw [e']; exact h.apart x c b hx hy
        · rw [q] at hy
          have hy' : b' = b := Option.some.inj hy
          exact absurd (h.inLt hx).1 (by rw [← hy']; exact Nat.not_lt.2 hlt)
      · simp [e] at hx
        simp [e'] at hy
        exact h.apart x y b hx hy
  · by_cases e : x = c
    · simp [e] at hx; exact hmB b hx
    · simp [e] at hx; exact h.off x b hx
  · by_cases e : x = c
    · rw [e]; exact hc
    · simp [e] at hk; exact h.ok x kx hk
end Go.Proofs.Ytnncedndlhfdkab

/-
  What the columns of a list of writes hold is what its run keeps.
-/
namespace Go.Proofs.Ytnncedndlhfdkab
set_option linter.unusedVariables false

theorem sameCol_wcol {a b : Ent} : sameCol a b = true ↔ a.wcol = b.wcol := by
  rw [sameCol_iff]
  unfold Ent.wcol
  simp
theorem kills_of {v e : Ent} (h : kills v e = true) : v.wcol = e.wcol ∧ ((v.kind = 2 ∧ e.ts ≤ v.ts) ∨ (¬ v.kind = 2 ∧ v.ts = e.ts)) := by
  unfold kills at h
  rw [Bool.and_eq_true] at h
  refine ⟨sameCol_wcol.1 h.1, ?_⟩
  by_cases k : v.kind = 2
  · left
    have := h.2
    rw [if_pos (by simp [k])] at this
    exact ⟨k, of_decide_eq_true this⟩
  · right
    have := h.2
    rw [if_neg (by simp [k])] at this
    exact ⟨k, by simpa using this⟩
theorem kills_mk {v e : Ent} (h : v.wcol = e.wcol) (k : (v.kind = 2 ∧ e.ts ≤ v.ts) ∨ (¬ v.kind = 2 ∧ v.ts = e.ts)) : kills v e = true := by
  unfold kills
  rw [sameCol_wcol.2 h, Bool.true_and]
  rcases k with ⟨k, q⟩ | ⟨k, q⟩
  · rw [if_pos (by simp [k])]; simpa using q
  · rw [if_neg (by simp [k])]; simpa using q
theorem stands_succ (w : Ent) (l : List Ent) (i : Nat) : Stands (w :: l) (i + 1) ↔ Stands l i := by
  constructor
  · intro h j v e h1 h2 h3
    exact h (j + 1) v e (by omega) (by simpa using h2) (by simpa using h3)
  · intro h j v e h1 h2 h3
    obtain ⟨j', rfl⟩ : ∃ j', j = j' + 1 := ⟨j - 1, by omega⟩
    exact h j' v e (by omega) (by simpa using h2) (by simpa using h3)
theorem stands_zero (w : Ent) (l : List Ent) : Stands (w :: l) 0 ↔ ∀ v ∈ l, kills v w = false := by
  constructor
  · intro h v hv
    obtain ⟨j, hj⟩ := List.getElem?_of_mem hv
    exact h (j + 1) v w (by omega) (by simpa using hj) rfl
  · intro h j v e h1 h2 h3
    obtain ⟨j', rfl⟩ : ∃ j', j = j' + 1 := ⟨j - 1, by omega⟩
    simp at h2 h3
    subst h3
    exact h v (List.mem_of_getElem? h2)

/-- The deletes of a column. -/
structure DelOk (l : List Ent) (c : Col) (k : CW) : Prop where
  has : k.d = true → ∃ e ∈ l, e.wcol = c ∧ e.kind = 2 ∧ e.ts = k.u
  all : ∀ e ∈ l, e.wcol = c → e.kind = 2 → k.d = true ∧ e.ts ≤ k.u
  zero : k.d = false → k.u = 0
theorem delOk : ∀ (l : List Ent), (∀ e ∈ l, 0 ≤ e.ts) → ∀ c, DelOk l c ((colsOf l c).getD cw0)
  | [], _, c => ⟨fun h => by simp [colsOf, cw0] at h, fun e h => by simp at h, fun _ => rfl⟩
  | w :: l, hp, c => by
    have ih := delOk l (fun e he => hp e (List.mem_cons_of_mem _ he)) c
    have hw := hp w (by simp)
    by_cases hc : c = w.wcol
    · have e1 : (colsOf (w :: l) c).getD cw0 = cwAdd ((colsOf l c).getD cw0) w := by simp [colsOf, hc]
      rw [e1]
      generalize (colsOf l c).getD cw0 = k at *
      unfold cwAdd
      by_cases hk : w.kind = 2
      · rw [if_pos hk]
        refine ⟨fun _ => ?_, fun e he h1 h2 => ?_, fun h => by simp at h⟩
        · by_cases hm : k.u ≤ w.ts
          · exact ⟨w, by simp, hc.symm, hk, by simp [Int.max_eq_right hm]⟩
          · cases hd : k.d with
            | false => have := ih.zero hd; omega
            | true =>
              obtain ⟨e, h1, h2, h3, h4⟩ := ih.has hd
              exact ⟨e, List.mem_cons_of_mem _ h1, h2, h3, by rw [h4]; simp; omega⟩
        · refine ⟨rfl, ?_⟩
          rcases List.mem_cons.1 he with rfl | he
          · simp; omega
          · have := (ih.all e he h1 h2).2
            simp; omega
      · rw [if_neg hk]
        by_cases hd : k.d = true ∧ w.ts ≤ k.u
        · rw [if_pos hd]
          refine ⟨fun h => ?_, fun e he h1 h2 => ?_, ih.zero⟩
          · obtain ⟨e, h1, h2⟩ := ih.has h
            exact ⟨e, List.mem_cons_of_mem _ h1, h2⟩
          · rcases List.mem_cons.1 he with rfl | he
            · exact absurd h2 hk
            · exact ih.all e he h1 h2
        · rw [if_neg hd]
          refine ⟨fun h => ?_, fun e he h1 h2 => ?_, ih.zero⟩
          · obtain ⟨e, h1, h2⟩ := ih.has h
            exact ⟨e, List.mem_cons_of_mem _ h1, h2⟩
          · rcases List.mem_cons.1 he with rfl | he
            · exact absurd h2 hk
            · exact ih.all e he h1 h2
    · have e1 : (colsOf (w :: l) c).getD cw0 = (colsOf l c).getD cw0 := by simp [colsOf, hc]
      rw [e1]
      refine ⟨fun h => ?_, fun e he h1 h2 => ?_, ih.zero⟩
      · obtain ⟨e, h1, h2⟩ := ih.has h
        exact ⟨e, List.mem_cons_of_mem _ h1, h2⟩
      · rcases List.mem_cons.1 he with rfl | he
        · exact absurd h1.symm hc
        · exact ih.all e he h1 h2

/-- A write that no delete of its column covers leaves something at its key. -/
theorem some_left : ∀ (l : List Ent), (∀ e ∈ l, 0 ≤ e.ts) → ∀ c t, (∃ v ∈ l, v.wcol = c ∧ ¬ v.kind = 2 ∧ v.ts = t) → ¬ (((colsOf l c).getD cw0).d = true ∧ t ≤ ((colsOf l c).getD cw0).u) → (((colsOf l c).getD cw0).f t).isSome = true
  | [], _, c, t, ⟨v, hv, _⟩, _ => by simp at hv
  | w :: l, hp, c, t, ⟨v, hv, h1, h2, h3⟩, hn => by
    have ih := some_left l (fun e he => hp e (List.mem_cons_of_mem _ he)) c t
    by_cases hc : c = w.wcol
    · have e1 : (colsOf (w :: l) c).getD cw0 = cwAdd ((colsOf l c).getD cw0) w := by simp [colsOf, hc]
      rw [e1] at hn ⊢
      generalize (colsOf l c).getD cw0 = k at *
      unfold cwAdd at *
      by_cases hk : w.kind = 2
      · rw [if_pos hk] at hn ⊢
        refine ih ⟨v, ?_, h1, h2, h3⟩ (fun q => hn ⟨rfl, ?_⟩)
        · rcases List.mem_cons.1 hv with rfl | hv
          · exact absurd hk h2
          · exact hv
        · have := q.2
          simp; omega
      · rw [if_neg hk] at hn ⊢
        by_cases hd : k.d = true ∧ w.ts ≤ k.u
        · rw [if_pos hd] at hn ⊢
          refine ih ⟨v, ?_, h1, h2, h3⟩ hn
          rcases List.mem_cons.1 hv with rfl | hv
          · exact absurd ⟨hd.1, by rw [← h3]; exact hd.2⟩ hn
          · exact hv
        · rw [if_neg hd] at hn ⊢
          simp only
          by_cases ht : t = w.ts
          · rw [if_pos ht]
            cases hq : (k.f t).isSome <;> simp [hq]
          · rw [if_neg ht]
            refine ih ⟨v, ?_, h1, h2, h3⟩ hn
            rcases List.mem_cons.1 hv with rfl | hv
            · exact absurd h3.symm ht
            · exact hv
    · have e1 : (colsOf (w :: l) c).getD cw0 = (colsOf l c).getD cw0 := by simp [colsOf, hc]
      rw [e1] at hn ⊢
      refine ih ⟨v, ?_, h1, h2, h3⟩ hn
      rcases List.mem_cons.1 hv with rfl | hv
      · exact absurd h1.symm hc
      · exact hv

theorem left_iff : ∀ (l : List Ent), (∀ e ∈ l, 0 ≤ e.ts) → ∀ c t x, ((colsOf l c).getD cw0).f t = some x ↔ (x.wcol = c ∧ x.ts = t ∧ ¬ x.kind = 2 ∧ ∃ i, l[i]? = some x ∧ Stands l i)
  | [], _, c, t, x => by simp [colsOf, cw0]
  | w :: l, hp, c, t, x => by
    have hp' : ∀ e ∈ l, 0 ≤ e.ts := fun e he => hp e (List.mem_cons_of_mem _ he)
    have ih := left_iff l hp' c
    have hdel := delOk l hp' c
    have hsl := some_left l hp' c
    -- what stands at place 0, and behind it
    have hsplit : ∀ x : Ent, (∃ i, (w :: l)[i]? = some x ∧ Stands (w :: l) i) ↔ ((x = w ∧ ∀ v ∈ l, kills v w = false) ∨ ∃ i, l[i]? = some x ∧ Stands l i) := by
      intro x
      constructor
      · rintro ⟨i, h1, h2⟩
        cases i with
        | zero => simp at h1; exact .inl ⟨h1.symm, (stands_zero w l).1 h2⟩
        | succ i => exact .inr ⟨i, by simpa using h1, (stands_succ w l i).1 h2⟩
      · rintro (⟨rfl, h⟩ | ⟨i, h1, h2⟩)
        · exact ⟨0, rfl, (stands_zero x l).2 h⟩
        · exact ⟨i + 1, by simpa using h1, (stands_succ w l i).2 h2⟩
    rw [hsplit]
    by_cases hc : c = w.wcol
    · have e1 : (colsOf (w :: l) c).getD cw0 = cwAdd ((colsOf l c).getD cw0) w := by simp [colsOf, hc]
      rw [e1]
      generalize (colsOf l c).getD cw0 = k at *
      unfold cwAdd
      by_cases hk : w.kind = 2
      · rw [if_pos hk]
        simp only
        rw [ih]
        constructor
        · rintro ⟨h1, h2, h3, h4⟩; exact ⟨h1, h2, h3, .inr h4⟩
        · rintro ⟨h1, h2, h3, h4 | h4⟩
          · rw [h4.1] at h3; exact absurd hk h3
          · exact ⟨h1, h2, h3, h4⟩
      · rw [if_neg hk]
        by_cases hd : k.d = true ∧ w.ts ≤ k.u
        · rw [if_pos hd, ih]
          constructor
          · rintro ⟨h1, h2, h3, h4⟩; exact ⟨h1, h2, h3, .inr h4⟩
          · rintro ⟨h1, h2, h3, h4 | h4⟩
            · exfalso
              obtain ⟨e, g1, g2, g3, g4⟩ := hdel.has hd.1
              have := h4.2 e g1
              rw [kills_mk (g2.trans hc) (.inl ⟨g3, by rw [g4]; exact hd.2⟩)] at this
              cases this
            · exact ⟨h1, h2, h3, h4⟩
        · rw [if_neg hd]
          simp only
          by_cases ht : t = w.ts
          · rw [if_pos ht]
            cases hq : k.f t with
            | some y =>
              simp only [Option.isSome_some, if_true]
              have hy := (ih t y).1 hq
              constructor
              · intro h
                injection h with h
                subst h
                exact ⟨hy.1, hy.2.1, hy.2.2.1, .inr hy.2.2.2⟩
              · rintro ⟨h1, h2, h3, h4 | h4⟩
                · exfalso
                  obtain ⟨i, g1, g2⟩ := hy.2.2.2
                  have := h4.2 y (List.mem_of_getElem? g1)
                  rw [kills_mk (hy.1.trans hc) (.inr ⟨hy.2.2.1, hy.2.1.trans ht⟩)] at this
                  cases this
                · rw [← hq]; exact (ih t x).2 ⟨h1, h2, h3, h4⟩
            | none =>
              simp only [Option.isSome_none, Bool.false_eq_true, if_false]
              constructor
              · intro h
                injection h with h
                subst h
                refine ⟨hc.symm, ht.symm, hk, .inl ⟨rfl, fun v hv => ?_⟩⟩
                cases hkl : kills v w with
                | false => rfl
                | true =>
                  exfalso
                  obtain ⟨g1, g2⟩ := kills_of hkl
                  rcases g2 with ⟨g2, g3⟩ | ⟨g2, g3⟩
                  · have := hdel.all v hv (g1.trans hc.symm) g2
                    exact hd ⟨this.1, by omega⟩
                  · have := hsl t ⟨v, hv, g1.trans hc.symm, g2, g3.trans ht.symm⟩ (fun q => hd ⟨q.1, by rw [← ht]; exact q.2⟩)
                    rw [hq] at this
                    cases this
              · rintro ⟨h1, h2, h3, h4 | h4⟩
                · rw [h4.1]
                · have := (ih t x).2 ⟨h1, h2, h3, h4⟩
                  rw [hq] at this
                  cases this
          · rw [if_neg ht, ih]
            constructor
            · rintro ⟨h1, h2, h3, h4⟩; exact ⟨h1, h2, h3, .inr h4⟩
            · rintro ⟨h1, h2, h3, h4 | h4⟩
              · rw [h4.1] at h2; exact absurd h2.symm ht
              · exact ⟨h1, h2, h3, h4⟩
    · have e1 : (colsOf (w :: l) c).getD cw0 = (colsOf l c).getD cw0 := by simp [colsOf, hc]
      rw [e1, ih]
      constructor
      · rintro ⟨h1, h2, h3, h4⟩; exact ⟨h1, h2, h3, .inr h4⟩
      · rintro ⟨h1, h2, h3, h4 | h4⟩
        · rw [h4.1] at h1; exact absurd h1.symm hc
        · exact ⟨h1, h2, h3, h4⟩

theorem colsOf_mem : ∀ (l : List Ent) (c : Col), (∃ k, colsOf l c = some k) ↔ ∃ e ∈ l, e.wcol = c
  | [], c => by simp [colsOf]
  | w :: l, c => by
    by_cases hc : c = w.wcol
    · simp [colsOf, hc]
    · have := colsOf_mem l c
      simp only [colsOf, hc, if_false]
      rw [this]
      constructor
      · rintro ⟨e, h1, h2⟩; exact ⟨e, List.mem_cons_of_mem _ h1, h2⟩
      · rintro ⟨e, h1, h2⟩
        rcases List.mem_cons.1 h1 with rfl | h1
        · exact absurd h2.symm hc
        · exact ⟨e, h1, h2⟩
end Go.Proofs.Ytnncedndlhfdkab

/-
  impl.appendEntries: what a column leaves, appended.
-/
namespace Go.Proofs.Ytnncedndlhfdkab
open Go.ChangeShapes Go.WideShapes Go.ChangeAt Go.RowKit Go.Deep Go.Maps
set_option linter.unusedVariables false
set_option maxRecDepth 100000

/-- One entry appended to a row of the call's own: and where the row then lies. -/
theorem wpList_append_entAt {ops : Array Oper} {rest : List Oper} {o : Oper} {a : Act} {Q : Exit → Act → World → Prop} (w : World) (hgd : o.guard = none) (s x : Operand)
    (ho : o.op = .call { callee := .builtin .append, args := #[s, x], argTypes := #[27, 27] })
    (base g cp n blk : Nat) (fs : List Ent) (e : Ent) (hs : a.eval s = .slice (some ⟨g, 0, none⟩) n cp) (hx : a.eval x = .slice (some ⟨blk, 0, none⟩) 1 1) (hn : n = fs.length) (hO : OwnE w base g cp fs)
    (hc : EntsAt w blk 0 [e]) (hlen : fs.length ≤ 2 ^ 30) (hbase : base ≤ w.heap.size)
    (h : ∀ g' cp' w', OwnE w' base g' cp' (fs ++ [e]) → w.grownBy w' (some g) → (g' = g ∨ g' = w.heap.size) → wpList Try.prog ops Q rest (a.put o.dst (.slice (some ⟨g', 0, none⟩) (n + 1) cp')) w') : wpList Try.prog ops Q (o :: rest) a w := by
  obtain ⟨i, hi, hz0, hz1, hz2⟩ := info_parts Try.infoEnt
  subst hn
  obtain ⟨c0, c1, c2, c3, c4, c5⟩ := hc 0 e rfl
  refine wpList_append_own_at w hgd s x 27 ho base 62 i _ 6 80 Try.underlying27 hi hz0 hz1 hz2 rfl (by decide) (.slice (some ⟨g, 0, none⟩) fs.length cp) fs.length (cellsE fs) hs hO ⟨blk, 0, none⟩ 1 1 (cellsE [e]) hx rfl ?_ ?_ ?_ ?_ hbase ?_
  · intro j u hu
    have hj : j < 6 := by
      have := (List.getElem?_eq_some_iff.1 hu).1
      rw [length_cellsE] at this
      simpa using this
    rw [Addr.add_mid, Nat.zero_add]
    simp only [Nat.zero_mul, Nat.zero_add] at c0 c1 c2 c3 c4 c5
    match j, hj, hu with
    | 0, _, hu => simp [cellsE] at hu; rw [← hu]; exact c0
    | 1, _, hu => simp [cellsE] at hu; rw [← hu]; exact c1
    | 2, _, hu => simp [cellsE] at hu; rw [← hu]; exact c2
    | 3, _, hu => simp [cellsE] at hu; rw [← hu]; exact c3
    | 4, _, hu => simp [cellsE] at hu; rw [← hu]; exact c4
    | 5, _, hu => simp [cellsE] at hu; rw [← hu]; exact c5
  · intro u hu
    simp [cellsE] at hu
    rcases hu with rfl | rfl | rfl | rfl | rfl | rfl <;> rfl
  · unfold maxLen; omega
  · omega
  · intro v' w' hown hgr hnil hloc
    rw [← cellsE_append] at hown
    have hlen' : (fs ++ [e]).length = fs.length + 1 := by simp
    rcases hown.2 with ⟨hv, _⟩ | ⟨g', cap', cur, hv, h1, h2, h3⟩
    · have := (hnil.1 hv).1
      simp at this
    · subst hv
      refine h g' cap' w' (by unfold OwnE; rw [hlen']; exact hown) hgr ?_
      rcases hloc with q | q
      · exact .inl (Option.some.inj q)
      · exact .inr (Option.some.inj q)

theorem OwnE.kept {w w' : World} {base g cp : Nat} {fs : List Ent} {row : Option Nat} (h : OwnE w base g cp fs) (hg : w.grownBy w' row) (hne : some g ≠ row) : OwnE w' base g cp fs :=
  World.ownsRow.kept h hg (.inr hne)
theorem OwnE.ne_map {w : World} {base g cp b : Nat} {fs : List Ent} {es : Array MapEntry} {ck : Nat} (h : OwnE w base g cp fs) (hb : w.heap[b]? = some (.map es ck)) : g ≠ b := by
  rcases h.2 with ⟨h0, _⟩ | ⟨g', cap', cur, hv, _, hc, _⟩
  · cases h0
  · simp only [Value.slice.injEq, Option.some.injEq, Addr.mk.injEq, and_true, true_and] at hv
    obtain ⟨rfl, rfl⟩ := hv
    intro q
    rw [q, hb] at hc
    cases hc

/-- The delete that a column's state tells. -/
def delE (c : Col) (u : Int) : Ent := ⟨c.1, c.2.1, c.2.2, u, 2, ⟨#[]⟩⟩
def del0 (d : Bool) (c : Col) (u : Int) : List Ent := if d = true then [delE c u] else []

set_option maxHeartbeats 4000000 in
set_option maxRecDepth 100000 in
theorem appendE_none (d : Bool) (u : Int) (c : Col) (base g cp : Nat) (fs : List Ent) (w : World) (hO : OwnE w base g cp fs) (hlen : fs.length ≤ 2 ^ 28) (hbase : base ≤ w.heap.size) :
    Calls Try.prog 53 #[.agg #[.bool d, .int .u64 u, .map none], .slice (some ⟨g, 0, none⟩) fs.length cp, c.v] w fun r w' =>
      ∃ g' cp', r = .returned (.slice (some ⟨g', 0, none⟩) (fs ++ del0 d c u).length cp') ∧ OwnE w' base g' cp' (fs ++ del0 d c u) ∧ w.grownBy w' (some g) ∧ (g' = g ∨ w.heap.size ≤ g') := by
  have hg := hO.lt
  have HO : Hid (OwnE w base g cp fs) := hO
  clear hO
  obtain ⟨r, f, q⟩ := c
  unfold Col.v colV
  simp only
  cases d
  · have hrg := run_range_nilMap (P := Try.prog) ((w.alloc (Obj.cells #[.bool false, .int .u64 u, .map none] 87)).alloc (Obj.cells #[.string r, .string f, .string q] 84)) 85 _ _ Try.underlying85
    have hnx : ∀ ty, (Instr.next (.pointer (some ⟨((w.alloc (Obj.cells #[.bool false, .int .u64 u, .map none] 87)).alloc (Obj.cells #[.string r, .string f, .string q] 84)).heap.size, 0, none⟩)) false ty).run Try.prog (((w.alloc (Obj.cells #[.bool false, .int .u64 u, .map none] 87)).alloc (Obj.cells #[.string r, .string f, .string q] 84)).alloc (.mapIter none 0 #[] 0)) = _ := fun ty => run_next_nilMap _ ty 0 0 #[]
    have e1 : ((w.alloc (Obj.cells #[.bool false, .int .u64 u, .map none] 87)).alloc (Obj.cells #[.string r, .string f, .string q] 84)).heap.size = w.heap.size + 1 + 1 := by simp
    rw [e1] at hrg hnx
    clear e1
    go_enter Try.func53, Try.ntmps53
    go_wp2_with fail
    go_loopw [1] (fun s wr => s = .slice (some ⟨g, 0, none⟩) fs.length cp ∧ wr = (((w.alloc (Obj.cells #[.bool false, .int .u64 u, .map none] 87)).alloc (Obj.cells #[.string r, .string f, .string q] 84)).alloc (.mapIter none 0 #[] 0))) (fun _ _ => 0)
    case atStart => exact ⟨rfl, rfl⟩
    case round =>
      obtain ⟨rfl, rfl⟩ := hrel
      go_wp2_with fail
      go_ret
      have hb : Below w.heap.size w (((w.alloc (Obj.cells #[.bool false, .int .u64 u, .map none] 87)).alloc (Obj.cells #[.string r, .string f, .string q] 84)).alloc (.mapIter none 0 #[] 0)) := (((Below.refl _ _).alloc (Nat.le_refl _) _).alloc (by simp) _).alloc (by simp; omega) _
      refine ⟨g, cp, by simp [del0], ?_, grown_of_below hb _, .inl rfl⟩
      simp only [del0, List.append_nil, Bool.false_eq_true, if_false]
      exact HO.out.below hb hg.2
  · have hrg : ∀ W : World, (Instr.range 85 (.map none)).run Try.prog W = .ok (.pointer (some ⟨W.heap.size, 0, none⟩)) (W.alloc (.mapIter none 0 #[] 0)) := fun W => run_range_nilMap (P := Try.prog) W 85 _ _ Try.underlying85
    have hnx : ∀ (W : World) ty, (Instr.next (.pointer (some ⟨W.heap.size, 0, none⟩)) false ty).run Try.prog (W.alloc (.mapIter none 0 #[] 0)) = .ok (.tuple #[.bool false]) (W.alloc (.mapIter none 0 #[] 0)) := fun W ty => run_next_nilMap W ty 0 0 #[]
    go_enter Try.func53, Try.ntmps53
    go_wp2_with (at_builtin; refine wpList_append_entAt _ rfl _ _ rfl base g cp _ _ fs (delE (r, f, q) u) rfl rfl rfl ?hO ?hc ?hl ?hb ?_)
    case hO => exact HO.out.below ((((Below.refl _ _).alloc (Nat.le_refl _) _).alloc (by simp) _).alloc (by simp; omega) _) hg.2
    case hc =>
      have h := ent_new ((w.alloc (Obj.cells #[.bool true, .int .u64 u, .map none] 87)).alloc (Obj.cells #[.string r, .string f, .string q] 84)) (delE (r, f, q) u)
      simpa [delE] using h
    case hl => omega
    case hb => simp; omega
    intro g' cp' w' hO' hgr hloc
    have hb3 : Below w.heap.size w (((w.alloc (Obj.cells #[.bool true, .int .u64 u, .map none] 87)).alloc (Obj.cells #[.string r, .string f, .string q] 84)).alloc (Obj.cells #[.string r, .string f, .string q, .int .u64 u, .int .i64 2, .string ⟨#[]⟩] 62)) := (((Below.refl _ _).alloc (Nat.le_refl _) _).alloc (by simp) _).alloc (by simp; omega) _
    have c2 : w'.cell? ⟨w.heap.size, 2, none⟩ = some (.map none) := by
      have hk := hgr.block w.heap.size (by simp; omega) (fun q => by injection q; omega)
      rw [World.cell?_of_block (a := ⟨w.heap.size, 2, none⟩) hk]
      go_simp
    have hgw : w.grownBy w' (some g) := ⟨hgr.os.trans hb3.os, hgr.tape.trans hb3.tape, hgr.output.trans hb3.output, Nat.le_trans hb3.size hgr.size, fun j hj hne => (hgr.block j (by simp; omega) hne).trans (hb3.block j hj)⟩
    have HO' : Hid (OwnE w' base g' cp' (fs ++ [delE (r, f, q) u]) ∧ w.grownBy w' (some g) ∧ (g' = g ∨ w.heap.size ≤ g')) := ⟨hO', hgw, hloc.imp id (fun q => by first | omega | (rw [q]; omega) | (rw [q]; simp; omega))⟩
    clear hO' hgr hloc hb3 hgw
    go_wp2_with fail
    go_loopw [1] (fun s wr => s = .slice (some ⟨g', 0, none⟩) (fs.length + 1) cp' ∧ wr = w'.alloc (.mapIter none 0 #[] 0)) (fun _ _ => 0)
    case atStart => exact ⟨rfl, rfl⟩
    case round =>
      obtain ⟨rfl, rfl⟩ := hrel
      go_wp2_with fail
      go_ret
      have hb : Below w'.heap.size w' (w'.alloc (.mapIter none 0 #[] 0)) := (Below.refl _ _).alloc (Nat.le_refl _) _
      refine ⟨g', cp', by simp [del0], ?_, HO'.out.2.1.trans (grown_of_below hb _), HO'.out.2.2⟩
      simp only [del0, if_true]
      exact HO'.out.1.below hb HO'.out.1.lt.2

/-- The entries that a map from timestamps holds. -/
def Holds6 (F : Int → Option Ent) (S : List Ent) : Prop := (∀ x, x ∈ S ↔ ∃ t, (Lit.int .u64 t).wf = true ∧ F t = some x) ∧ S.Nodup
def HoldsTo (F : Int → Option Ent) (left : Lit → Bool) (S : List Ent) : Prop := (∀ x, x ∈ S ↔ ∃ t, (Lit.int .u64 t).wf = true ∧ F t = some x ∧ left (.int .u64 t) = false) ∧ S.Nodup
theorem holdsTo_step {F : Int → Option Ent} {left : Lit → Bool} {S : List Ent} {t : Int} {e : Ent} (h : HoldsTo F left S) (hts : ∀ t e, F t = some e → e.ts = t) (hw : (Lit.int .u64 t).wf = true) (he : F t = some e) (hl : left (.int .u64 t) = true) :
    HoldsTo F (fun z => left z && !z.sameKey (.int .u64 t)) (S ++ [e]) := by
  have hkey : WideAt.IsKeyLit (.int .u64 t) := lawTs.key (keyTs hw)
  have hne : e ∉ S := fun hm => by
    obtain ⟨t', h1, h2, h3⟩ := (h.1 e).1 hm
    have : t' = t := (hts t' e h2).symm.trans (hts t e he)
    subst this
    rw [hl] at h3
    cases h3
  refine ⟨fun x => ?_, ?_⟩
  · rw [List.mem_append, h.1 x]
    constructor
    · rintro (⟨t', h1, h2, h3⟩ | hx)
      · exact ⟨t', h1, h2, by simp [h3]⟩
      · simp at hx
        subst hx
        exact ⟨t, hw, he, by simp [Lit.sameKey]⟩
    · rintro ⟨t', h1, h2, h3⟩
      by_cases q : t' = t
      · subst q
        rw [he] at h2
        simp at h2
        right; simp [h2]
      · left
        have hs : (Lit.int .u64 t').sameKey (.int .u64 t) = false := Maps.sameKey_ne (fun e => q (by injection e))
        refine ⟨t', h1, h2, ?_⟩
        simpa [hs] using h3
  · rw [List.nodup_append]
    exact ⟨h.2, by simp, fun a ha b hb => by simp at hb; subst hb; exact fun q => hne (q ▸ ha)⟩

set_option maxHeartbeats 4000000 in
set_option maxRecDepth 100000 in
theorem appendE_some (d : Bool) (u : Int) (c : Col) (b n base g cp : Nat) (F : Int → Option Ent) (fs : List Ent) (w : World) (hI : Inn w b n F) (hts : ∀ t e, F t = some e → e.ts = t) (hO : OwnE w base g cp fs) (hlen : fs.length ≤ 2 ^ 28) (hn : n ≤ 2 ^ 20) (hbase : base ≤ w.heap.size) :
    Calls Try.prog 53 #[.agg #[.bool d, .int .u64 u, .map (some b)], .slice (some ⟨g, 0, none⟩) fs.length cp, c.v] w fun r w' =>
      ∃ g' cp' S, r = .returned (.slice (some ⟨g', 0, none⟩) (fs ++ del0 d c u ++ S).length cp') ∧ OwnE w' base g' cp' (fs ++ del0 d c u ++ S) ∧ Holds6 F S ∧ w.grownBy w' (some g) ∧ (g' = g ∨ w.heap.size ≤ g') ∧ S.length ≤ n := by
  have hg := hO.lt
  have hbl := hI.lt
  have HO : Hid (OwnE w base g cp fs ∧ Inn w b n F ∧ ∀ t e, F t = some e → e.ts = t) := ⟨hO, hI, hts⟩
  have hgb : g ≠ b := by
    obtain ⟨D, ⟨es, ck, hh, _⟩, _⟩ := hI
    exact hO.ne_map hh
  clear hO hI hts
  obtain ⟨r, f, q⟩ := c
  unfold Col.v colV
  simp only
  go_enter Try.func53, Try.ntmps53
  go_upto_if 10 with fail
  go_cut [1] (fun s wx => ∃ g1 cp1, s = .slice (some ⟨g1, 0, none⟩) (fs ++ del0 d (r, f, q) u).length cp1 ∧ OwnE wx base g1 cp1 (fs ++ del0 d (r, f, q) u) ∧ w.grownBy wx (some g) ∧ (g1 = g ∨ w.heap.size ≤ g1) ∧ wx.cell? ⟨w.heap.size, 2, none⟩ = some (.map (some b)) ∧ w.heap.size + 2 ≤ wx.heap.size)
  case first =>
    cases d
    · go_wp2_with fail
      go_meet
      have hb2 : Below w.heap.size w ((w.alloc (Obj.cells #[.bool false, .int .u64 u, .map (some b)] 87)).alloc (Obj.cells #[.string r, .string f, .string q] 84)) := ((Below.refl _ _).alloc (Nat.le_refl _) _).alloc (by simp) _
      refine ⟨g, cp, by simp [del0], ?_, grown_of_below hb2 _, .inl rfl, by go_simp, by simp⟩
      simp only [del0, List.append_nil, Bool.false_eq_true, if_false]
      exact HO.out.1.below hb2 hg.2
    · go_wp2_with (at_builtin; refine wpList_append_entAt _ rfl _ _ rfl base g cp _ _ fs (delE (r, f, q) u) rfl rfl rfl ?hO ?hc ?hl ?hb ?_)
      case hO => exact HO.out.1.below ((((Below.refl _ _).alloc (Nat.le_refl _) _).alloc (by simp) _).alloc (by simp; omega) _) hg.2
      case hc =>
        have h := ent_new ((w.alloc (Obj.cells #[.bool true, .int .u64 u, .map (some b)] 87)).alloc (Obj.cells #[.string r, .string f, .string q] 84)) (delE (r, f, q) u)
        simpa [delE] using h
      case hl => omega
      case hb => simp; omega
      intro g' cp' w' hO' hgr hloc
      have hb3 : Below w.heap.size w (((w.alloc (Obj.cells #[.bool true, .int .u64 u, .map (some b)] 87)).alloc (Obj.cells #[.string r, .string f, .string q] 84)).alloc (Obj.cells #[.string r, .string f, .string q, .int .u64 u, .int .i64 2, .string ⟨#[]⟩] 62)) := (((Below.refl _ _).alloc (Nat.le_refl _) _).alloc (by simp) _).alloc (by simp; omega) _
      have c2 : w'.cell? ⟨w.heap.size, 2, none⟩ = some (.map (some b)) := by
        have hk := hgr.block w.heap.size (by simp; omega) (fun q => by injection q; omega)
        rw [World.cell?_of_block (a := ⟨w.heap.size, 2, none⟩) hk]
        go_simp
      have hgw : w.grownBy w' (some g) := ⟨hgr.os.trans hb3.os, hgr.tape.trans hb3.tape, hgr.output.trans hb3.output, Nat.le_trans hb3.size hgr.size, fun j hj hne => (hgr.block j (by simp; omega) hne).trans (hb3.block j hj)⟩
      have HO' : Hid (OwnE w' base g' cp' (fs ++ [delE (r, f, q) u]) ∧ w.grownBy w' (some g) ∧ (g' = g ∨ w.heap.size ≤ g') ∧ w.heap.size + 2 ≤ w'.heap.size) := ⟨hO', hgw, hloc.imp id (fun q => by first | omega | (rw [q]; omega) | (rw [q]; simp; omega)), by have := hgr.size; simp at this; omega⟩
      clear hO' hgr hloc hb3 hgw
      go_wp2_with fail
      go_meet
      refine ⟨g', cp', by simp [del0], ?_, HO'.out.2.1, HO'.out.2.2.1, c2, HO'.out.2.2.2⟩
      simp only [del0, if_true]
      exact HO'.out.1
  case rest =>
  obtain ⟨g1, cp1, rfl, hO1, hgw, hloc, c2, hsz⟩ := hcut
  obtain ⟨D, hD, hv⟩ := HO.out.2.1.kept hgw (fun q => hgb (Option.some.inj q).symm)
  obtain ⟨fs1, hfs1⟩ : ∃ fs1 : List Ent, fs1 = fs ++ del0 d (r, f, q) u := ⟨_, rfl⟩
  rw [← hfs1] at hO1 ⊢
  have hfl : fs1.length ≤ 2 ^ 28 + 1 := by
    rw [hfs1]; unfold del0; split <;> simp <;> omega
  have HO1 : Hid (OwnE wc base g1 cp1 fs1 ∧ w.grownBy wc (some g) ∧ (g1 = g ∨ w.heap.size ≤ g1)) := ⟨hO1, hgw, hloc⟩
  have HV : Hid (∀ t, (Lit.int .u64 t).wf = true → (F t = none ∧ Maps.has D (.int .u64 t) = false) ∨ ∃ e, F t = some e ∧ Maps.has D (.int .u64 t) = true ∧ ∀ z, D.atKey (.int .u64 t) z = .held e.v) := hv
  have hsd := hD.size_le
  have hbw := hD.lt
  have HFS : Hid (fs1 = fs ++ del0 d (r, f, q) u) := hfs1
  have hg1 := hO1.lt
  have hgs := hgw.size
  clear hv hfs1 hO1 hgw hloc
  go_wp2_with (at_range; refine wpList_range_own _ rfl _ 85 rfl 60 62 lawTs Try.underlying85 Rh b n D rfl hD ?_; intro w0 hrg0 hg0 hs0)
  go_frame
  have HS0 : Hid (HoldsTo F (Maps.has D) []) := by
    refine ⟨fun x => ⟨fun h => by simp at h, ?_⟩, List.nodup_nil⟩
    rintro ⟨t, h1, h2, h3⟩
    rcases HV.out t h1 with ⟨q1, _⟩ | ⟨e, _, q2, _⟩
    · rw [q1] at h2; cases h2
    · rw [q2] at h3; cases h3
  have hgb1 : g1 ≠ b := by
    obtain ⟨es, ck, hh, _⟩ := hD
    exact HO1.out.1.ne_map hh
  go_loopw [1] (fun s wr => ∃ (left : Lit → Bool) (cnt : Nat) (S : List Ent) (g2 cp2 : Nat), s = .slice (some ⟨g2, 0, none⟩) (fs1.length + S.length) cp2 ∧ OwnE wr base g2 cp2 (fs1 ++ S) ∧ wr.ranges Try.prog 60 Rh b wc.heap.size n D left cnt ∧ HoldsTo F left S ∧ S.length + cnt ≤ n ∧ w.grownBy wr (some g) ∧ (g2 = g ∨ w.heap.size ≤ g2) ∧ g2 ≠ b ∧ g2 ≠ wc.heap.size) (fun _ wr => wr.rangeLeft b wc.heap.size)
  case atStart =>
    exact ⟨Maps.has D, Maps.size D, [], g1, cp1, by simp, by rw [List.append_nil]; exact HO1.out.1.kept hg0 (by simp), hrg0, HS0.out, by simpa using hsd, HO1.out.2.1.trans (hg0.but _), HO1.out.2.2, hgb1, by omega⟩
  case round =>
    obtain ⟨left, cnt, S, g2, cp2, rfl, hO2, hrg, hH, hcn, hgr2, hloc2, hne1, hne2⟩ := hrel
    have HR : Hid (OwnE wr base g2 cp2 (fs1 ++ S) ∧ HoldsTo F left S ∧ w.grownBy wr (some g) ∧ (g2 = g ∨ w.heap.size ≤ g2)) := ⟨hO2, hH, hgr2, hloc2⟩
    have hg2 := hO2.lt
    have hs2 := hgr2.size
    have hrl := hrg.lt
    clear hO2 hH hgr2 hloc2
    go_wp2_with (at_next; refine wpList_next_ranges _ rfl _ rfl 60 lawTs Rh (fun t : Int => Value.int .u64 t) (fun v : Value => v) (fun key kl h => by obtain ⟨x, h1, _⟩ := Maps.keyOf_int_inv Try.underlying60 h; exact ⟨x, h1⟩) (fun v y _ => ⟨v, rfl⟩) b wc.heap.size n D left cnt rfl hrg ?_ ?_)
    · intro h0 hl
      have HL : Hid (∀ kl, left kl = false) := hl
      clear hl
      go_wp2_with fail
      go_ret
      refine ⟨g2, cp2, S, ?_, ?_, ?_, HR.out.2.2.1, HR.out.2.2.2, by omega⟩
      · rw [← HFS.out, List.length_append]; rfl
      · rw [← HFS.out]; exact HR.out.1
      · refine ⟨fun x => (HR.out.2.1.1 x).trans ⟨fun ⟨t, a1, a2, _⟩ => ⟨t, a1, a2⟩, fun ⟨t, a1, a2⟩ => ⟨t, a1, a2, HL.out _⟩⟩, HR.out.2.1.2⟩
    · intro x c kl y1 y2 w1 cnt1 hkey hlk hvv hat hrg1 hlt1 hg1' hs1 hen
      obtain ⟨x', q1, q2, q3⟩ := Maps.keyOf_int_inv Try.underlying60 hkey
      have q4 : x' = x := by injection q1 with _ q; exact q.symm
      subst q4
      subst q2
      obtain ⟨e, he, hce⟩ : ∃ e, F x' = some e ∧ c = e.v := by
        rcases HV.out x' q3 with ⟨_, h2⟩ | ⟨e, h1, h2, h3⟩
        · have := hat (.held (.bool true))
          rw [Maps.atKey_of_not_has h2] at this
          have h5 := hat (.held (.bool false))
          rw [Maps.atKey_of_not_has h2] at h5
          rw [← h5] at this
          cases this
        · refine ⟨e, h1, ?_⟩
          have h4 := hat (.held (.bool true))
          rw [h3] at h4
          have h5 := (Rh_eq hvv).1
          rw [h5] at h4
          injection h4 with h4
          exact h4.symm
      subst hce
      have HE : Hid (F x' = some e ∧ (Lit.int .u64 x').wf = true ∧ left (.int .u64 x') = true) := ⟨he, q3, hlk⟩
      clear he q3 hlk hat hvv hkey q1
      unfold Ent.v at *
      have HO3 : Hid (OwnE w1 base g2 cp2 (fs1 ++ S)) := HR.out.1.kept hg1' (fun q => hne2 (Option.some.inj q))
      have hs1' : w1.heap.size = wr.heap.size := hs1
      have HS1 : Hid (w1.heap.size = wr.heap.size) := hs1'
      have hle1 : wr.heap.size ≤ w1.heap.size := by omega
      have hle2 : w1.heap.size ≤ wr.heap.size := by omega
      have HG1 : Hid (wr.grownBy w1 (some wc.heap.size)) := hg1'
      clear hs1 hs1' hg1'
      go_wp2_with (at_builtin; refine wpList_append_entAt _ rfl _ _ rfl base g2 cp2 _ _ (fs1 ++ S) e rfl rfl (by simp) ?hO ?hc ?hl ?hb ?_)
      case hO => exact HO3.out.below (((Below.refl _ _).alloc (Nat.le_refl _) _).alloc (by simp) _) (by omega)
      case hc =>
        have h := ent_new (w1.alloc (Obj.cells #[.string e.row, .string e.fam, .string e.qual, .int .u64 e.ts, .int .i64 e.kind, .string e.val] 62)) e
        simpa using h
      case hl => simp; omega
      case hb => simp; omega
      intro g' cp' w' hO' hgr hloc
      have hbx : Below w1.heap.size w1 ((w1.alloc (Obj.cells #[.string e.row, .string e.fam, .string e.qual, .int .u64 e.ts, .int .i64 e.kind, .string e.val] 62)).alloc (Obj.cells #[.string e.row, .string e.fam, .string e.qual, .int .u64 e.ts, .int .i64 e.kind, .string e.val] 62)) := ((Below.refl _ _).alloc (Nat.le_refl _) _).alloc (by simp) _
      have hg4 : w1.grownBy w' (some g2) := ⟨hgr.os.trans hbx.os, hgr.tape.trans hbx.tape, hgr.output.trans hbx.output, Nat.le_trans hbx.size hgr.size, fun j hj hne => (hgr.block j (by simp; omega) hne).trans (hbx.block j hj)⟩
      have hrg4 := hrg1.kept hg4 (fun q => hne1 (Option.some.inj q).symm) (fun q => hne2 (Option.some.inj q).symm)
      have hgw' : w.grownBy w' (some g) := by
        have a1 := HR.out.2.2.1.andThen HG1.out (fun j hj => by cases hj; left; omega)
        exact a1.andThen hg4 (fun j hj => by
          cases hj
          rcases HR.out.2.2.2 with q | q
          · right; rw [q]
          · left; exact q)
      have hloc' : g' = g ∨ w.heap.size ≤ g' := by
        rcases hloc with q | q
        · rw [q]; exact HR.out.2.2.2
        · right
          first
            | omega
            | (rw [q]; simp; omega)
      have hne1' : g' ≠ b := by
        obtain ⟨es, ck, hh, _⟩ := hrg4.owns
        exact hO'.ne_map hh
      have hne2' : g' ≠ wc.heap.size := by
        rcases hloc with q | q
        · rw [q]; exact hne2
        · intro q2
          have h5 := q.symm.trans q2
          first
            | omega
            | (simp at h5; omega)
      have HF : Hid (OwnE w' base g' cp' (fs1 ++ (S ++ [e])) ∧ HoldsTo F (fun z => left z && !z.sameKey (.int .u64 x')) (S ++ [e]) ∧ w.grownBy w' (some g) ∧ (g' = g ∨ w.heap.size ≤ g')) := ⟨hO', holdsTo_step HR.out.2.1 HO.out.2.2 HE.out.2.1 HE.out.1 HE.out.2.2, hgw', hloc'⟩
      clear hO' hgr hloc hbx hg4 hgw' hloc' hrg1 hen
      go_wp2_with fail
      go_roundw
      case rel =>
        refine ⟨_, cnt1, S ++ [e], g', cp', ?_, ?_, hrg4, HF.out.2.1, ?_, HF.out.2.2.1, HF.out.2.2.2, hne1', hne2'⟩
        · simp; omega
        · exact HF.out.1
        · simp; omega
      case measure => rw [hrg4.left_eq, hrg.left_eq]; exact hlt1
end Go.Proofs.Ytnncedndlhfdkab

/-
  impl.gatherColumns: the map of the columns.
-/
namespace Go.Proofs.Ytnncedndlhfdkab
open Go.ChangeShapes Go.WideShapes Go.ChangeAt Go.RowKit Go.Deep Go.Maps
set_option linter.unusedVariables false
set_option maxRecDepth 100000

/-- One step of the columns' map, whatever the way. -/
theorem withEarlier_any (k : CW) (m : Option Nat) (base N : Nat) (e : Ent) (w : World) (hi : Inner w base N m k.f) (hN : N < maxLen) (hw : (Lit.int .u64 e.ts).wf = true) (hbase : base ≤ w.heap.size) :
    Calls Try.prog 73 #[.agg #[.bool k.d, .int .u64 k.u, .map m], e.v] w fun r w' =>
      ∃ m', r = .returned (.agg #[.bool (cwAdd k e).d, .int .u64 (cwAdd k e).u, .map m']) ∧ Inner w' base (N + 1) m' (cwAdd k e).f ∧ (m' = m ∨ (m = none ∧ ∃ b, m' = some b ∧ w.heap.size ≤ b)) ∧ w.grownBy w' m := by
  by_cases hk : e.kind = 2
  · have e1 : cwAdd k e = ⟨true, max k.u e.ts, k.f⟩ := by unfold cwAdd; rw [if_pos hk]
    rw [e1]
    refine (withEarlier_del k.d k.u m e w hk).mono ?_
    rintro r w' ⟨rfl, hb⟩
    exact ⟨m, rfl, (hi.kept (row := none) (grown_of_below hb none) (by cases m <;> simp)).mono (Nat.le_succ _), .inl rfl, grown_of_below hb m⟩
  · by_cases hd : k.d = true ∧ e.ts ≤ k.u
    · have e1 : cwAdd k e = k := by unfold cwAdd; rw [if_neg hk, if_pos hd]
      rw [e1, hd.1]
      refine (withEarlier_gone k.u m e w hk hd.2).mono ?_
      rintro r w' ⟨rfl, hb⟩
      exact ⟨m, rfl, (hi.kept (row := none) (grown_of_below hb none) (by cases m <;> simp)).mono (Nat.le_succ _), .inl rfl, grown_of_below hb m⟩
    · have e1 : cwAdd k e = ⟨k.d, k.u, fun t => if t = e.ts then (if (k.f t).isSome then k.f t else some e) else k.f t⟩ := by unfold cwAdd; rw [if_neg hk, if_neg hd]
      rw [e1]
      have hu : k.d = true → ¬ e.ts ≤ k.u := fun h1 h2 => hd ⟨h1, h2⟩
      rcases hi with ⟨rfl, hf⟩ | ⟨b, n, rfl, hI, hn, hbb⟩
      · refine (withEarlier_new k.d k.u e w hk hu hw).mono ?_
        rintro r w' ⟨b, rfl, hb1, hI, hb⟩
        refine ⟨some b, rfl, .inr ⟨b, 1, rfl, ?_, by omega, by omega⟩, .inr ⟨rfl, b, rfl, hb1⟩, grown_of_below hb none⟩
        rw [hf]
        have : (fun t => if t = e.ts then (if ((fun _ => none : Int → Option Ent) t).isSome then ((fun _ => none : Int → Option Ent) t) else some e) else ((fun _ => none : Int → Option Ent) t)) = (fun t => if t = e.ts then some e else none) := funext fun t => by by_cases q : t = e.ts <;> simp [q]
        show Inn w' b 1 (fun t => if t = e.ts then (if ((fun _ => none : Int → Option Ent) t).isSome then ((fun _ => none : Int → Option Ent) t) else some e) else ((fun _ => none : Int → Option Ent) t))
        rw [this]
        exact hI
      · refine (withEarlier_old k.d k.u b n k.f e w hk hu hI (Nat.lt_of_le_of_lt hn hN) hw).mono ?_
        rintro r w' ⟨rfl, hI', hg⟩
        exact ⟨some b, rfl, .inr ⟨b, n + 1, rfl, hI', Nat.succ_le_succ hn, hbb⟩, .inl rfl, hg⟩

theorem col_okc {e : Ent} (h : e.ok) : Col.okc e.wcol := ⟨h.row, h.fam, h.qual⟩
theorem colsOf_drop {ws : List Ent} {k : Nat} {e : Ent} (h : ws[k]? = some e) : colsOf (ws.drop k) = fun x => if x = e.wcol then some (cwAdd ((colsOf (ws.drop (k + 1)) e.wcol).getD cw0) e) else colsOf (ws.drop (k + 1)) x := by
  have hlt : k < ws.length := (List.getElem?_eq_some_iff.1 h).1
  rw [List.drop_eq_getElem_cons hlt]
  rw [List.getElem?_eq_getElem hlt] at h
  simp at h
  rw [h]
  funext x
  by_cases q : x = e.wcol
  · subst q; simp [colsOf]
  · simp [colsOf, q]

set_option maxHeartbeats 4000000 in
set_option maxRecDepth 100000 in
theorem gather_core (b off cap : Nat) (ws : List Ent) (w : World) (hE : EntsAt w b off ws) (hok : ∀ e ∈ ws, e.ok) (hB : b < w.heap.size) (hlen : ws.length ≤ 1048576) :
    Calls Try.prog 52 #[.slice (some ⟨b, off, none⟩) ws.length cap] w fun r w' =>
      ∃ M, r = .returned (.map (some w.heap.size)) ∧ Outer w' w.heap.size w.heap.size ws.length (colsOf ws) M ∧ Below w.heap.size w w' := by
  have HE : Hid (EntsAt w b off ws) := hE
  have HO : Hid (∀ e ∈ ws, e.ok) := hok
  clear hE hok
  have hmm := @run_makeMap Try.prog
  obtain ⟨W0, hW0⟩ : ∃ W0 : World, W0 = w.alloc (.map #[] 0) := ⟨_, rfl⟩
  have hb0 : Below w.heap.size w W0 := by rw [hW0]; exact (Below.refl _ _).alloc (Nat.le_refl _) _
  have HM0 : Hid (Outer W0 w.heap.size w.heap.size 0 (fun _ => none) (fun _ => none)) := by
    show Outer W0 w.heap.size w.heap.size 0 (fun _ => none) (fun _ => none)
    rw [hW0]; exact Outer.made w _
  go_enter Try.func52, Try.ntmps52
  go_wp2_with fail
  rw [← hW0]
  clear hW0 hmm
  go_loopw [4] (fun i wr => ∃ (k : Nat) (M : Col → Option Nat), k ≤ ws.length ∧ i = .int .i64 ((k : Int) - 1) ∧ Outer wr w.heap.size w.heap.size (ws.length - k) (colsOf (ws.drop k)) M ∧ Below w.heap.size w wr) (fun i _ => (intOf i + 1).toNat)
  case atStart =>
    refine ⟨ws.length, fun _ => none, Nat.le_refl _, rfl, ?_, hb0⟩
    rw [Nat.sub_self, List.drop_length]
    exact HM0.out
  case round =>
    obtain ⟨k, M, hk, rfl, hM, hb⟩ := hrel
    have HM : Hid (Outer wr w.heap.size w.heap.size (ws.length - k) (colsOf (ws.drop k)) M) := hM
    clear hM
    have hs := hb.size
    by_cases hp : 0 < k
    · obtain ⟨j, rfl⟩ : ∃ j, k = j + 1 := ⟨k - 1, by omega⟩
      have hji : (((j + 1 : Nat) : Int) - 1) = (j : Int) := by omega
      rw [hji]
      clear hji
      obtain ⟨e, he⟩ : ∃ e, ws[j]? = some e := ⟨_, List.getElem?_eq_getElem (by omega)⟩
      obtain ⟨c0, c1, c2, c3, c4, c5⟩ := (HE.out.below hb hB) j e he
      have HK : Hid (ws[j]? = some e ∧ e.ok) := ⟨he, HO.out e (List.mem_of_getElem? he)⟩
      clear he
      have z1 : (0 : Int) ≤ (j : Int) := by omega
      have z2 : (j : Int) < (ws.length : Int) := by omega
      go_wp2_with fail
      refine (column_any e _).mono ?_
      rintro r w1 ⟨rfl, hb1⟩
      have hs1 := hb1.size
      obtain ⟨W2, hW2⟩ : ∃ W2 : World, W2 = w1.alloc (Obj.cells #[.string e.row, .string e.fam, .string e.qual] 84) := ⟨_, rfl⟩
      have hb2 : Below w.heap.size w W2 := by rw [hW2]; exact (hb.trans (hb1.mono (by omega))).alloc (by omega) _
      have hg2 : wr.grownBy W2 none := by rw [hW2]; exact grown_of_below (hb1.alloc hs1 _) none
      have hz2 : w1.heap.size < W2.heap.size := by rw [hW2]; simp
      have k0 : W2.cell? ⟨w1.heap.size, 0, none⟩ = some (.string e.row) := by rw [hW2]; simp
      have k1 : W2.cell? ⟨w1.heap.size, 1, none⟩ = some (.string e.fam) := by rw [hW2]; simp
      have k2 : W2.cell? ⟨w1.heap.size, 2, none⟩ = some (.string e.qual) := by rw [hW2]; simp
      have HM2 : Hid (Outer W2 w.heap.size w.heap.size (ws.length - (j + 1)) (colsOf (ws.drop (j + 1))) M) := HM.out.kept hg2
      clear c0 c1 c2 c3 c4 c5 hg2
      go_upto_region 6 with fail
      rw [← hW2]
      clear hW2
      obtain ⟨d0, d1, d2, d3, d4, d5⟩ := (HE.out.below hb2 hB) j e HK.out.1
      have hgd : W2.grownBy W2.drew none := ⟨rfl, rfl, rfl, Nat.le_refl _, fun _ _ _ => rfl⟩
      have hMd := HM2.out.kept hgd
      obtain ⟨K, hK⟩ : ∃ K : CW, K = (colsOf (ws.drop (j + 1)) e.wcol).getD cw0 := ⟨_, rfl⟩
      have hlook0 := hMd.look (col_okc HK.out.2)
      rw [← hK] at hlook0
      have hlook : (Instr.lookup 81 (.map (some w.heap.size)) (.agg #[.string e.row, .string e.fam, .string e.qual]) false).run Try.prog W2.drew = .ok (.agg #[.bool K.d, .int .u64 K.u, .map (M e.wcol)]) W2.drew := hlook0
      clear hlook0
      have hin : Inner W2.drew w.heap.size (ws.length - (j + 1)) (M e.wcol) K.f := by
        cases hq : colsOf (ws.drop (j + 1)) e.wcol with
        | none =>
          rw [hq] at hK
          refine .inl ⟨hMd.nom _ hq, ?_⟩
          rw [hK]; rfl
        | some c =>
          rw [hq] at hK
          rw [hK]
          exact hMd.inner _ c hq
      have HN : Hid (ws.length - (j + 1) < maxLen) := Nat.lt_of_le_of_lt (Nat.sub_le _ _) (Nat.lt_of_le_of_lt hlen (by decide))
      have HC := withEarlier_any K (M e.wcol) w.heap.size (ws.length - (j + 1)) e W2.drew hin HN.out HK.out.2.ts (Nat.le_trans hb2.size (Nat.le_refl _))
      have HPut : Hid (∀ (w' : World) (m' : Option Nat), Inner w' w.heap.size (ws.length - (j + 1) + 1) m' (cwAdd K e).f → (m' = M e.wcol ∨ (M e.wcol = none ∧ ∃ b, m' = some b ∧ W2.drew.heap.size ≤ b)) → W2.drew.grownBy w' (M e.wcol) →
          ∃ w'', (Instr.mapUpdate 81 (.map (some w.heap.size)) (.agg #[.string e.row, .string e.fam, .string e.qual]) (.agg #[.bool (cwAdd K e).d, .int .u64 (cwAdd K e).u, .map m'])).run Try.prog w' = .ok () w'' ∧
            (∃ M', Outer w'' w.heap.size w.heap.size (ws.length - j) (colsOf (ws.drop j)) M') ∧ Below w.heap.size w w'') := by
        intro w' m' h1 h2 h3
        obtain ⟨w'', p1, p2, p3⟩ := hMd.put (col_okc HK.out.2) HN.out h3 (cwAdd K e) m' h1 h2
        refine ⟨w'', p1, ⟨fun x => if x = e.wcol then m' else M x, ?_⟩, ?_⟩
        · rw [colsOf_drop HK.out.1, ← hK, show ws.length - j = ws.length - (j + 1) + 1 by omega]
          exact p2
        · have q1 : Below w.heap.size w w' := hb2.drew.grown h3 (by show w.heap.size ≤ W2.heap.size; exact hb2.size) (fun y hy => (hMd.inLt hy).2)
          exact q1.grown p3 q1.size (fun y hy => by cases hy; exact Nat.le_refl _)
      have HCel : Hid (∀ (w' : World), W2.drew.grownBy w' (M e.wcol) → w'.cell? ⟨w1.heap.size, 0, none⟩ = some (.string e.row) ∧ w'.cell? ⟨w1.heap.size, 1, none⟩ = some (.string e.fam) ∧ w'.cell? ⟨w1.heap.size, 2, none⟩ = some (.string e.qual)) := by
        intro w' h3
        have hne : some w1.heap.size ≠ M e.wcol := fun q => by
          have := (HM.out.inLt q.symm).1
          omega
        have hbk : w'.heap[w1.heap.size]? = W2.heap[w1.heap.size]? := h3.block w1.heap.size hz2 hne
        exact ⟨(World.cell?_of_block (a := ⟨w1.heap.size, 0, none⟩) hbk).trans k0, (World.cell?_of_block (a := ⟨w1.heap.size, 1, none⟩) hbk).trans k1, (World.cell?_of_block (a := ⟨w1.heap.size, 2, none⟩) hbk).trans k2⟩
      have HCC : Hid (Calls Try.prog 73 #[.agg #[.bool K.d, .int .u64 K.u, .map (M e.wcol)], e.v] W2.drew fun r w' => ∃ m', r = .returned (.agg #[.bool (cwAdd K e).d, .int .u64 (cwAdd K e).u, .map m']) ∧ Inner w' w.heap.size (ws.length - (j + 1) + 1) m' (cwAdd K e).f ∧ (m' = M e.wcol ∨ (M e.wcol = none ∧ ∃ b, m' = some b ∧ W2.drew.heap.size ≤ b)) ∧ W2.drew.grownBy w' (M e.wcol)) := HC
      clear HC hin hMd hgd hK
      go_region_with (go_at_call 73; refine HCC.out.mono ?_; rintro r w' ⟨m', rfl, hi', hm', hg'⟩; obtain ⟨w'', hput, hfin⟩ := HPut.out w' m' hi' hm' hg'; have HFin : Hid ((∃ M', Outer w'' w.heap.size w.heap.size (ws.length - j) (colsOf (ws.drop j)) M') ∧ Below w.heap.size w w'') := hfin; obtain ⟨q0, q1, q2⟩ := HCel.out w' hg'; clear hi' hm' hg' hfin)
      all_goals
        clear hlook hput d0 d1 d2 d3 d4 d5 k0 k1 k2 q0 q1 q2
        go_wp2_with fail
        go_roundw
        case rel =>
          obtain ⟨⟨M', hM'⟩, hb'⟩ := HFin.out
          exact ⟨j, M', by omega, rfl, hM', hb'⟩
        case measure => go_light; simp [intOf]
    · obtain rfl : k = 0 := by omega
      go_wp2_with fail
      go_ret
      refine ⟨M, rfl, ?_, hb⟩
      have h := HM.out
      rw [Nat.sub_zero, List.drop_zero] at h
      exact h
end Go.Proofs.Ytnncedndlhfdkab

/-
  The order of keys as slices.SortFunc asks it: impl's compare lays blocks, turns none.
-/
namespace Go.Proofs.Ytnncedndlhfdkab
open Go.ChangeShapes Go.WideShapes Go.ChangeAt Go.RowKit Go.Deep Go.Sort
set_option linter.unusedVariables false
set_option maxRecDepth 100000

/-- Only new blocks. -/
def Lays (w w' : World) : Prop := ∃ os, w' = grow w os
theorem Lays.refl (w : World) : Lays w w := ⟨#[], by simp⟩
theorem Lays.alloc {w w' : World} (h : Lays w w') (o : Obj) : Lays w (w'.alloc o) := by
  obtain ⟨os, rfl⟩ := h
  exact ⟨os ++ #[o], by rw [alloc_eq_grow, grow_grow]⟩
theorem Lays.trans {a b c : World} (h : Lays a b) (k : Lays b c) : Lays a c := by
  obtain ⟨os, rfl⟩ := h
  obtain ⟨os', rfl⟩ := k
  exact ⟨os ++ os', grow_grow _ _ _⟩
theorem Lays.below {a b : World} (h : Lays a b) : Below a.heap.size a b := by
  obtain ⟨os, rfl⟩ := h
  refine ⟨rfl, rfl, rfl, by simp, fun k hk => ?_⟩
  unfold grow
  simp [Array.getElem?_append_left hk]

set_option maxHeartbeats 400000 in
theorem compareColumns_lays (a b : Ent) (w : World) :
    Calls Try.prog 76 #[a.v, b.v] w fun e w' => e = .returned (.int .i64 (colCmp a b)) ∧ Lays w w' := by
  unfold colCmp firstOf Ent.v
  by_cases h1 : cB a.row b.row = 0
  · have g1 : (cB a.row b.row != 0) = false := by simp [h1]
    rw [if_pos h1]
    clear h1
    by_cases h2 : cB a.fam b.fam = 0
    · have g2 : (cB a.fam b.fam != 0) = false := by simp [h2]
      rw [if_pos h2]
      clear h2
      go_enter Try.func76, Try.ntmps76
      go_wp2_with (go_at_call 100; refine (stringsCompare_any _ _ _).mono ?_; rintro e w' ⟨rfl, rfl⟩)
      go_ret
      exact ⟨rfl, ((Lays.refl _).alloc _).alloc _⟩
    · have g2 : (cB a.fam b.fam != 0) = true := by simp [h2]
      rw [if_neg h2]
      clear h2
      go_enter Try.func76, Try.ntmps76
      go_wp2_with (go_at_call 100; refine (stringsCompare_any _ _ _).mono ?_; rintro e w' ⟨rfl, rfl⟩)
      go_ret
      exact ⟨rfl, ((Lays.refl _).alloc _).alloc _⟩
  · have g1 : (cB a.row b.row != 0) = true := by simp [h1]
    rw [if_neg h1]
    clear h1
    go_enter Try.func76, Try.ntmps76
    go_wp2_with (go_at_call 100; refine (stringsCompare_any _ _ _).mono ?_; rintro e w' ⟨rfl, rfl⟩)
    go_ret
    exact ⟨rfl, ((Lays.refl _).alloc _).alloc _⟩

set_option maxHeartbeats 400000 in
theorem compare_lays (a b : Ent) (w : World) :
    Calls Try.prog 55 #[a.v, b.v] w fun e w' => e = .returned (.int .i64 (keyCmp a b)) ∧ Lays w w' := by
  by_cases h1 : colCmp a b = 0
  · have g1 : (colCmp a b != 0) = false := by simp [h1]
    by_cases ha : a.kind = 2
    · have ga : (a.kind == 2) = true := by simp [ha]
      by_cases hb : b.kind = 2
      · have gb : (b.kind == 2) = true := by simp [hb]
        have H : Hid (keyCmp a b = tsCmp a.ts b.ts) := keyCmp_ts h1 (by simp [ha, hb])
        clear h1 ha hb
        go_enter Try.func55, Try.ntmps55
        go_wp2_with fail
        refine (compareColumns_lays a b _).mono ?_
        rintro e w1 ⟨rfl, hl1⟩
        have hb1 := hl1.below
        obtain ⟨hc1, hf1⟩ := bcell hb1
        have hz1 : w.heap.size + 1 < w1.heap.size := by have := hb1.size; simp at this; omega
        go_wp2_with fail
        refine (cmpU64_any _ _ _).mono ?_
        rintro e w2 ⟨rfl, rfl⟩
        go_wp2_with fail
        go_ret
        exact ⟨ret_int H.out.symm, (((Lays.refl _).alloc _).alloc _).trans hl1⟩
      · have gb : (b.kind == 2) = false := by simp [hb]
        have H : Hid (keyCmp a b = -1) := keyCmp_del1 h1 ha hb
        clear h1 ha hb
        go_enter Try.func55, Try.ntmps55
        go_wp2_with fail
        refine (compareColumns_lays a b _).mono ?_
        rintro e w1 ⟨rfl, hl1⟩
        have hb1 := hl1.below
        obtain ⟨hc1, hf1⟩ := bcell hb1
        have hz1 : w.heap.size + 1 < w1.heap.size := by have := hb1.size; simp at this; omega
        go_wp2_with fail
        go_ret
        exact ⟨ret_int H.out.symm, (((Lays.refl _).alloc _).alloc _).trans hl1⟩
    · have ga : (a.kind == 2) = false := by simp [ha]
      by_cases hb : b.kind = 2
      · have gb : (b.kind == 2) = true := by simp [hb]
        have H : Hid (keyCmp a b = 1) := keyCmp_del2 h1 ha hb
        clear h1 ha hb
        go_enter Try.func55, Try.ntmps55
        go_wp2_with fail
        refine (compareColumns_lays a b _).mono ?_
        rintro e w1 ⟨rfl, hl1⟩
        have hb1 := hl1.below
        obtain ⟨hc1, hf1⟩ := bcell hb1
        have hz1 : w.heap.size + 1 < w1.heap.size := by have := hb1.size; simp at this; omega
        go_wp2_with fail
        go_ret
        exact ⟨ret_int H.out.symm, (((Lays.refl _).alloc _).alloc _).trans hl1⟩
      · have gb : (b.kind == 2) = false := by simp [hb]
        have H : Hid (keyCmp a b = tsCmp a.ts b.ts) := keyCmp_ts h1 (by simp [ha, hb])
        clear h1 ha hb
        go_enter Try.func55, Try.ntmps55
        go_wp2_with fail
        refine (compareColumns_lays a b _).mono ?_
        rintro e w1 ⟨rfl, hl1⟩
        have hb1 := hl1.below
        obtain ⟨hc1, hf1⟩ := bcell hb1
        have hz1 : w.heap.size + 1 < w1.heap.size := by have := hb1.size; simp at this; omega
        go_wp2_with fail
        refine (cmpU64_any _ _ _).mono ?_
        rintro e w2 ⟨rfl, rfl⟩
        go_wp2_with fail
        go_ret
        exact ⟨ret_int H.out.symm, (((Lays.refl _).alloc _).alloc _).trans hl1⟩
  · have g1 : (colCmp a b != 0) = true := by simp [h1]
    have H : Hid (keyCmp a b = colCmp a b) := keyCmp_ne h1
    clear h1
    go_enter Try.func55, Try.ntmps55
    go_wp2_with fail
    refine (compareColumns_lays a b _).mono ?_
    rintro e w1 ⟨rfl, hl1⟩
    have hb1 := hl1.below
    go_wp2_with fail
    go_ret
    exact ⟨ret_int H.out.symm, (((Lays.refl _).alloc _).alloc _).trans hl1⟩


theorem cmp_swo : ∀ x y z : Ent, (keyCmp x y < 0) = (keyCmp x y = -1) ∧ True := fun x y z => ⟨by
  rcases keyCmp_vals x y with h | h | h <;> rw [h] <;> simp, trivial⟩
end Go.Proofs.Ytnncedndlhfdkab

/-
  slices.SortFunc at this program, laid in plain words.
-/
namespace Go.Proofs.Ytnncedndlhfdkab
open Go.Shelf
def Try.sortE_ren : Go.Shelf.Ren := ⟨fun | 6 => 54 | 15 => 75 | 14 => 74 | 28 => 98 | 29 => 99 | 20 => 90 | 21 => 91 | 22 => 92 | 23 => 93 | 24 => 94 | 25 => 95 | 26 => 96 | 27 => 97 | 46 => 109 | 47 => 110 | 48 => 111 | 49 => 112 | 50 => 113 | 57 => 117 | n => n, fun | 22 => 27 | 24 => 62 | 25 => 90 | 3 => 3 | 39 => 115 | 0 => 0 | 53 => 142 | 55 => 60 | 4 => 4 | 46 => 135 | 45 => 134 | 50 => 139 | 5 => 5 | 9 => 9 | 66 => 150 | 70 => 154 | 76 => 163 | 77 => 164 | n => n, fun | n => n⟩
theorem Try.sortE : Go.Proofs.SlLaysF0.n6 Try.prog Try.sortE_ren := {
  mixed := by kernel_rfl
  f6 := ⟨Try.f54.name, by decide, Try.func54.trans (congrArg some (by kernel_rfl))⟩
  f14 := ⟨Try.f74.name, by decide, Try.func74.trans (congrArg some (by kernel_rfl))⟩
  f15 := Try.func75.trans (congrArg some (by kernel_rfl))
  f20 := ⟨Try.f90.name, by decide, Try.func90.trans (congrArg some (by kernel_rfl))⟩
  f21 := ⟨Try.f91.name, by decide, Try.func91.trans (congrArg some (by kernel_rfl))⟩
  f22 := ⟨Try.f92.name, by decide, Try.func92.trans (congrArg some (by kernel_rfl))⟩
  f23 := ⟨Try.f93.name, by decide, Try.func93.trans (congrArg some (by kernel_rfl))⟩
  f24 := ⟨Try.f94.name, by decide, Try.func94.trans (congrArg some (by kernel_rfl))⟩
  f25 := ⟨Try.f95.name, by decide, Try.func95.trans (congrArg some (by kernel_rfl))⟩
  f26 := ⟨Try.f96.name, by decide, Try.func96.trans (congrArg some (by kernel_rfl))⟩
  f27 := ⟨Try.f97.name, by decide, Try.func97.trans (congrArg some (by kernel_rfl))⟩
  f28 := Try.func98.trans (congrArg some (by kernel_rfl))
  f29 := Try.func99.trans (congrArg some (by kernel_rfl))
  f46 := ⟨Try.f109.name, by decide, Try.func109.trans (congrArg some (by kernel_rfl))⟩
  f47 := Try.func110.trans (congrArg some (by kernel_rfl))
  f48 := Try.func111.trans (congrArg some (by kernel_rfl))
  f49 := ⟨Try.f112.name, by decide, Try.func112.trans (congrArg some (by kernel_rfl))⟩
  f50 := ⟨Try.f113.name, by decide, Try.func113.trans (congrArg some (by kernel_rfl))⟩
  f57 := ⟨Try.f117.name, by decide, Try.func117.trans (congrArg some (by kernel_rfl))⟩
  t0 := Try.underlying0
  a0 := Try.isAgg0
  z0 := Try.sizeOf0
  v0 := Try.zeroValue0
  t3 := Try.underlying3
  a3 := Try.isAgg3
  z3 := Try.sizeOf3
  v3 := Try.zeroValue3
  t4 := Try.underlying4
  a4 := Try.isAgg4
  z4 := Try.sizeOf4
  v4 := Try.zeroValue4
  t5 := Try.underlying5
  a5 := Try.isAgg5
  z5 := Try.sizeOf5
  v5 := Try.zeroValue5
  t9 := Try.underlying9
  a9 := Try.isAgg9
  z9 := Try.sizeOf9
  v9 := Try.zeroValue9
  t22 := Try.underlying27
  a22 := Try.isAgg27
  z22 := Try.sizeOf27
  v22 := Try.zeroValue27
  t25 := Try.underlying90
  a25 := Try.isAgg90
  z25 := Try.sizeOf90
  v25 := Try.zeroValue90
  t39 := Try.underlying115
  a39 := Try.isAgg115
  z39 := Try.sizeOf115
  v39 := Try.zeroValue115
  t45 := Try.underlying134
  a45 := Try.isAgg134
  z45 := Try.sizeOf134
  v45 := Try.zeroValue134
  t46 := Try.underlying135
  a46 := Try.isAgg135
  z46 := Try.sizeOf135
  v46 := Try.zeroValue135
  t50 := Try.underlying139
  a50 := Try.isAgg139
  z50 := Try.sizeOf139
  v50 := Try.zeroValue139
  t53 := Try.underlying142
  a53 := Try.isAgg142
  z53 := Try.sizeOf142
  v53 := Try.zeroValue142
  t55 := Try.underlying60
  a55 := Try.isAgg60
  z55 := Try.sizeOf60
  v55 := Try.zeroValue60
  t66 := Try.underlying150
  a66 := Try.isAgg150
  z66 := Try.sizeOf150
  v66 := Try.zeroValue150
  t70 := Try.underlying154
  a70 := Try.isAgg154
  z70 := Try.sizeOf154
  v70 := Try.zeroValue154
  t76 := Try.underlying163
  a76 := Try.isAgg163
  z76 := Try.sizeOf163
  v76 := Try.zeroValue163
  t77 := Try.underlying164
  a77 := Try.isAgg164
  z77 := Try.sizeOf164
  v77 := Try.zeroValue164 }
end Go.Proofs.Ytnncedndlhfdkab

/-
  slices.SortFunc over entries, by impl's compare.
-/
namespace Go.Proofs.Ytnncedndlhfdkab
open Go.Shelf Go.RowKit Go.Lib Go.Sort
set_option linter.unusedVariables false

abbrev inhE : Inhabited Ent := ⟨⟨⟨#[]⟩, ⟨#[]⟩, ⟨#[]⟩, 0, 0, ⟨#[]⟩⟩⟩
theorem ltOf_key (x y : Ent) : ltOf keyCmp x y = true ↔ keyCmp x y = -1 := by
  unfold ltOf
  rcases keyCmp_vals x y with h | h | h <;> simp [h]
theorem ltOf_key_f (x y : Ent) : ltOf keyCmp x y = false ↔ ¬ keyCmp x y = -1 := by
  rw [← ltOf_key]; cases ltOf keyCmp x y <;> simp
theorem swoKey_ntrans (x y z : Ent) (h1 : ltOf keyCmp x y = false) (h2 : ltOf keyCmp y z = false) : ltOf keyCmp x z = false := by
  rw [ltOf_key_f] at *
  intro h3
  rcases keyCmp_vals x y with h | h | h
  · exact h1 h
  · rw [keyCmp_congr h] at h3; exact h2 h3
  · have h4 : keyCmp y x = -1 := by have := keyCmp_neg x y; omega
    exact h2 (keyCmp_trans h4 h3)
theorem swoKey : SWO (ltOf keyCmp) :=
  { irrefl := fun x => by rw [ltOf_key_f, keyCmp_self]; omega,
    trans := fun x y z h1 h2 => by rw [ltOf_key] at *; exact keyCmp_trans h1 h2,
    ntrans := swoKey_ntrans }

theorem cmpLaysE (blk off size : Nat) (w : World) : @CmpLays Ent inhE Try.prog 55 #[] Ent.cells 6 keyCmp blk off size w := by
  intro m os dk hs x y
  refine (compare_lays x y _).mono ?_
  rintro e w' ⟨he, os', hw⟩
  exact ⟨he, 0, os', by rw [hw]; rfl⟩

theorem flat_cells (R : List Ent) : (@flatK Ent inhE Ent.cells 6 R.toArray).toList = cellsE R := by
  apply List.ext_getElem?
  intro j
  by_cases hj : j < R.length * 6
  · have hq : j / 6 < R.length := by omega
    have h := cellsE_get R (j / 6) R[j / 6] (List.getElem?_eq_getElem hq) (j % 6) (Nat.mod_lt _ (by omega))
    rw [show j / 6 * 6 + j % 6 = j by omega] at h
    rw [h]
    have h6 : j % 6 < 6 := Nat.mod_lt _ (by omega)
    simp [flatK, hj, hq]
    generalize j % 6 = m at *
    match m, h6 with
    | 0, _ => rfl
    | 1, _ => rfl
    | 2, _ => rfl
    | 3, _ => rfl
    | 4, _ => rfl
    | 5, _ => rfl
  · have h1 : (cellsE R).length ≤ j := by rw [length_cellsE]; omega
    rw [List.getElem?_eq_none h1]
    simp [flatK]; omega
theorem holdsE {w : World} {base g cp : Nat} {R : List Ent} (h : OwnE w base g cp R) : @HoldsK Ent inhE Ent.cells 6 w g 0 R.toArray := by
  intro j hj
  have hj' : j < R.length * 6 := by simpa using hj
  rw [Nat.zero_add]
  refine ⟨?_, World.ownsRow.frozenAt h j⟩
  rw [World.ownsRow.cellAt h j hj', ← flat_cells]
  rw [Array.getElem?_toList]
  simp [hj']
theorem heap_sortedE {w : World} {g n : Nat} {os : Array Obj} {cur : Array Value} {e : TypeId} {fr : Nat × Nat} (S : List Ent) (hb : w.heap[g]? = some (.cells cur e fr)) :
    (@sortWorldK Ent inhE Ent.cells 6 w g 0 n S.toArray os).heap[g]? = some (.cells (putCells id 0 (@flatK Ent inhE Ent.cells 6 S.toArray) cur) e fr) := by
  have hg : g < w.heap.size := (Array.getElem?_eq_some_iff.1 hb).1
  unfold sortWorldK putRowK
  rw [heap_grow_old _ _ (by simpa [Sort.ahead] using hg)]
  simp [putRow, mapBlock, Sort.ahead, Array.getElem?_modify, hb, onCells]
theorem grownBy_sortedE (w : World) (g n : Nat) (os : Array Obj) (S : List Ent) : w.grownBy (@sortWorldK Ent inhE Ent.cells 6 w g 0 n S.toArray os) (some g) := by
  refine ⟨rfl, rfl, rfl, by simp [sortWorldK, putRowK, Sort.ahead], fun k hk hne => ?_⟩
  unfold sortWorldK putRowK
  rw [heap_grow_old _ _ (by simpa [Sort.ahead] using hk)]
  have : g ≠ k := fun e => hne (by rw [e])
  simp [putRow, mapBlock, Sort.ahead, Array.getElem?_modify, this]
theorem take_putE (cur : Array Value) (S : List Ent) (h : S.length * 6 ≤ cur.size) : (putCells id 0 (@flatK Ent inhE Ent.cells 6 S.toArray) cur).toList.take (S.length * 6) = cellsE S := by
  rw [← flat_cells]
  apply List.ext_getElem?
  intro j
  by_cases hj : j < S.length * 6
  · rw [List.getElem?_take_of_lt hj, Array.getElem?_toList, Array.getElem?_toList]
    simp [putCells, hj, show j < cur.size by omega]
  · rw [List.getElem?_take_eq_none (by omega), List.getElem?_eq_none (by simp; omega)]
theorem ownE_sorted {w : World} {base g cp n : Nat} {os : Array Obj} {R S : List Ent} (h : OwnE w base g cp R) (hl : S.length = R.length) : OwnE (@sortWorldK Ent inhE Ent.cells 6 w g 0 n S.toArray os) base g cp S := by
  rcases h.2 with ⟨h0, _⟩ | ⟨g', cap', cur, hv, hg, hb, hn, hcap, hsz, htk⟩
  · cases h0
  · simp only [Value.slice.injEq, Option.some.injEq, Addr.mk.injEq, and_true, true_and] at hv
    obtain ⟨rfl, rfl⟩ := hv
    refine ⟨length_cellsE S, .inr ⟨g, cp, _, rfl, hg, heap_sortedE S hb, by omega, hcap, by simp [putCells, hsz], take_putE cur S (by rw [hsz, hl]; exact Nat.mul_le_mul_right _ hn)⟩⟩

theorem sort_core (base g cp : Nat) (R : List Ent) (w : World) (hO : OwnE w base g cp R) (hlen : R.length ≤ 2 ^ 40) :
    Calls Try.prog 54 #[.slice (some ⟨g, 0, none⟩) R.length cp, .func (.func 55) #[] #[]] w fun e w' =>
      e = .returned (.tuple #[]) ∧ ∃ S : List Ent, S.Perm R ∧ S.Pairwise (fun a b => ¬ keyCmp b a = -1) ∧ OwnE w' base g cp S ∧ w.grownBy w' (some g) := by
  have eg : ∀ args w, (callFunc 55 args).run Try.prog w = .ok (.enter 55 args) w := enters_of Try.func55 (by kernel_rfl) rfl
  have hcon := @AnyQ.slices_SortFunc _ _ Ent inhE Try.sortE 6 Try.isAgg62 Try.sizeOf62 Ent.cells (fun _ => rfl) (fun x v hv => by
    simp at hv
    rcases hv with rfl | rfl | rfl | rfl | rfl | rfl <;> rfl) keyCmp swoKey 55 #[] g 0 cp R.toArray w eg (cmpLaysE g 0 _ w) (holdsE hO) hO.lt.2 (by simp; omega)
  change Calls Try.prog 54 _ _ _ at hcon
  refine hcon.mono ?_
  rintro e w' ⟨he, d, n, os, hp, hs, rfl⟩
  refine ⟨he, d.toList, ?_, ?_, ?_, ?_⟩
  · have h1 := hp.2.2
    have h2 := hp.1
    simpa [Array.extract_eq_self_of_le, h2] using h1
  · rw [List.pairwise_iff_getElem]
    intro i j hi hj hij
    have hi' : i < d.size := by simpa using hi
    have hj' : j < d.size := by simpa using hj
    have h := hs i j (Nat.zero_le _) hij (by rw [hp.1] at hj'; exact hj')
    have e1 := @getElem!_pos (Array Ent) Nat Ent _ _ _ inhE d j hj'
    have e2 := @getElem!_pos (Array Ent) Nat Ent _ _ _ inhE d i hi'
    rw [ltOf_key_f, e1, e2] at h
    simpa using h
  · exact ownE_sorted hO (by simpa using hp.1)
  · exact grownBy_sortedE w g n os d.toList
end Go.Proofs.Ytnncedndlhfdkab

