import Derived.Deep.QuietTactic
import Derived.BigQuiet
import Derived.Test.YtlgeffinhbodeafPkAB
import Derived.Test.YtlgeffinhbodeafPkAA
/-
  The order of keys is a strict order; ordered lists with the same members are one.
-/
namespace Go.Proofs.Ytlgeffinhbodeaf
set_option linter.unusedVariables false

theorem cmpB_zero : ∀ a b : List UInt8, Lib.compareBytes a b = 0 ↔ a = b
  | [], [] => by simp [Lib.compareBytes]
  | [], _ :: _ => by simp [Lib.compareBytes]
  | _ :: _, [] => by simp [Lib.compareBytes]
  | a :: x, b :: y => by
    unfold Lib.compareBytes
    by_cases h1 : a < b
    · rw [if_pos h1]
      constructor
      · intro h; cases h
      · intro h
        simp at h
        rw [h.1] at h1
        simp at h1
    · rw [if_neg h1]
      by_cases h2 : b < a
      · rw [if_pos h2]
        constructor
        · intro h; cases h
        · intro h
          simp at h
          rw [h.1] at h2
          simp at h2
      · rw [if_neg h2, cmpB_zero x y]
        have hab : a = b := by
          rw [UInt8.lt_iff_toNat_lt] at h1 h2
          exact UInt8.toNat_inj.1 (by omega)
        simp [hab]
theorem cmpB_neg : ∀ a b : List UInt8, Lib.compareBytes b a = -Lib.compareBytes a b
  | [], [] => by simp [Lib.compareBytes]
  | [], _ :: _ => by simp [Lib.compareBytes]
  | _ :: _, [] => by simp [Lib.compareBytes]
  | a :: x, b :: y => by
    unfold Lib.compareBytes
    have := cmpB_neg x y
    simp only [UInt8.lt_iff_toNat_lt]
    by_cases h1 : a.toNat < b.toNat
    · have h2 : ¬ b.toNat < a.toNat := by omega
      simp [h1, h2]
    · by_cases h2 : b.toNat < a.toNat
      · simp [h1, h2]
      · simp [h1, h2, this]
theorem cmpB_trans : ∀ a b c : List UInt8, Lib.compareBytes a b = -1 → Lib.compareBytes b c = -1 → Lib.compareBytes a c = -1
  | [], [], _ => by simp [Lib.compareBytes]
  | [], _ :: _, [] => by simp [Lib.compareBytes]
  | [], _ :: _, _ :: _ => by simp [Lib.compareBytes]
  | _ :: _, [], _ => by simp [Lib.compareBytes]
  | _ :: _, _ :: _, [] => by simp [Lib.compareBytes]
  | a :: x, b :: y, c :: z => by
    have ih := cmpB_trans x y z
    unfold Lib.compareBytes
    simp only [UInt8.lt_iff_toNat_lt]
    intro h1 h2
    by_cases h3 : a.toNat < c.toNat
    · simp [h3]
    · by_cases p1 : a.toNat < b.toNat
      · by_cases p2 : b.toNat < c.toNat
        · omega
        · by_cases p3 : c.toNat < b.toNat
          · simp [p2, p3] at h2
          · omega
      · by_cases p2 : b.toNat < a.toNat
        · simp [p1, p2] at h1
        · by_cases q1 : b.toNat < c.toNat
          · omega
          · by_cases q2 : c.toNat < b.toNat
            · simp [q1, q2] at h2
            · simp [p1, p2] at h1
              simp [q1, q2] at h2
              have r1 : ¬ c.toNat < a.toNat := by omega
              simp [h3, r1]
              exact ih h1 h2

theorem cB_zero {a b : ByteArray} : cB a b = 0 ↔ a = b := by
  unfold cB
  rw [cmpB_zero]
  constructor
  · intro h; cases a; cases b; simp at h; simpa using h
  · intro h; rw [h]
theorem cB_neg (a b : ByteArray) : cB b a = -cB a b := cmpB_neg _ _
theorem cB_trans {a b c : ByteArray} (h : cB a b = -1) (k : cB b c = -1) : cB a c = -1 := cmpB_trans _ _ _ h k

theorem tsCmp_neg (a b : Int) : tsCmp b a = -tsCmp a b := by
  unfold tsCmp; repeat' split
  all_goals omega
theorem kindCmp_neg (a b : Int) : kindCmp b a = -kindCmp a b := by
  unfold kindCmp; repeat' split
  all_goals omega
theorem firstOf_neg (a b : Int) : firstOf (-a) (-b) = -firstOf a b := by
  unfold firstOf
  by_cases h : a = 0
  · simp [h]
  · simp [h]
theorem keyCmp_neg (a b : Ent) : keyCmp b a = -keyCmp a b := by
  unfold keyCmp
  rw [cB_neg a.row b.row, cB_neg a.fam b.fam, cB_neg a.qual b.qual, kindCmp_neg a.kind b.kind, tsCmp_neg a.ts b.ts, firstOf_neg, firstOf_neg, firstOf_neg, firstOf_neg]

/-- 'firstOf' of two three-valued comparisons that are each an order. -/
theorem firstOf_trans {a b c a' b' c' : Int} (h0 : a = 0 → b = 0 → c = 0) (h1 : a = -1 → b = -1 → c = -1) (h2 : a = -1 → b = 0 → c = -1) (h3 : a = 0 → b = -1 → c = -1)
    (ta : tri a) (tb : tri b) (k : a' = -1 → b' = -1 → c' = -1) (x : firstOf a a' = -1) (y : firstOf b b' = -1) : firstOf c c' = -1 := by
  unfold firstOf at *
  unfold tri at *
  by_cases ha : a = 0
  · rw [if_pos ha] at x
    by_cases hb : b = 0
    · rw [if_pos hb] at y
      rw [if_pos (h0 ha hb)]; exact k x y
    · rw [if_neg hb] at y
      have := h3 ha y
      rw [if_neg (by omega)]; exact this
  · rw [if_neg ha] at x
    by_cases hb : b = 0
    · have := h2 x hb
      rw [if_neg (by omega)]; exact this
    · rw [if_neg hb] at y
      have := h1 x y
      rw [if_neg (by omega)]; exact this
theorem cB_pack (a b c : ByteArray) : (cB a b = 0 → cB b c = 0 → cB a c = 0) ∧ (cB a b = -1 → cB b c = -1 → cB a c = -1) ∧ (cB a b = -1 → cB b c = 0 → cB a c = -1) ∧ (cB a b = 0 → cB b c = -1 → cB a c = -1) := by
  refine ⟨fun h k => ?_, fun h k => cB_trans h k, fun h k => ?_, fun h k => ?_⟩
  · rw [cB_zero] at *; rw [h, k]
  · rw [cB_zero] at k; rw [← k]; exact h
  · rw [cB_zero] at h; rw [h]; exact k
theorem keyCmp_trans {a b c : Ent} (h : keyCmp a b = -1) (k : keyCmp b c = -1) : keyCmp a c = -1 := by
  obtain ⟨r0, r1, r2, r3⟩ := cB_pack a.row b.row c.row
  obtain ⟨f0, f1, f2, f3⟩ := cB_pack a.fam b.fam c.fam
  obtain ⟨q0, q1, q2, q3⟩ := cB_pack a.qual b.qual c.qual
  refine firstOf_trans r0 r1 r2 r3 (cB_vals _ _) (cB_vals _ _) (fun h k => ?_) h k
  refine firstOf_trans f0 f1 f2 f3 (cB_vals _ _) (cB_vals _ _) (fun h k => ?_) h k
  refine firstOf_trans q0 q1 q2 q3 (cB_vals _ _) (cB_vals _ _) (fun h k => ?_) h k
  refine firstOf_trans ?_ ?_ ?_ ?_ (tri_kind _ _) (tri_kind _ _) (fun h k => ?_) h k
  · unfold kindCmp; (repeat' split) <;> omega
  · unfold kindCmp; (repeat' split) <;> omega
  · unfold kindCmp; (repeat' split) <;> omega
  · unfold kindCmp; (repeat' split) <;> omega
  · unfold tsCmp at *
    (repeat' split at h) <;> (repeat' split at k) <;> (repeat' split) <;> omega
theorem keyCmp_self (a : Ent) : keyCmp a a = 0 := by
  have := keyCmp_neg a a
  omega

/-- Ordered, no key twice. -/
def Ord (l : List Ent) : Prop := l.Pairwise fun a b => keyCmp a b = -1
theorem ord_ext : ∀ {l m : List Ent}, Ord l → Ord m → (∀ x, x ∈ l ↔ x ∈ m) → l = m
  | [], [], _, _, _ => rfl
  | [], b :: m, _, _, h => by have := (h b).2 (by simp); simp at this
  | a :: l, [], _, _, h => by have := (h a).1 (by simp); simp at this
  | a :: l, b :: m, hl, hm, h => by
    have hl' := List.pairwise_cons.1 hl
    have hm' := List.pairwise_cons.1 hm
    have hab : a = b := by
      rcases List.mem_cons.1 ((h a).1 (by simp)) with e | e
      · exact e
      · rcases List.mem_cons.1 ((h b).2 (by simp)) with e' | e'
        · exact e'.symm
        · have h1 := hm'.1 a e
          have h2 := hl'.1 b e'
          have := keyCmp_neg a b
          omega
    subst hab
    congr 1
    refine ord_ext hl'.2 hm'.2 (fun x => ⟨fun hx => ?_, fun hx => ?_⟩)
    · rcases List.mem_cons.1 ((h x).1 (List.mem_cons_of_mem _ hx)) with e | e
      · subst e
        have := hl'.1 x hx
        rw [keyCmp_self] at this
        omega
      · exact e
    · rcases List.mem_cons.1 ((h x).2 (List.mem_cons_of_mem _ hx)) with e | e
      · subst e
        have := hm'.1 x hx
        rw [keyCmp_self] at this
        omega
      · exact e

theorem firstOf_zero {a b : Int} : firstOf a b = 0 ↔ a = 0 ∧ b = 0 := by
  unfold firstOf
  by_cases h : a = 0
  · simp [h]
  · simp [h]
theorem kindCmp_zero {a b : Int} : kindCmp a b = 0 ↔ (a = 2 ↔ b = 2) := by
  unfold kindCmp
  by_cases h : a = 2 <;> by_cases k : b = 2 <;> simp [h, k]
theorem tsCmp_zero {a b : Int} : tsCmp a b = 0 ↔ a = b := by
  unfold tsCmp
  (repeat' split) <;> omega
theorem keyCmp_zero {a b : Ent} : keyCmp a b = 0 ↔ a.row = b.row ∧ a.fam = b.fam ∧ a.qual = b.qual ∧ (a.kind = 2 ↔ b.kind = 2) ∧ a.ts = b.ts := by
  unfold keyCmp
  rw [firstOf_zero, firstOf_zero, firstOf_zero, firstOf_zero, cB_zero, cB_zero, cB_zero, kindCmp_zero, tsCmp_zero]
theorem kindCmp_congr {a b c : Int} (h : a = 2 ↔ b = 2) : kindCmp a c = kindCmp b c := by
  unfold kindCmp
  by_cases k : a = 2
  · rw [if_pos k, if_pos (h.1 k)]
  · rw [if_neg k, if_neg (fun x => k (h.2 x))]
theorem keyCmp_congr {a b c : Ent} (h : keyCmp a b = 0) : keyCmp a c = keyCmp b c := by
  obtain ⟨h1, h2, h3, h4, h5⟩ := keyCmp_zero.1 h
  unfold keyCmp
  rw [h1, h2, h3, h5, kindCmp_congr h4]

theorem intoG_true (e : Ent) : ∀ L : List Ent, (∀ x ∈ L, keyCmp e x = -1) → intoG e L true = L
  | [], _ => rfl
  | x :: r, h => by
    have h1 := h x (by simp)
    have h2 := keyCmp_neg e x
    have h3 : keyCmp x e = 1 := by omega
    unfold intoG
    rw [if_neg (by omega), if_neg (by omega), if_pos rfl, intoG_true e r (fun y hy => h y (List.mem_cons_of_mem _ hy))]
theorem into_spec (e : Ent) : ∀ L : List Ent, Ord L → Ord (intoG e L false) ∧ ∀ x, x ∈ intoG e L false ↔ x = e ∨ (x ∈ L ∧ keyCmp x e ≠ 0)
  | [], _ => ⟨by simp [intoG, Ord], fun x => by simp [intoG]⟩
  | x :: r, h => by
    have h' := List.pairwise_cons.1 h
    obtain ⟨ih1, ih2⟩ := into_spec e r h'.2
    rcases keyCmp_vals x e with hc | hc | hc
    · have e1 : intoG e (x :: r) false = x :: intoG e r false := by simp [intoG, hc]
      rw [e1]
      refine ⟨List.pairwise_cons.2 ⟨fun y hy => ?_, ih1⟩, fun y => ?_⟩
      · rcases (ih2 y).1 hy with rfl | ⟨hy, _⟩
        · exact hc
        · exact h'.1 y hy
      · rw [List.mem_cons, ih2, List.mem_cons]
        constructor
        · rintro (rfl | rfl | ⟨h1, h2⟩)
          · exact .inr ⟨.inl rfl, by omega⟩
          · exact .inl rfl
          · exact .inr ⟨.inr h1, h2⟩
        · rintro (rfl | ⟨rfl | h1, h2⟩)
          · exact .inr (.inl rfl)
          · exact .inl rfl
          · exact .inr (.inr ⟨h1, h2⟩)
    · have hr : ∀ y ∈ r, keyCmp e y = -1 := fun y hy => by rw [← keyCmp_congr hc]; exact h'.1 y hy
      have e1 : intoG e (x :: r) false = e :: r := by
        simp [intoG, hc, intoG_true e r hr]
      rw [e1]
      refine ⟨List.pairwise_cons.2 ⟨hr, h'.2⟩, fun y => ?_⟩
      rw [List.mem_cons, List.mem_cons]
      constructor
      · rintro (rfl | h1)
        · exact .inl rfl
        · have h2 := hr y h1
          have h3 := keyCmp_neg e y
          exact .inr ⟨.inr h1, by omega⟩
      · rintro (rfl | ⟨rfl | h1, h2⟩)
        · exact .inl rfl
        · exact absurd hc h2
        · exact .inr h1
    · have hx : keyCmp e x = -1 := by
        have := keyCmp_neg x e
        omega
      have hr : ∀ y ∈ r, keyCmp e y = -1 := fun y hy => keyCmp_trans hx (h'.1 y hy)
      have e1 : intoG e (x :: r) false = e :: x :: r := by
        simp [intoG, hc, intoG_true e r hr]
      rw [e1]
      refine ⟨List.pairwise_cons.2 ⟨fun y hy => ?_, h⟩, fun y => ?_⟩
      · rcases List.mem_cons.1 hy with rfl | hy
        · exact hx
        · exact hr y hy
      · rw [List.mem_cons]
        constructor
        · rintro (rfl | h1)
          · exact .inl rfl
          · refine .inr ⟨h1, ?_⟩
            have h3 := keyCmp_neg e y
            rcases List.mem_cons.1 h1 with rfl | h1
            · omega
            · have := hr y h1
              omega
        · rintro (rfl | ⟨h1, _⟩)
          · exact .inl rfl
          · exact .inr h1
end Go.Proofs.Ytlgeffinhbodeaf

/-
  spec.l1Stands, spec.l1GoodWrites.
-/
namespace Go.Proofs.Ytlgeffinhbodeaf
open Go.ChangeShapes Go.WideShapes Go.ChangeAt Go.RowKit Go.Deep
set_option linter.unusedVariables false

/-- Does the later write 'v' do away with 'e'? -/
def kills (v e : Ent) : Bool := sameCol v e && (if (v.kind == 2) = true then decide (e.ts ≤ v.ts) else (v.ts == e.ts))
/-- No write behind place 'i' does away with the one there. -/
def Stands (ws : List Ent) (i : Nat) : Prop := ∀ j v e, i < j → ws[j]? = some v → ws[i]? = some e → kills v e = false
def StandsTo (ws : List Ent) (i k : Nat) : Prop := ∀ j v e, i < j → j < k → ws[j]? = some v → ws[i]? = some e → kills v e = false
theorem standsTo_succ {ws : List Ent} {i k : Nat} {v e : Ent} (h : StandsTo ws i k) (hv : ws[k]? = some v) (he : ws[i]? = some e) (hk : kills v e = false) : StandsTo ws i (k + 1) := by
  intro j v' e' h1 h2 h3 h4
  by_cases hj : j = k
  · subst hj
    rw [hv] at h3; rw [he] at h4
    simp at h3 h4
    subst h3 h4
    exact hk
  · exact h j v' e' h1 (by omega) h3 h4

end Go.Proofs.Ytlgeffinhbodeaf

/-
  What a run keeps of a list of writes, as a property; it determines the run.
-/
namespace Go.Proofs.Ytlgeffinhbodeaf
set_option linter.unusedVariables false

theorem toList_inj {a b : ByteArray} (h : a.toList = b.toList) : a = b := by
  rw [ByteArray.toList_eq, ByteArray.toList_eq] at h
  cases a; cases b
  simp at h
  simpa using h
theorem sameCol_iff {a b : Ent} : sameCol a b = true ↔ a.row = b.row ∧ a.fam = b.fam ∧ a.qual = b.qual := by
  unfold sameCol
  simp only [Bool.and_eq_true, beq_iff_eq]
  constructor
  · rintro ⟨h1, h2, h3⟩; exact ⟨toList_inj h1, toList_inj h2, toList_inj h3⟩
  · rintro ⟨h1, h2, h3⟩; rw [h1, h2, h3]; exact ⟨rfl, rfl, rfl⟩
theorem size_zero_eq {a b : ByteArray} (h : a.size = 0) (k : b.size = 0) : a = b := by
  obtain ⟨⟨l⟩⟩ := a
  obtain ⟨⟨m⟩⟩ := b
  cases l with
  | nil => cases m with
    | nil => rfl
    | cons y m => simp [ByteArray.size] at k
  | cons x l => simp [ByteArray.size] at h
theorem vld_val {e : Ent} (h : e.vld = true) (k : e.kind = 2) : e.val.size = 0 := by
  unfold Ent.vld vE at h
  have := of_decide_eq_true h
  omega

/-- No delete of the same column has a larger timestamp. -/
def Largest (ws : List Ent) (e : Ent) : Prop := ∀ v ∈ ws, v.kind = 2 → sameCol v e = true → v.ts ≤ e.ts
def Keep (ws : List Ent) (i : Nat) (e : Ent) : Prop := (¬ e.kind = 2 ∧ Stands ws i) ∨ (e.kind = 2 ∧ Largest ws e)
def KeepTo (ws : List Ent) (k : Nat) (x : Ent) : Prop := ∃ i, i < k ∧ ws[i]? = some x ∧ Keep ws i x
/-- 'R' is what the first 'k' writes leave in the run of 'ws'. -/
def Kept (ws : List Ent) (k : Nat) (R : List Ent) : Prop := Ord R ∧ (∀ x, x ∈ R ↔ KeepTo ws k x)

theorem keep_uniq {ws : List Ent} (hv : ∀ x ∈ ws, x.vld = true) {i k : Nat} {x e : Ent} (hik : i < k) (hx : ws[i]? = some x) (he : ws[k]? = some e) (kx : Keep ws i x) (ke : Keep ws k e) (hz : keyCmp x e = 0) : x = e := by
  obtain ⟨h1, h2, h3, h4, h5⟩ := keyCmp_zero.1 hz
  rcases kx with ⟨hn, hs⟩ | ⟨h2k, _⟩
  · have := hs k e x hik he hx
    unfold kills at this
    rw [sameCol_iff.2 ⟨h1.symm, h2.symm, h3.symm⟩] at this
    have hn' : (e.kind == 2) = false := by simp; exact fun q => hn (h4.2 q)
    rw [hn', if_neg (by simp), h5] at this
    simp at this
  · have h2e := h4.1 h2k
    have v1 := vld_val (hv x (List.mem_of_getElem? hx)) h2k
    have v2 := vld_val (hv e (List.mem_of_getElem? he)) h2e
    obtain ⟨r, f, q, t, kk, v⟩ := x
    obtain ⟨r', f', q', t', kk', v'⟩ := e
    simp only at *
    subst h1 h2 h3 h5 h2k h2e
    rw [size_zero_eq v1 v2]

theorem kept_zero (ws : List Ent) : Kept ws 0 [] := ⟨List.Pairwise.nil, fun x => ⟨fun h => by simp at h, fun ⟨i, hi, _⟩ => by omega⟩⟩
theorem kept_skip {ws : List Ent} {k : Nat} {e : Ent} {R : List Ent} (h : Kept ws k R) (he : ws[k]? = some e) (hk : ¬ Keep ws k e) : Kept ws (k + 1) R := by
  refine ⟨h.1, fun x => (h.2 x).trans ⟨fun ⟨i, hi, h1, h2⟩ => ⟨i, by omega, h1, h2⟩, fun ⟨i, hi, h1, h2⟩ => ?_⟩⟩
  by_cases hik : i = k
  · subst hik
    rw [he] at h1
    simp at h1
    subst h1
    exact absurd h2 hk
  · exact ⟨i, by omega, h1, h2⟩
theorem kept_step {ws : List Ent} (hv : ∀ x ∈ ws, x.vld = true) {k : Nat} {e : Ent} {R : List Ent} (h : Kept ws k R) (he : ws[k]? = some e) (hk : Keep ws k e) : Kept ws (k + 1) (into R e) := by
  obtain ⟨h1, h2⟩ := into_spec e R h.1
  refine ⟨h1, fun x => (h2 x).trans ⟨?_, ?_⟩⟩
  · rintro (rfl | ⟨hx, _⟩)
    · exact ⟨k, by omega, he, hk⟩
    · obtain ⟨i, hi, a, b⟩ := (h.2 x).1 hx
      exact ⟨i, by omega, a, b⟩
  · rintro ⟨i, hi, a, b⟩
    by_cases hik : i = k
    · subst hik
      rw [he] at a
      simp at a
      exact .inl a.symm
    · by_cases hz : keyCmp x e = 0
      · exact .inl (keep_uniq hv (by omega) a he b hk hz)
      · exact .inr ⟨(h.2 x).2 ⟨i, by omega, a, b⟩, hz⟩
theorem kept_uniq {ws : List Ent} {k : Nat} {R S : List Ent} (h : Kept ws k R) (g : Kept ws k S) : R = S :=
  ord_ext h.1 g.1 (fun x => (h.2 x).trans (g.2 x).symm)
theorem length_into (L : List Ent) (e : Ent) : (into L e).length ≤ L.length + 1 := length_intoG e L false
end Go.Proofs.Ytlgeffinhbodeaf

/-
  What is left of a list of writes when it is played from its front: the puts of its run.
-/
namespace Go.Proofs.Ytlgeffinhbodeaf
set_option linter.unusedVariables false

/-- The list that is played up to 'k'. -/
def Rep (ws : List Ent) (k : Nat) (L : List Ent) : Prop := Ord L ∧ ∀ x, x ∈ L ↔ ∃ i, i < k ∧ ws[i]? = some x ∧ x.kind = 0 ∧ StandsTo ws i k
/-- A delete does away with this one. -/
def hit (x e : Ent) : Bool := sameCol x e && ((x.ts == e.ts) || ((e.kind == 2) && decide (x.ts ≤ e.ts)))

theorem sameCol_comm (a b : Ent) : sameCol a b = sameCol b a := by
  rw [Bool.eq_iff_iff, sameCol_iff, sameCol_iff]
  constructor <;> rintro ⟨h1, h2, h3⟩ <;> exact ⟨h1.symm, h2.symm, h3.symm⟩
theorem hit_kills (x e : Ent) : hit x e = kills e x := by
  unfold hit kills
  rw [sameCol_comm x e]
  cases sameCol e x
  · rfl
  · by_cases h2 : e.kind = 2
    · by_cases h : x.ts ≤ e.ts
      · simp [h2, h]
      · have : ¬ x.ts = e.ts := by omega
        simp [h2, h, this]
    · rw [Bool.eq_iff_iff]
      simp [h2]
      exact eq_comm

theorem rep_zero (ws : List Ent) : Rep ws 0 [] := ⟨List.Pairwise.nil, fun x => ⟨fun h => by simp at h, fun ⟨i, hi, _⟩ => by omega⟩⟩
theorem standsTo_self (ws : List Ent) (k : Nat) : StandsTo ws k (k + 1) := fun j v e h1 h2 => by omega
theorem standsTo_iff {ws : List Ent} {i k : Nat} {x e : Ent} (hx : ws[i]? = some x) (he : ws[k]? = some e) (hik : i < k) : StandsTo ws i (k + 1) ↔ StandsTo ws i k ∧ kills e x = false :=
  ⟨fun h => ⟨fun j v y h1 h2 => h j v y h1 (by omega), h k e x hik (by omega) he hx⟩, fun h => standsTo_succ h.1 he hx h.2⟩
theorem key_kills {x e : Ent} (hx : x.kind = 0) (he : e.kind = 0) : keyCmp x e = 0 ↔ kills e x = true := by
  rw [keyCmp_zero]
  unfold kills
  simp [sameCol_iff, hx, he]
  constructor
  · rintro ⟨h1, h2, h3, h4⟩; exact ⟨⟨h1.symm, h2.symm, h3.symm⟩, h4.symm⟩
  · rintro ⟨⟨h1, h2, h3⟩, h4⟩; exact ⟨h1.symm, h2.symm, h3.symm, h4.symm⟩
theorem rep_put {ws : List Ent} {k : Nat} {e : Ent} {L : List Ent} (h : Rep ws k L) (he : ws[k]? = some e) (h0 : e.kind = 0) : Rep ws (k + 1) (into L e) := by
  obtain ⟨h1, h2⟩ := into_spec e L h.1
  refine ⟨h1, fun x => (h2 x).trans ⟨?_, ?_⟩⟩
  · rintro (rfl | ⟨hx, hz⟩)
    · exact ⟨k, by omega, he, h0, standsTo_self ws k⟩
    · obtain ⟨i, hi, a, b, c⟩ := (h.2 x).1 hx
      refine ⟨i, by omega, a, b, (standsTo_iff a he hi).2 ⟨c, ?_⟩⟩
      cases hk : kills e x
      · rfl
      · exact absurd ((key_kills b h0).2 hk) hz
  · rintro ⟨i, hi, a, b, c⟩
    by_cases hik : i = k
    · subst hik
      rw [he] at a
      simp at a
      exact .inl a.symm
    · obtain ⟨c1, c2⟩ := (standsTo_iff a he (by omega)).1 c
      refine .inr ⟨(h.2 x).2 ⟨i, by omega, a, b, c1⟩, fun hz => ?_⟩
      rw [(key_kills b h0).1 hz] at c2
      cases c2
theorem rep_del {ws : List Ent} {k : Nat} {e : Ent} {L : List Ent} (h : Rep ws k L) (he : ws[k]? = some e) (h0 : ¬ e.kind = 0) : Rep ws (k + 1) (L.filter fun x => !(hit x e)) := by
  refine ⟨h.1.filter _, fun x => ?_⟩
  rw [List.mem_filter, hit_kills, h.2 x]
  constructor
  · rintro ⟨⟨i, hi, a, b, c⟩, hk⟩
    exact ⟨i, by omega, a, b, (standsTo_iff a he hi).2 ⟨c, by simpa using hk⟩⟩
  · rintro ⟨i, hi, a, b, c⟩
    by_cases hik : i = k
    · subst hik
      rw [he] at a
      simp at a
      subst a
      exact absurd b h0
    · obtain ⟨c1, c2⟩ := (standsTo_iff a he (by omega)).1 c
      exact ⟨⟨i, by omega, a, b, c1⟩, by simp [c2]⟩

/-- The puts of a list of entries. -/
def puts (R : List Ent) : List Ent := R.filter fun x => x.kind == 0
theorem length_puts (R : List Ent) : (puts R).length ≤ R.length := List.length_filter_le _ _
theorem rep_kept {ws L R : List Ent} (h : Rep ws ws.length L) (hk : Kept ws ws.length R) : L = puts R := by
  refine ord_ext h.1 (hk.1.filter _) (fun x => ?_)
  rw [h.2 x]
  unfold puts
  rw [List.mem_filter, hk.2 x]
  constructor
  · rintro ⟨i, hi, a, b, c⟩
    refine ⟨⟨i, hi, a, .inl ⟨by omega, fun j v e h1 h2 h3 => c j v e h1 (List.getElem?_eq_some_iff.1 h2).1 h2 h3⟩⟩, by simp [b]⟩
  · rintro ⟨⟨i, hi, a, b⟩, h0⟩
    have h0' : x.kind = 0 := by simpa using h0
    rcases b with ⟨_, hs⟩ | ⟨h2, _⟩
    · exact ⟨i, hi, a, h0', fun j v e h1 _ h2 h3 => hs j v e h1 h2 h3⟩
    · omega
end Go.Proofs.Ytlgeffinhbodeaf

/-
  What a stack of runs shows.
-/
namespace Go.Proofs.Ytlgeffinhbodeaf
set_option linter.unusedVariables false
set_option linter.unusedSimpArgs false

theorem okPair_key {p e : Ent} (h : okPair p e = true) : keyCmp p e = -1 := by
  unfold okPair at h
  simp only [Bool.and_eq_true, decide_eq_true_eq, Bool.not_eq_true', beq_iff_eq] at h
  first
    | exact h.1
    | exact h.2
    | (have h1 := h.1; have h2 := h.2; rcases keyCmp_vals p e with q | q | q <;> simp_all)
theorem ord_of_adj : ∀ (l : List Ent), (∀ i p e, l[i]? = some p → l[i + 1]? = some e → keyCmp p e = -1) → Ord l
  | [], _ => List.Pairwise.nil
  | [a], _ => by simp [Ord]
  | a :: b :: r, h => by
    have ih := ord_of_adj (b :: r) (fun i p e h1 h2 => h (i + 1) p e (by simpa using h1) (by simpa using h2))
    have hab : keyCmp a b = -1 := h 0 a b rfl rfl
    refine List.pairwise_cons.2 ⟨fun x hx => ?_, ih⟩
    rcases List.mem_cons.1 hx with rfl | hx
    · exact hab
    · exact keyCmp_trans hab ((List.pairwise_cons.1 ih).1 x hx)
theorem ord_of_good {es : List Ent} (h : GoodR es) : Ord es := ord_of_adj es (fun i p e h1 h2 => okPair_key (h.2 i p e h1 h2))
theorem ord_get {l : List Ent} (h : Ord l) {i j : Nat} {x y : Ent} (hij : i < j) (hx : l[i]? = some x) (hy : l[j]? = some y) : keyCmp x y = -1 := by
  obtain ⟨h1, rfl⟩ := List.getElem?_eq_some_iff.1 hx
  obtain ⟨h2, rfl⟩ := List.getElem?_eq_some_iff.1 hy
  exact List.pairwise_iff_getElem.1 h i j h1 h2 hij

def GoodRs (rs : List (List Ent)) : Prop := rs.length ≤ 50 ∧ ∀ es ∈ rs, GoodR es
/-- An entry at a place. -/
def At (rs : List (List Ent)) (i j : Nat) (x : Ent) : Prop := ∃ es, rs[i]? = some es ∧ es[j]? = some x
/-- Some newer run does away with it. -/
def HidTo (rs : List (List Ent)) (k : Nat) (x : Ent) : Prop := ∃ m ds d, m < k ∧ rs[m]? = some ds ∧ d ∈ ds ∧ kills d x = true
def Good (rs : List (List Ent)) (inr : ByteArray → Bool) (i : Nat) (x : Ent) : Prop := x.kind = 0 ∧ inr x.row = true ∧ ¬ HidTo rs i x
def MrgTo (rs : List (List Ent)) (inr : ByteArray → Bool) (i j : Nat) (L : List Ent) : Prop :=
  Ord L ∧ ∀ x, x ∈ L ↔ ∃ i' j', (i' < i ∨ (i' = i ∧ j' < j)) ∧ At rs i' j' x ∧ Good rs inr i' x
def Mrg (rs : List (List Ent)) (inr : ByteArray → Bool) (L : List Ent) : Prop := Ord L ∧ ∀ x, x ∈ L ↔ ∃ i j, At rs i j x ∧ Good rs inr i x
def MrgOf (rs : List (List Ent)) (inr : ByteArray → Bool) (L : List Ent) : Prop := (GoodRs rs → Mrg rs inr L) ∧ (¬ GoodRs rs → L = [])
theorem mrgOf_uniq {rs : List (List Ent)} {inr : ByteArray → Bool} {L M : List Ent} (h : MrgOf rs inr L) (k : MrgOf rs inr M) : L = M := by
  by_cases g : GoodRs rs
  · exact ord_ext (h.1 g).1 (k.1 g).1 (fun x => ((h.1 g).2 x).trans ((k.1 g).2 x).symm)
  · rw [h.2 g, k.2 g]

theorem mrgTo_zero (rs : List (List Ent)) (inr : ByteArray → Bool) : MrgTo rs inr 0 0 [] :=
  ⟨List.Pairwise.nil, fun x => ⟨fun h => by simp at h, fun ⟨i, j, h, _⟩ => by omega⟩⟩
theorem mrgTo_row {rs : List (List Ent)} {inr : ByteArray → Bool} {i j : Nat} {es L : List Ent} (h : MrgTo rs inr i j L) (he : rs[i]? = some es) (hj : es.length ≤ j) : MrgTo rs inr (i + 1) 0 L := by
  refine ⟨h.1, fun x => (h.2 x).trans ⟨?_, ?_⟩⟩
  · rintro ⟨i', j', hp, ha, hg⟩
    exact ⟨i', j', by omega, ha, hg⟩
  · rintro ⟨i', j', hp, ⟨fs, h1, h2⟩, hg⟩
    refine ⟨i', j', ?_, ⟨fs, h1, h2⟩, hg⟩
    by_cases hii : i' = i
    · subst hii
      rw [he] at h1
      simp at h1
      subst h1
      have := (List.getElem?_eq_some_iff.1 h2).1
      omega
    · omega
theorem mrgTo_skip {rs : List (List Ent)} {inr : ByteArray → Bool} {i j : Nat} {e : Ent} {L : List Ent} (h : MrgTo rs inr i j L) (he : At rs i j e) (hn : ¬ Good rs inr i e) : MrgTo rs inr i (j + 1) L := by
  refine ⟨h.1, fun x => (h.2 x).trans ⟨?_, ?_⟩⟩
  · rintro ⟨i', j', hp, ha, hg⟩
    exact ⟨i', j', by omega, ha, hg⟩
  · rintro ⟨i', j', hp, ha, hg⟩
    refine ⟨i', j', ?_, ha, hg⟩
    by_cases hq : i' = i ∧ j' = j
    · obtain ⟨rfl, rfl⟩ := hq
      obtain ⟨es, h1, h2⟩ := he
      obtain ⟨fs, h3, h4⟩ := ha
      rw [h1] at h3
      simp at h3
      subst h3
      rw [h2] at h4
      simp at h4
      subst h4
      exact absurd hg hn
    · omega
theorem mrgTo_put {rs : List (List Ent)} {inr : ByteArray → Bool} {i j : Nat} {e : Ent} {L : List Ent} (hG : GoodRs rs) (h : MrgTo rs inr i j L) (he : At rs i j e) (hg : Good rs inr i e) : MrgTo rs inr i (j + 1) (into L e) := by
  obtain ⟨h1, h2⟩ := into_spec e L h.1
  have uniq : ∀ x i' j', (i' < i ∨ (i' = i ∧ j' < j)) → At rs i' j' x → Good rs inr i' x → keyCmp x e ≠ 0 := by
    rintro x i' j' hp ⟨fs, a1, a2⟩ hx hz
    rcases hp with hp | ⟨rfl, hp⟩
    · exact hg.2.2 ⟨i', fs, x, hp, a1, List.mem_of_getElem? a2, by
        obtain ⟨k1, k2, k3, k4, k5⟩ := keyCmp_zero.1 hz
        unfold kills
        have hk : ¬ x.kind = 2 := by have := hx.1; omega
        simp [sameCol_iff, hk, k1, k2, k3, k5]⟩
    · obtain ⟨es, b1, b2⟩ := he
      rw [b1] at a1
      simp at a1
      subst a1
      have := ord_get (ord_of_good (hG.2 es (List.mem_of_getElem? b1))) hp a2 b2
      omega
  refine ⟨h1, fun x => (h2 x).trans ⟨?_, ?_⟩⟩
  · rintro (rfl | ⟨hx, _⟩)
    · exact ⟨i, j, by omega, he, hg⟩
    · obtain ⟨i', j', hp, ha, hg'⟩ := (h.2 x).1 hx
      exact ⟨i', j', by omega, ha, hg'⟩
  · rintro ⟨i', j', hp, ha, hg'⟩
    by_cases hq : i' = i ∧ j' = j
    · obtain ⟨rfl, rfl⟩ := hq
      obtain ⟨es, a1, a2⟩ := he
      obtain ⟨fs, a3, a4⟩ := ha
      rw [a1] at a3
      simp at a3
      subst a3
      rw [a2] at a4
      simp at a4
      exact .inl a4.symm
    · have hp' : i' < i ∨ (i' = i ∧ j' < j) := by omega
      exact .inr ⟨(h.2 x).2 ⟨i', j', hp', ha, hg'⟩, uniq x i' j' hp' ha hg'⟩
theorem mrg_of_to {rs : List (List Ent)} {inr : ByteArray → Bool} {i j : Nat} {L : List Ent} (h : MrgTo rs inr i j L) (hi : rs.length ≤ i) : Mrg rs inr L := by
  refine ⟨h.1, fun x => (h.2 x).trans ⟨?_, ?_⟩⟩
  · rintro ⟨i', j', hp, ha, hg⟩
    exact ⟨i', j', ha, hg⟩
  · rintro ⟨i', j', ⟨es, h1, h2⟩, hg⟩
    have := (List.getElem?_eq_some_iff.1 h1).1
    exact ⟨i', j', by omega, ⟨es, h1, h2⟩, hg⟩
theorem hidTo_zero (rs : List (List Ent)) (x : Ent) : ¬ HidTo rs 0 x := fun ⟨m, _, _, h, _⟩ => by omega
theorem hidTo_succ {rs : List (List Ent)} {k : Nat} {x : Ent} {ds : List Ent} (hd : rs[k]? = some ds) : HidTo rs (k + 1) x ↔ HidTo rs k x ∨ ∃ d ∈ ds, kills d x = true := by
  constructor
  · rintro ⟨m, es, d, h1, h2, h3, h4⟩
    by_cases hm : m = k
    · subst hm
      rw [hd] at h2
      simp at h2
      subst h2
      exact .inr ⟨d, h3, h4⟩
    · exact .inl ⟨m, es, d, by omega, h2, h3, h4⟩
  · rintro (⟨m, es, d, h1, h2, h3, h4⟩ | ⟨d, h3, h4⟩)
    · exact ⟨m, es, d, by omega, h2, h3, h4⟩
    · exact ⟨k, ds, d, by omega, hd, h3, h4⟩
theorem mrgTo_len {rs : List (List Ent)} {inr : ByteArray → Bool} {i j : Nat} {L : List Ent} (h : MrgTo rs inr i j L) : ∀ x ∈ L, x ∈ rs.flatten := by
  intro x hx
  obtain ⟨i', j', _, ⟨es, h1, h2⟩, _⟩ := (h.2 x).1 hx
  exact List.mem_flatten.2 ⟨es, List.mem_of_getElem? h1, List.mem_of_getElem? h2⟩
theorem mrg_len {rs : List (List Ent)} {inr : ByteArray → Bool} {L : List Ent} (h : Mrg rs inr L) : ∀ x ∈ L, x ∈ rs.flatten := by
  intro x hx
  obtain ⟨i', j', ⟨es, h1, h2⟩, _⟩ := (h.2 x).1 hx
  exact List.mem_flatten.2 ⟨es, List.mem_of_getElem? h1, List.mem_of_getElem? h2⟩
end Go.Proofs.Ytlgeffinhbodeaf

/-
  Runs that are valid: the loop of spec.ValidRun.
-/
namespace Go.Proofs.Ytlgeffinhbodeaf
open Go.ChangeShapes Go.WideShapes Go.ChangeAt Go.RowKit Go.Deep
set_option linter.unusedVariables false

theorem okPair_f1 {p e : Ent} (h : (keyCmp p e != -1) = true) : okPair p e = false := by
  unfold okPair; simp at h; simp [h]
theorem okPair_t1 {p e : Ent} (h : (keyCmp p e != -1) = false) (h2 : (p.kind == 2) = false) : okPair p e = true := by
  unfold okPair; simp at h; simp [h, h2]
theorem okPair_t2 {p e : Ent} (h : (keyCmp p e != -1) = false) (h2 : (e.kind == 2) = false) : okPair p e = true := by
  unfold okPair; simp at h; simp [h, h2]
theorem okPair_s {p e : Ent} (h : (keyCmp p e != -1) = false) (h2 : (p.kind == 2) = true) (h3 : (e.kind == 2) = true) : okPair p e = !sameCol p e := by
  unfold okPair; simp at h; simp [h, h2, h3]

/-- How the test of spec.ValidRun on two neighbours comes out. -/
theorem pair_ways (p e : Ent) :
    ((keyCmp p e != -1) = true ∧ okPair p e = false) ∨ ((keyCmp p e != -1) = false ∧ (p.kind == 2) = false ∧ okPair p e = true) ∨
    ((keyCmp p e != -1) = false ∧ (p.kind == 2) = true ∧ (e.kind == 2) = false ∧ okPair p e = true) ∨
    ((keyCmp p e != -1) = false ∧ (p.kind == 2) = true ∧ (e.kind == 2) = true ∧ sameCol p e = true ∧ okPair p e = false) ∨
    ((keyCmp p e != -1) = false ∧ (p.kind == 2) = true ∧ (e.kind == 2) = true ∧ sameCol p e = false ∧ okPair p e = true) := by
  cases h1 : (keyCmp p e != -1)
  · cases h2 : (p.kind == 2)
    · exact .inr (.inl ⟨rfl, rfl, okPair_t1 h1 h2⟩)
    · cases h3 : (e.kind == 2)
      · exact .inr (.inr (.inl ⟨rfl, rfl, rfl, okPair_t2 h1 h3⟩))
      · cases h4 : sameCol p e
        · exact .inr (.inr (.inr (.inr ⟨rfl, rfl, rfl, rfl, by rw [okPair_s h1 h2 h3, h4]; rfl⟩)))
        · exact .inr (.inr (.inr (.inl ⟨rfl, rfl, rfl, rfl, by rw [okPair_s h1 h2 h3, h4]; rfl⟩)))
  · exact .inl ⟨rfl, okPair_f1 h1⟩

set_option maxHeartbeats 2000000 in
theorem specValidRun_core (b off cap : Nat) (es : List Ent) (w : World) (hE : EntsAt w b off es) (hok : ∀ e ∈ es, e.ok) (hB : b < w.heap.size) (hlen : es.length ≤ cap) (hcap : cap ≤ maxLen) :
    Calls Try.prog 99 #[.agg #[.slice (some ⟨b, off, none⟩) es.length cap]] w fun e w' =>
      ∃ r : Bool, e = .returned (.bool r) ∧ (r = true ↔ GoodR es) ∧ Below w.heap.size w w' := by
  obtain ⟨W0, hW0⟩ : ∃ W0 : World, W0 = w.alloc (Obj.cells #[.slice (some ⟨b, off, none⟩) es.length cap] 101) := ⟨_, rfl⟩
  have hb0 : Below w.heap.size w W0 := by rw [hW0]; exact (Below.refl _ _).alloc (Nat.le_refl _) _
  have hz0 : w.heap.size < W0.heap.size := by rw [hW0]; simp
  have ca : W0.cell? ⟨w.heap.size, 0, none⟩ = some (.slice (some ⟨b, off, none⟩) es.length cap) := by rw [hW0]; simp
  have HE : Hid (EntsAt W0 b off es) := hE.below hb0 hB
  have HO : Hid (∀ e ∈ es, e.ok) := hok
  clear hE hok
  unfold maxLen at hcap
  by_cases hbig : 10000 < es.length
  · have H : Hid (¬ GoodR es) := fun h => by have := h.1.1; omega
    go_enter Try.func99, Try.ntmps99
    go_wp2
    go_ret
    exact ⟨_, rfl, iffF H.out, (Below.refl _ _).alloc (Nat.le_refl _) _⟩
  go_enter Try.func99, Try.ntmps99
  go_wp2_with fail
  rw [← hW0]
  clear hW0
  go_loopw [3] (fun i wr => ∃ (k : Nat), k ≤ es.length ∧ i = .int .i64 k ∧ (∀ x ∈ es.take k, x.vld = true) ∧ PairsTo es k ∧ Below W0.heap.size W0 wr) (fun i _ => es.length - (intOf i).toNat)
  case atStart => exact ⟨0, Nat.zero_le _, rfl, by simp, fun i p e hi => by omega, Below.refl _ _⟩
  case round =>
    obtain ⟨k, hk, rfl, hv, hP, hb⟩ := hrel
    have HV : Hid ((∀ x ∈ es.take k, x.vld = true) ∧ PairsTo es k) := ⟨hv, hP⟩
    clear hv hP
    have hs2 := hb.size
    have car : wr.cell? ⟨w.heap.size, 0, none⟩ = some (.slice (some ⟨b, off, none⟩) es.length cap) := by rw [hb.cell (p := ⟨w.heap.size, 0, none⟩) (by show w.heap.size < _; omega)]; exact ca
    by_cases hlt : k < es.length
    · obtain ⟨e, he⟩ : ∃ e, es[k]? = some e := ⟨_, List.getElem?_eq_getElem hlt⟩
      have HEr := HE.out.below hb (by omega)
      obtain ⟨c0, c1, c2, c3, c4, c5⟩ := HEr k e he
      have HK : Hid (e.ok ∧ es[k]? = some e ∧ EntsAt wr b off es) := ⟨HO.out e (List.mem_of_getElem? he), he, HEr⟩
      clear he HEr
      go_wp2_with fail
      refine (specValid_core e.row e.fam e.qual e.val e.ts e.kind _ HK.out.1.row HK.out.1.fam HK.out.1.qual HK.out.1.val).mono ?_
      rintro e' w1 ⟨rfl, hb1⟩
      obtain ⟨hc1, hf1⟩ := bcell hb1
      have hz1 : wr.heap.size < w1.heap.size := by have := hb1.size; simp at this; omega
      have hb2 := (hb.alloc hb.size (Obj.cells #[.string e.row, .string e.fam, .string e.qual, .int .u64 e.ts, .int .i64 e.kind, .string e.val] 106)).trans (hb1.mono (by simp; omega))
      clear c0 c1 c2 c3 c4 c5
      cases hv : vE e.row e.fam e.qual e.kind e.val
      · have H : Hid (¬ GoodR es) := fun h => by
          have := h.1.2 e (List.mem_of_getElem? HK.out.2.1)
          unfold Ent.vld at this
          rw [hv] at this
          cases this
        go_wp2_with fail
        go_ret
        exact ⟨_, rfl, iffF H.out, hb0.trans (hb2.mono (by omega))⟩
      · have H : Hid (∀ x ∈ es.take (k + 1), x.vld = true) := vld_of_take HV.out.1 HK.out.2.1 hv
        by_cases hk0 : k = 0
        · subst hk0
          go_wp2_with fail
          go_roundw
          case rel => exact ⟨0 + 1, by omega, by go_num, H.out, fun i p e hi => by omega, hb2⟩
          case measure => simp [intOf]; omega
        · obtain ⟨m, rfl⟩ : ∃ m, k = m + 1 := ⟨k - 1, by omega⟩
          obtain ⟨p, hp⟩ : ∃ e, es[m]? = some e := ⟨_, List.getElem?_eq_getElem (by omega)⟩
          have hbw : Below wr.heap.size wr w1 := ((Below.refl _ _).alloc (Nat.le_refl _) (Obj.cells #[.string e.row, .string e.fam, .string e.qual, .int .u64 e.ts, .int .i64 e.kind, .string e.val] 106)).trans (hb1.mono (by simp))
          have car1 : w1.cell? ⟨w.heap.size, 0, none⟩ = some (.slice (some ⟨b, off, none⟩) es.length cap) := by rw [hbw.cell (p := ⟨w.heap.size, 0, none⟩) (by show w.heap.size < _; omega)]; exact car
          obtain ⟨d0, d1, d2, d3, d4, d5⟩ := HK.out.2.2.below hbw (by omega) m p hp
          have HKp : Hid (es[m]? = some p) := hp
          clear hp
          have hw : IntKind.i64.wrap (m : Int) = (m : Int) := Go.IntWalk.i64_in _ (by omega)
          go_wp2_with fail
          refine (specCompareKeys_any p e _).mono ?_
          rintro e' w2 ⟨rfl, hb3⟩
          obtain ⟨hc3, hf3⟩ := bcell hb3
          have hz3 : w1.heap.size < w2.heap.size := by have := hb3.size; simp at this; omega
          have hb4 := (hb2.alloc hb2.size (Obj.cells #[.string p.row, .string p.fam, .string p.qual, .int .u64 p.ts, .int .i64 p.kind, .string p.val] 106)).trans (hb3.mono (by have := hb2.size; simp; omega))
          clear d0 d1 d2 d3 d4 d5
          rcases pair_ways p e with ⟨g1, ho⟩ | ⟨g1, g2, ho⟩ | ⟨g1, g2, g3, ho⟩ | ⟨g1, g2, g3, g4, ho⟩ | ⟨g1, g2, g3, g4, ho⟩
          · have H2 : Hid (¬ GoodR es) := fun h => by
              have := h.2 m p e HKp.out HK.out.2.1
              rw [ho] at this; cases this
            go_wp2_with fail
            go_ret
            exact ⟨_, rfl, iffF H2.out, hb0.trans (hb4.mono (by omega))⟩
          · have H2 : Hid (PairsTo es (m + 1 + 1)) := pairsTo_succ HV.out.2 HKp.out HK.out.2.1 ho
            go_wp2_with fail
            go_roundw
            case rel => exact ⟨m + 1 + 1, by omega, by go_num, H.out, H2.out, hb4⟩
            case measure => simp [intOf]; omega
          · have H2 : Hid (PairsTo es (m + 1 + 1)) := pairsTo_succ HV.out.2 HKp.out HK.out.2.1 ho
            go_wp2_with fail
            go_roundw
            case rel => exact ⟨m + 1 + 1, by omega, by go_num, H.out, H2.out, hb4⟩
            case measure => simp [intOf]; omega
          · have H2 : Hid (¬ GoodR es) := fun h => by
              have := h.2 m p e HKp.out HK.out.2.1
              rw [ho] at this; cases this
            go_wp2_with fail
            refine (sameColumn_any p e _).mono ?_
            rintro e' w3 ⟨rfl, hb5⟩
            have hb6 := hb4.trans (hb5.mono hb4.size)
            go_wp2_with fail
            go_ret
            exact ⟨_, rfl, iffF H2.out, hb0.trans (hb6.mono (by omega))⟩
          · have H2 : Hid (PairsTo es (m + 1 + 1)) := pairsTo_succ HV.out.2 HKp.out HK.out.2.1 ho
            go_wp2_with fail
            refine (sameColumn_any p e _).mono ?_
            rintro e' w3 ⟨rfl, hb5⟩
            have hb6 := hb4.trans (hb5.mono hb4.size)
            go_wp2_with fail
            go_roundw
            case rel => exact ⟨m + 1 + 1, by omega, by go_num, H.out, H2.out, hb6⟩
            case measure => simp [intOf]; omega
    · go_wp2_with fail
      go_ret
      refine ⟨_, rfl, iffT ⟨⟨by omega, fun e he => ?_⟩, pairs_of_to HV.out.2 (by omega)⟩, hb0.trans (hb.mono (by omega))⟩
      have := HV.out.1
      rw [List.take_of_length_le (by omega)] at this
      exact this e he
end Go.Proofs.Ytlgeffinhbodeaf

/-
  A region that draws its order, whose operations read and whose callees leave alone what lay there: one walk.
-/
namespace Go.Proofs.Ytlgeffinhbodeaf
open Go.ChangeShapes Go.WideShapes Go.ChangeAt Go.RowKit Go.Deep
set_option linter.unusedVariables false

/-- A world that has grown out of 'w'. -/
structure Out (w : World) where
  u : World
  out : Below w.heap.size w u

theorem wp_region_out {id : Nat} {Q : Exit → Act → World → Prop} {a : Act} {w : World} {l : List Oper} (hm : Try.prog.follows .mixedOrders = true) (hB : Region.lexB .any l.toArray = true)
    (h : wpQuiet Try.prog l.toArray (fun w' => ∃ n : Out w, w' = n.u) (fun a' => ∀ w', (∃ n : Out w, w' = n.u) → Q .normal a' w') l a) : (Code.region id l.toArray true).wp Try.prog Q a w :=
  wp_region_quiet (C := fun w' => ∃ n : Out w, w' = n.u) hm hB ⟨⟨_, (Below.refl _ _).drew⟩, rfl⟩ (by simpa using h)
theorem Calls.out_of {f : FuncId} {args : Array Value} {w : World} {n : Out w} {v : Value}
    (h : Calls Try.prog f args n.u fun e w' => e = .returned v ∧ Below n.u.heap.size n.u w') : Calls Try.prog f args n.u fun e w'' => e = .returned v ∧ ∃ m : Out w, w'' = m.u :=
  h.mono fun _ w' ⟨he, hb⟩ => ⟨he, ⟨w', n.out.trans (hb.mono n.out.size)⟩, rfl⟩
theorem ents_out {w : World} {b off j : Nat} {L : List Ent} {x : Ent} (h : EntsAt w b off L) (hb : b < w.heap.size) (hx : L[j]? = some x) :
    (∀ n : Out w, n.u.cell? ⟨b, off + j * 6, none⟩ = some (.string x.row)) ∧ (∀ n : Out w, n.u.cell? ⟨b, off + j * 6 + 1, none⟩ = some (.string x.fam)) ∧ (∀ n : Out w, n.u.cell? ⟨b, off + j * 6 + 2, none⟩ = some (.string x.qual)) ∧
    (∀ n : Out w, n.u.cell? ⟨b, off + j * 6 + 3, none⟩ = some (.int .u64 x.ts)) ∧ (∀ n : Out w, n.u.cell? ⟨b, off + j * 6 + 4, none⟩ = some (.int .i64 x.kind)) ∧ (∀ n : Out w, n.u.cell? ⟨b, off + j * 6 + 5, none⟩ = some (.string x.val)) :=
  ⟨fun n => (h.below n.out hb j x hx).1, fun n => (h.below n.out hb j x hx).2.1, fun n => (h.below n.out hb j x hx).2.2.1, fun n => (h.below n.out hb j x hx).2.2.2.1, fun n => (h.below n.out hb j x hx).2.2.2.2.1, fun n => (h.below n.out hb j x hx).2.2.2.2.2⟩
end Go.Proofs.Ytlgeffinhbodeaf

/-
  Ranges by value: the contracts of szRange, toRange, spec.InRange, impl.InRange.
-/
namespace Go.Proofs.Ytlgeffinhbodeaf
open Go.ChangeShapes Go.WideShapes Go.ChangeAt Go.RowKit Go.Deep

/-- Whether a row is in a range. -/
def inR (lo : ByteArray) (hh : Bool) (hi row : ByteArray) : Bool := !Op.bytesLess row.toList lo.toList && (!hh || Op.bytesLess row.toList hi.toList)

set_option maxHeartbeats 400000 in
theorem specInRange_core (lo hi row : ByteArray) (hh : Bool) (w : World) :
    Calls Try.prog 58 #[.agg #[.string lo, .bool hh, .string hi], .string row] w fun e w' =>
      e = .returned (.bool (inR lo hh hi row)) ∧ Below w.heap.size w w' := by
  unfold inR
  cases hb : Op.bytesLess row.toList lo.toList <;> cases hh
  all_goals
    go_enter Try.func58, Try.ntmps58
    go_wp2
    go_ret
    exact ⟨by simp, (Below.refl _ _).alloc (Nat.le_refl _) _⟩

end Go.Proofs.Ytlgeffinhbodeaf

/-
  Runs in memory, each a slice that is not nil; spec.l3GoodRuns, impl.validStack, spec.l3Says.
-/
namespace Go.Proofs.Ytlgeffinhbodeaf
open Go.ChangeShapes Go.WideShapes Go.ChangeAt Go.RowKit Go.Deep
set_option linter.unusedVariables false
set_option linter.unusedSimpArgs false

/-- A run: where its entries lie, and what they are. -/
structure Rm where
  b : Nat
  off : Nat
  cap : Nat
  es : List Ent
abbrev Rm.u (r : Rm) : Value := .slice (some ⟨r.b, r.off, none⟩) r.es.length r.cap
structure Rm.at (w : World) (r : Rm) : Prop where
  ents : EntsAt w r.b r.off r.es
  lt : r.b < w.heap.size
  len : r.es.length ≤ r.cap
  cap : r.cap ≤ maxLen
theorem Rm.at.below {w w' : World} {r : Rm} (h : r.at w) (hb : Below w.heap.size w w') : r.at w' := ⟨h.ents.below hb h.lt, by have := hb.size; have := h.lt; omega, h.len, h.cap⟩
def RmsAt (w : World) (b off : Nat) (l : List Rm) : Prop := ∀ i r, l[i]? = some r → w.cell? ⟨b, off + i, none⟩ = some r.u ∧ r.at w
theorem RmsAt.below {w w' : World} {b off : Nat} {l : List Rm} (h : RmsAt w b off l) (hb : Below w.heap.size w w') (hlt : b < w.heap.size) : RmsAt w' b off l := by
  intro i r hr
  obtain ⟨h1, h2⟩ := h i r hr
  exact ⟨by rw [hb.cell (p := ⟨b, off + i, none⟩) (by exact hlt)]; exact h1, h2.below hb⟩
def okM (l : List Rm) : Prop := ∀ r ∈ l, ∀ e ∈ r.es, e.ok
abbrev esM (l : List Rm) : List (List Ent) := l.map Rm.es

theorem goodRs_of {l : List Rm} (h : l.length ≤ 50) (k : ∀ r ∈ l, GoodR r.es) : GoodRs (esM l) := by
  refine ⟨by simpa using h, fun es he => ?_⟩
  obtain ⟨r, hr, rfl⟩ := List.mem_map.1 he
  exact k r hr
theorem goodRs_mem {l : List Rm} (h : GoodRs (esM l)) {r : Rm} (hr : r ∈ l) : GoodR r.es := h.2 _ (List.mem_map.2 ⟨r, hr, rfl⟩)
theorem mem_take_succ {α : Type} {l : List α} {k : Nat} {a x : α} (h : l[k]? = some a) (hx : x ∈ l.take (k + 1)) : x ∈ l.take k ∨ x = a := by
  rw [List.take_add_one, h] at hx
  simpa using hx

set_option maxHeartbeats 1000000 in
theorem goodRuns_core (b off cap : Nat) (l : List Rm) (w : World) (hR : RmsAt w b off l) (hok : okM l) (hB : b < w.heap.size) (hlen : l.length ≤ 1048576) :
    Calls Try.prog 57 #[.slice (some ⟨b, off, none⟩) l.length cap] w fun e w' =>
      ∃ r : Bool, e = .returned (.bool r) ∧ (r = true ↔ GoodRs (esM l)) ∧ Below w.heap.size w w' := by
  have HR : Hid (RmsAt w b off l ∧ okM l) := ⟨hR, hok⟩
  clear hR hok
  by_cases hbig : 50 < l.length
  · have H : Hid (¬ GoodRs (esM l)) := fun h => by have := h.1; simp at this; omega
    go_enter Try.func57, Try.ntmps57
    go_wp2
    go_ret
    exact ⟨_, rfl, iffF H.out, Below.refl _ _⟩
  go_enter Try.func57, Try.ntmps57
  go_wp2
  go_loopw [3] (fun i wr => ∃ (k : Nat), k ≤ l.length ∧ i = .int .i64 k ∧ (∀ r ∈ l.take k, GoodR r.es) ∧ Below w.heap.size w wr) (fun i _ => l.length - (intOf i).toNat)
  case atStart => exact ⟨0, Nat.zero_le _, rfl, by simp, Below.refl _ _⟩
  case round =>
    obtain ⟨k, hk, rfl, hv, hb⟩ := hrel
    have HV : Hid (∀ r ∈ l.take k, GoodR r.es) := hv
    clear hv
    by_cases hlt : k < l.length
    · obtain ⟨r, hr⟩ : ∃ r, l[k]? = some r := ⟨_, List.getElem?_eq_getElem hlt⟩
      obtain ⟨c0, ha⟩ := (HR.out.1.below hb hB) k r hr
      have HA : Hid (r.at wr ∧ l[k]? = some r) := ⟨ha, hr⟩
      clear ha hr
      go_wp2_with fail
      refine (specValidRun_core r.b r.off r.cap r.es _ HA.out.1.ents (HR.out.2 r (List.mem_of_getElem? HA.out.2)) HA.out.1.lt HA.out.1.len HA.out.1.cap).mono ?_
      rintro e' w1 ⟨s, rfl, hs, hb1⟩
      have hb2 := hb.trans (hb1.mono hb.size)
      have HS : Hid (s = true ↔ GoodR r.es) := hs
      clear c0 hb1 hs
      cases s
      · have H : Hid (¬ GoodRs (esM l)) := fun h => Bool.noConfusion (HS.out.2 (goodRs_mem h (List.mem_of_getElem? HA.out.2)))
        go_wp2_with fail
        go_ret
        exact ⟨_, rfl, iffF H.out, hb2⟩
      · have H : Hid (∀ r ∈ l.take (k + 1), GoodR r.es) := fun x hx => by
          rcases mem_take_succ HA.out.2 hx with h | rfl
          · exact HV.out x h
          · exact HS.out.1 rfl
        go_wp2_with fail
        go_roundw
        case rel => exact ⟨k + 1, by omega, by go_num, H.out, hb2⟩
        case measure => go_light; simp [intOf]; omega
    · have H : Hid (GoodRs (esM l)) := goodRs_of (by omega) (fun r hr => HV.out r (by rw [List.take_of_length_le (by omega)]; exact hr))
      go_wp2
      go_ret
      exact ⟨_, rfl, iffT H.out, hb⟩

set_option maxHeartbeats 1000000 in
theorem validStack_core (b off cap : Nat) (l : List Rm) (w : World) (hR : RmsAt w b off l) (hok : okM l) (hB : b < w.heap.size) (hlen : l.length ≤ 1048576) :
    Calls Try.prog 101 #[.slice (some ⟨b, off, none⟩) l.length cap] w fun e w' =>
      ∃ r : Bool, e = .returned (.bool r) ∧ (r = true ↔ GoodRs (esM l)) ∧ Below w.heap.size w w' := by
  have HR : Hid (RmsAt w b off l ∧ okM l) := ⟨hR, hok⟩
  clear hR hok
  by_cases hbig : 50 < l.length
  · have H : Hid (¬ GoodRs (esM l)) := fun h => by have := h.1; simp at this; omega
    go_enter Try.func101, Try.ntmps101
    go_wp2
    go_ret
    exact ⟨_, rfl, iffF H.out, Below.refl _ _⟩
  go_enter Try.func101, Try.ntmps101
  go_wp2
  go_loopw [10] (fun i wr => ∃ (k : Nat), k ≤ l.length ∧ i = .int .i64 k ∧ (∀ r ∈ l.take k, GoodR r.es) ∧ Below w.heap.size w wr) (fun i _ => l.length - (intOf i).toNat)
  case atStart => exact ⟨0, Nat.zero_le _, rfl, by simp, Below.refl _ _⟩
  case round =>
    obtain ⟨k, hk, rfl, hv, hb⟩ := hrel
    have HV : Hid (∀ r ∈ l.take k, GoodR r.es) := hv
    clear hv
    by_cases hlt : k < l.length
    · obtain ⟨r, hr⟩ : ∃ r, l[k]? = some r := ⟨_, List.getElem?_eq_getElem hlt⟩
      obtain ⟨c0, ha⟩ := (HR.out.1.below hb hB) k r hr
      have HA : Hid (r.at wr ∧ l[k]? = some r) := ⟨ha, hr⟩
      clear ha hr
      obtain ⟨W1, hW1⟩ : ∃ W1 : World, W1 = wr.alloc (Obj.cells #[.slice (some ⟨r.b, r.off, none⟩) r.es.length r.cap] 101) := ⟨_, rfl⟩
      have hbA : Below wr.heap.size wr W1 := by rw [hW1]; exact (Below.refl _ _).alloc (Nat.le_refl _) _
      have HA1 : Hid (r.at W1) := HA.out.1.below hbA
      go_wp2_with fail
      rw [← hW1]
      clear hW1
      refine (implValidRun_core r.b r.off r.cap r.es _ HA1.out.ents (HR.out.2 r (List.mem_of_getElem? HA.out.2)) HA1.out.lt HA1.out.len HA1.out.cap).mono ?_
      rintro e' w1 ⟨s, rfl, hs, hb1⟩
      have hb2 := (hb.trans (hbA.mono hb.size)).trans (hb1.mono (by have := hb.size; have := hbA.size; omega))
      have HS : Hid (s = true ↔ GoodR r.es) := hs
      clear c0 hb1 hs
      cases s
      · have H : Hid (¬ GoodRs (esM l)) := fun h => Bool.noConfusion (HS.out.2 (goodRs_mem h (List.mem_of_getElem? HA.out.2)))
        go_wp2_with fail
        go_ret
        exact ⟨_, rfl, iffF H.out, hb2⟩
      · have H : Hid (∀ r ∈ l.take (k + 1), GoodR r.es) := fun x hx => by
          rcases mem_take_succ HA.out.2 hx with h | rfl
          · exact HV.out x h
          · exact HS.out.1 rfl
        go_wp2_with fail
        go_roundw
        case rel => exact ⟨k + 1, by omega, by go_num, H.out, hb2⟩
        case measure => go_light; simp [intOf]; omega
    · have H : Hid (GoodRs (esM l)) := goodRs_of (by omega) (fun r hr => HV.out r (by rw [List.take_of_length_le (by omega)]; exact hr))
      go_wp2
      go_ret
      exact ⟨_, rfl, iffT H.out, hb⟩

/-- What the entries of a run say of a key. -/
def saysF (e : Ent) : List Ent → Int → Int × ByteArray
  | [], h => (h, ⟨#[]⟩)
  | d :: r, h => if sameCol d e = true then
      (if (d.kind == 0) = true ∧ (d.ts == e.ts) = true then (1, d.val) else if (d.kind == 1) = true ∧ (d.ts == e.ts) = true then (2, ⟨#[]⟩) else if (d.kind == 2) = true ∧ e.ts ≤ d.ts then saysF e r 2 else saysF e r h)
    else saysF e r h
theorem saysF_kills (e : Ent) : ∀ (es : List Ent) (h : Int), (∀ d ∈ es, d.vld = true) → ((saysF e es h).1 ≠ 0 ↔ h ≠ 0 ∨ ∃ d ∈ es, kills d e = true)
  | [], h, _ => by simp [saysF]
  | d :: r, h, hv => by
    have ih2 := saysF_kills e r 2 (fun x hx => hv x (List.mem_cons_of_mem _ hx))
    have ihh := saysF_kills e r h (fun x hx => hv x (List.mem_cons_of_mem _ hx))
    have hd := hv d (by simp)
    unfold Ent.vld vE at hd
    have hk := of_decide_eq_true hd
    unfold saysF
    have hex : (∃ x ∈ d :: r, kills x e = true) ↔ kills d e = true ∨ ∃ x ∈ r, kills x e = true := by simp
    rw [hex]
    by_cases hc : sameCol d e = true
    · rw [if_pos hc]
      by_cases h0 : (d.kind == 0) = true ∧ (d.ts == e.ts) = true
      · rw [if_pos h0]
        have : kills d e = true := by
          unfold kills
          have : d.kind = 0 := by simpa using h0.1
          simp [hc, this, h0.2]
        simp [this]
      · rw [if_neg h0]
        by_cases h1 : (d.kind == 1) = true ∧ (d.ts == e.ts) = true
        · rw [if_pos h1]
          have : kills d e = true := by
            unfold kills
            have : d.kind = 1 := by simpa using h1.1
            simp [hc, this, h1.2]
          simp [this]
        · rw [if_neg h1]
          by_cases h2 : (d.kind == 2) = true ∧ e.ts ≤ d.ts
          · rw [if_pos h2, ih2]
            have : kills d e = true := by
              unfold kills
              have : d.kind = 2 := by simpa using h2.1
              simp [hc, this, h2.2]
            simp [this]
          · rw [if_neg h2, ihh]
            have : kills d e = false := by
              unfold kills
              simp only [beq_iff_eq] at h0 h1 h2
              rw [hc]
              by_cases hk2 : d.kind = 2
              · simp [hk2]
                have : ¬ e.ts ≤ d.ts := fun q => h2 ⟨hk2, q⟩
                omega
              · simp [hk2]
                intro q
                have : d.kind = 0 ∨ d.kind = 1 := by omega
                rcases this with z | z
                · exact h0 ⟨z, q⟩
                · exact h1 ⟨z, q⟩
            simp [this]
    · rw [if_neg hc, ihh]
      have : kills d e = false := by
        unfold kills
        simp [hc]
      simp [this]
theorem saysF_drop {e d : Ent} {es : List Ent} {k : Nat} {h : Int} (hd : es[k]? = some d) : saysF e (es.drop k) h = saysF e (d :: es.drop (k + 1)) h := by
  congr 1
  obtain ⟨h1, rfl⟩ := List.getElem?_eq_some_iff.1 hd
  exact List.drop_eq_getElem_cons h1
theorem rms_out {w : World} {b off m : Nat} {l : List Rm} {r : Rm} (h : RmsAt w b off l) (hb : b < w.heap.size) (hr : l[m]? = some r) : (∀ n : Out w, n.u.cell? ⟨b, off + m, none⟩ = some (.slice (some ⟨r.b, r.off, none⟩) r.es.length r.cap)) ∧ ∀ n : Out w, r.at n.u :=
  ⟨fun n => (h.below n.out hb m r hr).1, fun n => (h.below n.out hb m r hr).2⟩
end Go.Proofs.Ytlgeffinhbodeaf

/-
  Runs of the call's own; eqRunS.
-/
namespace Go.Proofs.Ytlgeffinhbodeaf
open Go.ChangeShapes Go.WideShapes Go.ChangeAt Go.RowKit Go.Deep
set_option linter.unusedVariables false
set_option linter.unusedSimpArgs false
set_option maxRecDepth 100000

def rmsOf (l : List (Nat × List Ent)) : List Rm := l.map fun p => ⟨p.1, 0, p.2.length, p.2⟩
theorem rmsOf_len (l : List (Nat × List Ent)) : (rmsOf l).length = l.length := by simp [rmsOf]
theorem esM_rms (l : List (Nat × List Ent)) : esM (rmsOf l) = l.map Prod.snd := by simp [rmsOf, esM]
/-- Runs of the call's own: their row, and theirs. -/
structure OwnRuns (w : World) (base g : Nat) (l : List (Nat × List Ent)) : Prop where
  row : OwnR w base g (usOf l)
  rows : OwnRs w base l
  ne : ∀ p ∈ l, g < p.1
  short : ∀ p ∈ l, p.2.length ≤ 1048576
theorem OwnRuns.lt {w : World} {base g : Nat} {l : List (Nat × List Ent)} (h : OwnRuns w base g l) : base ≤ g ∧ g < w.heap.size := h.row.lt
theorem OwnRuns.below {w w' : World} {base g : Nat} {l : List (Nat × List Ent)} (h : OwnRuns w base g l) (hb : Below w.heap.size w w') : OwnRuns w' base g l :=
  ⟨h.row.below hb h.row.lt.2, ⟨h.rows.1, fun p hp => (h.rows.2 p hp).below hb (h.rows.2 p hp).lt.2⟩, h.ne, h.short⟩
theorem OwnRuns.at {w : World} {base g : Nat} {l : List (Nat × List Ent)} (h : OwnRuns w base g l) : RmsAt w g 0 (rmsOf l) := by
  intro i r hr
  unfold rmsOf at hr
  rw [List.getElem?_map] at hr
  cases hp : l[i]? with
  | none => rw [hp] at hr; cases hr
  | some p =>
    rw [hp] at hr
    simp at hr
    subst hr
    have hm := List.mem_of_getElem? hp
    refine ⟨?_, ⟨(h.rows.2 p hm).at, (h.rows.2 p hm).lt.2, Nat.le_refl _, Nat.le_trans (h.short p hm) (by decide)⟩⟩
    rw [Nat.zero_add]
    exact h.row.cell (usOf_get hp)
theorem inEnts_rm {w : World} {r : Rm} (h : r.at w) : InEnts w (.slice (some ⟨r.b, r.off, none⟩) r.es.length r.cap) r.es := .inr ⟨r.b, r.off, r.cap, rfl, h.ents, h.lt, h.len, h.cap⟩
set_option maxHeartbeats 2000000 in
theorem eqRunS_same (b off cap b' off' cap' : Nat) (l l' : List Rm) (w : World) (h : RmsAt w b off l) (h' : RmsAt w b' off' l') (hB : b < w.heap.size) (hB' : b' < w.heap.size) (he : esM l = esM l') (hn : l.length ≤ 1048576) :
    Calls Try.prog 105 #[.slice (some ⟨b, off, none⟩) l.length cap, .slice (some ⟨b', off', none⟩) l'.length cap'] w fun e w' => e = .returned (.bool true) ∧ Below w.heap.size w w' := by
  have hll : l'.length = l.length := by have := congrArg List.length he; simpa using this.symm
  rw [hll]
  have HE : Hid (RmsAt w b off l ∧ RmsAt w b' off' l' ∧ esM l = esM l' ∧ l'.length = l.length) := ⟨h, h', he, hll⟩
  clear h h' he hll
  go_enter Try.func105, Try.ntmps105
  go_wp2_with fail
  go_loopw [5] (fun i wr => ∃ k : Nat, k ≤ l.length ∧ i = .int .i64 k ∧ Below w.heap.size w wr) (fun i _ => l.length - (intOf i).toNat)
  case atStart => exact ⟨0, Nat.zero_le _, rfl, Below.refl _ _⟩
  case round =>
    obtain ⟨k, hk, rfl, hb⟩ := hrel
    have hs := hb.size
    by_cases hlt : k < l.length
    · obtain ⟨r, hr⟩ : ∃ r, l[k]? = some r := ⟨_, List.getElem?_eq_getElem hlt⟩
      obtain ⟨r', hr'⟩ : ∃ r', l'[k]? = some r' := ⟨_, List.getElem?_eq_getElem (by have := HE.out.2.2.2; omega)⟩
      have hes : r'.es = r.es := by
        have h1 := congrArg (fun x => x[k]?) HE.out.2.2.1
        simp only [List.getElem?_map, hr, hr'] at h1
        simpa using h1.symm
      obtain ⟨y0, y1⟩ := rms_out (HE.out.1.below hb hB) (by omega) hr
      obtain ⟨z0, z1⟩ := rms_out (HE.out.2.1.below hb hB') (by omega) hr'
      have HY : Hid (∀ n : Out wr, InEnts n.u (.slice (some ⟨r.b, r.off, none⟩) r.es.length r.cap) r.es ∧ InEnts n.u (.slice (some ⟨r'.b, r'.off, none⟩) r'.es.length r'.cap) r.es) := fun n => ⟨inEnts_rm (y1 n), by
        have h := inEnts_rm (z1 n)
        rw [hes] at h ⊢
        exact h⟩
      clear y1 z1 hr hr' hes
      have zk : (k : Int) < (l.length : Int) := by omega
      have inh : Nonempty (Out wr) := ⟨⟨wr, Below.refl _ _⟩⟩
      go_upto_region 6 with fail
      refine wp_region_out (by kernel_rfl) (by kernel_rfl) ?_
      repeat (go_big_quiet_step ((go_at_call 128; exact Calls.out_of (eqRun_any _ _ r.es _ (HY.out _).1 (HY.out _).2))))
      refine wpQuiet_nil ?_
      rintro wy ⟨⟨wx, hby⟩, rfl⟩
      have hb2 := hb.trans (hby.mono hs)
      clear y0 z0
      go_wp2_with fail
      go_roundw
      case rel => exact ⟨k + 1, by omega, by go_num, hb2⟩
      case measure => go_light; simp [intOf]; omega
    · have zk : ¬ (k : Int) < (l.length : Int) := by omega
      go_wp2_with fail
      go_ret
      exact ⟨rfl, hb⟩
/-- How many entries. -/
def totL : List (Nat × List Ent) → Nat
  | [] => 0
  | p :: l => p.2.length + totL l
theorem totL_append : ∀ (a b : List (Nat × List Ent)), totL (a ++ b) = totL a + totL b
  | [], b => by simp [totL]
  | p :: a, b => by simp [totL, totL_append a b]; omega
theorem totL_take {l : List (Nat × List Ent)} {k : Nat} {p : Nat × List Ent} (h : l[k]? = some p) : totL (l.take (k + 1)) = totL (l.take k) + p.2.length := by
  rw [List.take_add_one, h, totL_append]; simp [totL]
theorem totL_le (l : List (Nat × List Ent)) (k : Nat) : totL (l.take k) ≤ totL l := by
  have h := totL_append (l.take k) (l.drop k)
  rw [List.take_append_drop] at h
  omega
theorem tot_of : ∀ (l : List (Nat × List Ent)) (rs : List Rn), l.map Prod.snd = esOf rs → totL l = tot rs
  | [], [], _ => rfl
  | [], r :: rs, h => by simp [esOf] at h
  | p :: l, [], h => by simp [esOf] at h
  | p :: l, r :: rs, h => by
    simp [esOf] at h
    have := tot_of l rs h.2
    simp [totL, tot, this, h.1]
def okL (l : List (Nat × List Ent)) : Prop := ∀ p ∈ l, ∀ e ∈ p.2, e.ok
theorem okM_of {l : List (Nat × List Ent)} (h : okL l) : okM (rmsOf l) := by
  intro r hr e he
  unfold rmsOf at hr
  obtain ⟨p, hp, rfl⟩ := List.mem_map.1 hr
  exact h p hp e he
theorem okL_of {l : List (Nat × List Ent)} {rs : List Rn} (h : l.map Prod.snd = esOf rs) (ho : okR rs) : okL l := by
  intro p hp e he
  have : p.2 ∈ esOf rs := by rw [← h]; exact List.mem_map.2 ⟨p, hp, rfl⟩
  unfold esOf at this
  obtain ⟨r, hr, q⟩ := List.mem_map.1 this
  exact ho r hr e (by rw [q]; exact he)
theorem toRuns_own (v : Value) (rs : List Rn) (w : World) (h : InRuns w v rs) (h1 : rs.length + tot rs ≤ 1048576) :
    Calls Try.prog 100 #[v] w fun e w' =>
      ∃ (g : Nat) (l : List (Nat × List Ent)), e = .returned (.slice (some ⟨g, 0, none⟩) l.length l.length) ∧ OwnRuns w' w.heap.size g l ∧ l.map Prod.snd = esOf rs ∧ l.length + totL l ≤ 1048576 ∧ Below w.heap.size w w' := by
  refine (toRunS_any v rs w h h1).mono ?_
  rintro e w' ⟨g, l, he, hm, hR, hO, hne, hb⟩
  have ht := tot_of l rs hm
  have hl : l.length = rs.length := by have := congrArg List.length hm; simpa [esOf] using this
  refine ⟨g, l, he, ⟨hR, hO, hne, fun p hp => ?_⟩, hm, by omega, hb⟩
  obtain ⟨i, hi⟩ := List.getElem?_of_mem hp
  have h2 := totL_take hi
  have h3 := totL_le l (i + 1)
  omega
theorem eqRunS_own (base g base' g' : Nat) (l l' : List (Nat × List Ent)) (w : World) (h : OwnRuns w base g l) (h' : OwnRuns w base' g' l') (he : l.map Prod.snd = l'.map Prod.snd) (hn : l.length ≤ 1048576) :
    Calls Try.prog 105 #[.slice (some ⟨g, 0, none⟩) l.length l.length, .slice (some ⟨g', 0, none⟩) l'.length l'.length] w fun e w' => e = .returned (.bool true) ∧ Below w.heap.size w w' := by
  have := eqRunS_same g 0 l.length g' 0 l'.length (rmsOf l) (rmsOf l') w h.at h'.at h.lt.2 h'.lt.2 (by rw [esM_rms, esM_rms]; exact he) (by rw [rmsOf_len]; exact hn)
  rw [rmsOf_len, rmsOf_len] at this
  exact this
end Go.Proofs.Ytlgeffinhbodeaf

/-
  spec.l3Says.
-/
namespace Go.Proofs.Ytlgeffinhbodeaf
open Go.ChangeShapes Go.WideShapes Go.ChangeAt Go.RowKit Go.Deep
set_option linter.unusedVariables false
set_option linter.unusedSimpArgs false

theorem ent_box (w : World) (e : Ent) : EntsAt (w.alloc (Obj.cells #[.string e.row, .string e.fam, .string e.qual, .int .u64 e.ts, .int .i64 e.kind, .string e.val] 106)) w.heap.size 0 [e] := by
  intro j y hy
  obtain rfl : j = 0 := by
    have := (List.getElem?_eq_some_iff.1 hy).1
    simpa using this
  simp at hy
  subst hy
  simp

theorem saysF_cons (e d : Ent) (r : List Ent) (h : Int) : saysF e (d :: r) h = if sameCol d e = true then
      (if (d.kind == 0) = true ∧ (d.ts == e.ts) = true then (1, d.val) else if (d.kind == 1) = true ∧ (d.ts == e.ts) = true then (2, ⟨#[]⟩) else if (d.kind == 2) = true ∧ e.ts ≤ d.ts then saysF e r 2 else saysF e r h)
    else saysF e r h := rfl

end Go.Proofs.Ytlgeffinhbodeaf

