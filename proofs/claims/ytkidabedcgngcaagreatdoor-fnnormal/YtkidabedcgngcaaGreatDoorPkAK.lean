import Derived.Lib.TrailingZeros
import Derived.Laws.Bits64b
import Derived.RangeFuncNested
import Derived.RangeFuncBound
import Derived.RangeFuncCalls
import Derived.RangeFuncLeaves
import Derived.Shelf.Abstract
import Derived.Shelf.RegionOpen
import Derived.WalkKit
import Derived.OwnWalkIn
import Derived.TacticsInMore
import Derived.LoopNIn
import Derived.LoopIn
import Derived.Maps.AppendAt
import Derived.Test.YtkidabedcgngcaaGreatDoorPkAF
import Derived.Test.YtkidabedcgngcaaGreatDoorPkAJ
import Derived.Test.YtkidabedcgngcaaGreatDoorPkAB
import Derived.Test.YtkidabedcgngcaaGreatDoorPkAA
/-
  Filters as trees, and their code, without memory.
-/
namespace Go.Proofs.YtkidabedcgngcaaGreatDoor
open Go.ChangeShapes Go.WideShapes Go.ChangeAt Go.RowKit Go.Deep
set_option linter.unusedVariables false
set_option linter.unusedSimpArgs false
set_option maxRecDepth 100000

/-- A filter as a tree. -/
inductive CT where
  | leaf (n : Nd)
  | chain (n : Nd) (a b : CT)
  | inter (n : Nd) (a b : CT)
  | cond (n : Nd) (a b c : CT)
def ctV (n : Nd) : List CT → CT
  | [a, b] => if n.kind = 14 then .chain n a b else .inter n a b
  | [a, b, c] => .cond n a b c
  | _ => .leaf n
def TreeF (xs : List Nd) (t : CT) : Prop := TrV ctV [t] xs
/-- What a tree is, by its last node. -/
inductive Part : CT → List Nd → Prop
  | leaf (n : Nd) (h : arity n.kind = 0) : Part (.leaf n) [n]
  | chain (n : Nd) {a b : CT} {ka kb : List Nd} (h : n.kind = 14) (ha : TreeF ka a) (hb : TreeF kb b) : Part (.chain n a b) (ka ++ kb ++ [n])
  | inter (n : Nd) {a b : CT} {ka kb : List Nd} (h : n.kind = 15) (ha : TreeF ka a) (hb : TreeF kb b) : Part (.inter n a b) (ka ++ kb ++ [n])
  | cond (n : Nd) {a b c : CT} {ka kb kc : List Nd} (h : n.kind = 16) (ha : TreeF ka a) (hb : TreeF kb b) (hc : TreeF kc c) : Part (.cond n a b c) (ka ++ kb ++ kc ++ [n])
theorem kidV_one {T : Type} {V : Nd → List T → T} {os : List T} {ks : List (List Nd)} {j : Nat} {o : T} {k : List Nd} (h : KidV V os ks) (ho : os[j]? = some o) (hk : ks[j]? = some k) : TrV V [o] k := by
  obtain ⟨o', h1, h2⟩ := KidV.nth _ h hk
  rw [ho] at h1
  cases h1
  exact h2
theorem TreeF.part {xs : List Nd} {t : CT} (h : TreeF xs t) : Part t xs := by
  obtain ⟨ys, n, os, rfl, hl, hT, rfl⟩ := TrV.inv _ h
  obtain ⟨ks, rfl, hK⟩ := TrV.kids _ hT
  have hkl := hK.length
  by_cases h14 : n.kind = 14
  · have ha : arity n.kind = 2 := by unfold arity; rw [if_pos (.inl h14)]
    rw [ha] at hl
    match os, ks, hl, hkl, hK with
    | [a, b], [ka, kb], _, _, hK =>
      have e1 : ctV n [a, b] = .chain n a b := if_pos h14
      have e2 : [ka, kb].flatten ++ [n] = ka ++ kb ++ [n] := by simp
      rw [e1, e2]
      exact .chain n h14 (kidV_one hK (j := 0) rfl rfl) (kidV_one hK (j := 1) rfl rfl)
  · by_cases h15 : n.kind = 15
    · have ha : arity n.kind = 2 := by unfold arity; rw [if_pos (.inr h15)]
      rw [ha] at hl
      match os, ks, hl, hkl, hK with
      | [a, b], [ka, kb], _, _, hK =>
        have e1 : ctV n [a, b] = .inter n a b := if_neg h14
        have e2 : [ka, kb].flatten ++ [n] = ka ++ kb ++ [n] := by simp
        rw [e1, e2]
        exact .inter n h15 (kidV_one hK (j := 0) rfl rfl) (kidV_one hK (j := 1) rfl rfl)
    · by_cases h16 : n.kind = 16
      · have ha : arity n.kind = 3 := by unfold arity; rw [if_neg (by omega), if_pos h16]
        rw [ha] at hl
        match os, ks, hl, hkl, hK with
        | [a, b, c], [ka, kb, kc], _, _, hK =>
          have e2 : [ka, kb, kc].flatten ++ [n] = ka ++ kb ++ kc ++ [n] := by simp
          rw [e2]
          exact .cond n h16 (kidV_one hK (j := 0) rfl rfl) (kidV_one hK (j := 1) rfl rfl) (kidV_one hK (j := 2) rfl rfl)
      · have ha : arity n.kind = 0 := by unfold arity; rw [if_neg (by omega), if_neg h16]
        have hos : os = [] := List.length_eq_zero_iff.1 (by omega)
        have hks : ks = [] := List.length_eq_zero_iff.1 (by omega)
        subst hos; subst hks
        exact .leaf n ha
theorem treeF_one {xs : List Nd} {t u : CT} (h : TreeF xs t) (k : TreeF xs u) : t = u := by
  have := TrV.one _ h k
  exact (List.cons.inj this).1
theorem treeF_ex {xs : List Nd} (h : IsT 1 xs) : ∃ t, TreeF xs t := by
  obtain ⟨ss, hl, hs⟩ := IsT.trv ctV h
  match ss, hl, hs with
  | [t], _, hs => exact ⟨t, hs⟩

/-- How many ifs. -/
def CT.ifs : CT → Nat
  | .leaf _ => 0
  | .chain _ a b => a.ifs + b.ifs
  | .inter _ a b => a.ifs + b.ifs
  | .cond _ a b c => a.ifs + 1 + b.ifs + c.ifs
def isCnt (k : Int) : Bool := decide (k = 11 ∨ k = 12 ∨ k = 13)
/-- Whether a counter stands in what the cells go through. -/
def CT.passes : CT → Bool
  | .leaf n => isCnt n.kind
  | .chain _ a b => a.passes || b.passes
  | .inter _ a b => a.passes || b.passes
  | .cond _ _ b c => b.passes || c.passes
def opI (op : Int) : Ix := ⟨op, 0, 0, false, zeroN⟩
/-- The code of a tree; targets are distances; 'f' is the number of its first if. -/
def CT.gen : CT → Bool → Nat → List Ix
  | .leaf n, s, _ => [⟨1, 0, 0, !s, n⟩]
  | .chain _ a b, s, f => a.gen s f ++ b.gen (s || a.passes) (f + a.ifs)
  | .inter _ a b, s, f => [opI 2] ++ a.gen s f ++ [opI 3] ++ b.gen s (f + a.ifs) ++ [opI 4]
  | .cond _ a b c, s, f => [⟨5, ((f + a.ifs : Nat) : Int), ((b.gen s (f + a.ifs + 1)).length : Int) + 2, false, zeroN⟩] ++ b.gen s (f + a.ifs + 1) ++ [⟨6, 0, ((c.gen s (f + a.ifs + 1 + b.ifs)).length : Int) + 1, false, zeroN⟩] ++ c.gen s (f + a.ifs + 1 + b.ifs)
def cntI (x : Ix) : Nat := if x.op = 1 ∧ isCnt x.leaf.kind = true then 1 else 0
def fixI (k c : Nat) (x : Ix) : Ix := ⟨x.op, if x.op = 1 ∧ isCnt x.leaf.kind = true then (c : Int) else x.a, if x.op = 5 ∨ x.op = 6 then x.b + (k : Int) else x.b, x.free, x.leaf⟩
/-- Instructions at their places: targets and counters have their numbers. -/
def absG : Nat → Nat → List Ix → List Ix
  | _, _, [] => []
  | k, c, x :: r => fixI k c x :: absG (k + 1) (c + cntI x) r
def cntL : List Ix → Nat
  | [] => 0
  | x :: r => cntI x + cntL r
theorem cntL_append (l m : List Ix) : cntL (l ++ m) = cntL l + cntL m := by
  induction l with
  | nil => simp [cntL]
  | cons x r ih => simp only [List.cons_append, cntL, ih]; omega
theorem absG_length : ∀ (k c : Nat) (l : List Ix), (absG k c l).length = l.length
  | _, _, [] => rfl
  | k, c, x :: r => by simp only [absG, List.length_cons, absG_length]
theorem absG_append : ∀ (k c : Nat) (l m : List Ix), absG k c (l ++ m) = absG k c l ++ absG (k + l.length) (c + cntL l) m
  | k, c, [], m => by simp [absG, cntL]
  | k, c, x :: r, m => by
    simp only [List.cons_append, absG, absG_append (k + 1) (c + cntI x) r m, List.length_cons, cntL]
    rw [show k + 1 + r.length = k + (r.length + 1) by omega, Nat.add_assoc c (cntI x) (cntL r)]
/-- The blocks of the ifs, in order, with distances. -/
def CT.conds : CT → List Ix → Bool → Nat → List (List Ix)
  | .leaf _, _, _, _ => []
  | .chain _ a b, l, s, f => a.conds l s f ++ b.conds (l ++ a.gen s f) (s || a.passes) (f + a.ifs)
  | .inter _ a b, l, s, f => a.conds l s f ++ b.conds l s (f + a.ifs)
  | .cond _ a b c, l, s, f => a.conds l s f ++ [l ++ a.gen s f] ++ b.conds l s (f + a.ifs + 1) ++ c.conds l s (f + a.ifs + 1 + b.ifs)
theorem conds_len (t : CT) : ∀ (l : List Ix) (s : Bool) (f : Nat), (t.conds l s f).length = t.ifs := by
  induction t with
  | leaf n => intro l s f; rfl
  | chain n a b ha hb => intro l s f; simp only [CT.conds, CT.ifs, List.length_append, ha, hb]
  | inter n a b ha hb => intro l s f; simp only [CT.conds, CT.ifs, List.length_append, ha, hb]
  | cond n a b c ha hb hc => intro l s f; simp only [CT.conds, CT.ifs, List.length_append, List.length_singleton, ha, hb, hc]
def CT.size : CT → Nat
  | .leaf _ => 1
  | .chain _ a b => a.size + b.size + 1
  | .inter _ a b => a.size + b.size + 1
  | .cond _ a b c => a.size + b.size + c.size + 1
theorem gen_len (t : CT) : ∀ (s : Bool) (f : Nat), (t.gen s f).length + 2 ≤ 3 * t.size := by
  induction t with
  | leaf n => intro s f; simp [CT.gen, CT.size]
  | chain n a b ha hb => intro s f; have h1 := ha s f; have h2 := hb (s || a.passes) (f + a.ifs); simp only [CT.gen, CT.size, List.length_append]; omega
  | inter n a b ha hb => intro s f; have h1 := ha s f; have h2 := hb s (f + a.ifs); simp only [CT.gen, CT.size, List.length_append, List.length_singleton]; omega
  | cond n a b c ha hb hc => intro s f; have h1 := hb s (f + a.ifs + 1); have h2 := hc s (f + a.ifs + 1 + b.ifs); simp only [CT.gen, CT.size, List.length_append, List.length_singleton]; omega
theorem cntL_gen (t : CT) : ∀ (s : Bool) (f : Nat), cntL (t.gen s f) ≤ t.size := by
  induction t with
  | leaf n => intro s f; simp only [CT.gen, CT.size, cntL, cntI]; split <;> omega
  | chain n a b ha hb => intro s f; have h1 := ha s f; have h2 := hb (s || a.passes) (f + a.ifs); simp only [CT.gen, CT.size, cntL_append]; omega
  | inter n a b ha hb =>
    intro s f
    have h1 := ha s f
    have h2 := hb s (f + a.ifs)
    have e : ∀ o : Int, o ≠ 1 → cntL [opI o] = 0 := fun o ho => by simp [cntL, cntI, opI, ho]
    simp only [CT.gen, CT.size, cntL_append, e 2 (by decide), e 3 (by decide), e 4 (by decide)]; omega
  | cond n a b c ha hb hc =>
    intro s f
    have h1 := hb s (f + a.ifs + 1)
    have h2 := hc s (f + a.ifs + 1 + b.ifs)
    simp only [CT.gen, CT.size, cntL_append]
    simp [cntL, cntI]
    omega
theorem conds_bound (t : CT) : ∀ (l : List Ix) (s : Bool) (f : Nat), ∀ x ∈ t.conds l s f, x.length ≤ l.length + 3 * t.size := by
  induction t with
  | leaf n => intro l s f x hx; simp [CT.conds] at hx
  | chain n a b ha hb =>
    intro l s f x hx
    simp only [CT.conds, List.mem_append] at hx
    have hg := gen_len a s f
    simp only [CT.size]
    rcases hx with hx | hx
    · have := ha _ _ _ x hx; omega
    · have := hb _ _ _ x hx; simp only [List.length_append] at this; omega
  | inter n a b ha hb =>
    intro l s f x hx
    simp only [CT.conds, List.mem_append] at hx
    simp only [CT.size]
    rcases hx with hx | hx
    · have := ha _ _ _ x hx; omega
    · have := hb _ _ _ x hx; omega
  | cond n a b c ha hb hc =>
    intro l s f x hx
    simp only [CT.conds, List.mem_append, List.mem_singleton] at hx
    have hg := gen_len a s f
    simp only [CT.size]
    rcases hx with ((hx | hx) | hx) | hx
    · have := ha _ _ _ x hx; omega
    · subst hx; simp only [List.length_append]; omega
    · have := hb _ _ _ x hx; omega
    · have := hc _ _ _ x hx; omega
theorem part_size (n : Nat) : ∀ {t : CT} {xs : List Nd}, xs.length ≤ n → TreeF xs t → t.size = xs.length := by
  induction n with
  | zero => intro t xs hl h; have := h.part; cases this <;> simp at hl
  | succ n ih =>
    intro t xs hl h
    cases h.part with
    | leaf n h => rfl
    | chain n h ha hb => simp only [List.length_append, List.length_singleton] at hl ⊢; simp only [CT.size, ih (by omega) ha, ih (by omega) hb]
    | inter n h ha hb => simp only [List.length_append, List.length_singleton] at hl ⊢; simp only [CT.size, ih (by omega) ha, ih (by omega) hb]
    | cond n h ha hb hc => simp only [List.length_append, List.length_singleton] at hl ⊢; simp only [CT.size, ih (by omega) ha, ih (by omega) hb, ih (by omega) hc]
theorem TreeF.size {xs : List Nd} {t : CT} (h : TreeF xs t) : t.size = xs.length := part_size _ (Nat.le_refl _) h
def ifsL (xs : List Nd) : Nat := (xs.filter (fun e => decide (e.kind = 16))).length
theorem part_ifs (n : Nat) : ∀ {t : CT} {xs : List Nd}, xs.length ≤ n → TreeF xs t → ifsL xs = t.ifs := by
  have hadd : ∀ a b : List Nd, ifsL (a ++ b) = ifsL a + ifsL b := fun a b => by simp [ifsL]
  have hone : ∀ e : Nd, ¬ e.kind = 16 → ifsL [e] = 0 := fun e he => by simp [ifsL, he]
  have htwo : ∀ e : Nd, e.kind = 16 → ifsL [e] = 1 := fun e he => by simp [ifsL, he]
  induction n with
  | zero => intro t xs hl h; have := h.part; cases this <;> simp at hl
  | succ n ih =>
    intro t xs hl h
    cases h.part with
    | leaf n hk => exact hone n (fun q => by rw [q] at hk; simp [arity] at hk)
    | chain n hk ha hb => simp only [List.length_append, List.length_singleton] at hl; rw [hadd, hadd, hone n (by omega), ih (by omega) ha, ih (by omega) hb]; rfl
    | inter n hk ha hb => simp only [List.length_append, List.length_singleton] at hl; rw [hadd, hadd, hone n (by omega), ih (by omega) ha, ih (by omega) hb]; rfl
    | cond n hk ha hb hc => simp only [List.length_append, List.length_singleton] at hl; rw [hadd, hadd, hadd, htwo n hk, ih (by omega) ha, ih (by omega) hb, ih (by omega) hc]; simp only [CT.ifs]; omega
theorem TreeF.ifs {xs : List Nd} {t : CT} (h : TreeF xs t) : ifsL xs = t.ifs := part_ifs _ (Nat.le_refl _) h
end Go.Proofs.YtkidabedcgngcaaGreatDoor

/-
  The words of a pattern, and its positions.
-/
namespace Go.Proofs.YtkidabedcgngcaaGreatDoor
set_option linter.unusedVariables false
set_option linter.unusedSimpArgs false

/-- Words one behind another. -/
inductive Pls (P : List UInt8 → Prop) : List UInt8 → Prop
  | one {x : List UInt8} (h : P x) : Pls P x
  | more {x y : List UInt8} (h : P x) (k : Pls P y) : Pls P (x ++ y)
def RepL (P : List UInt8 → Prop) (o r : Bool) (x : List UInt8) : Prop := (o = true ∧ x = []) ∨ (if r = true then Pls P x else P x)
mutual
/-- The words that a pattern's node takes. -/
def Lg : Pat → List UInt8 → Prop
  | .byte b => fun x => x = [b]
  | .cls f => fun x => ∃ c, x = [c] ∧ f c = true
  | .rep t o r => RepL (Lg t) o r
  | .alt os => LgA os
def LgA : List (List Pat) → List UInt8 → Prop
  | [] => fun _ => False
  | ts :: os => fun x => LgS ts x ∨ LgA os x
def LgS : List Pat → List UInt8 → Prop
  | [] => fun x => x = []
  | t :: ts => fun x => ∃ y z, x = y ++ z ∧ Lg t y ∧ LgS ts z
end
theorem LgS_snoc : ∀ (ts : List Pat) (t : Pat) (x : List UInt8), LgS (ts ++ [t]) x ↔ ∃ y z, x = y ++ z ∧ LgS ts y ∧ Lg t z
  | [], t, x => by
    simp only [List.nil_append, LgS]
    constructor
    · rintro ⟨y, z, rfl, h, rfl⟩; exact ⟨[], y, by simp, rfl, h⟩
    · rintro ⟨y, z, rfl, rfl, h⟩; exact ⟨z, [], by simp, h, rfl⟩
  | s :: ts, t, x => by
    simp only [List.cons_append, LgS]
    constructor
    · rintro ⟨y, z, rfl, h, k⟩
      obtain ⟨u, v, rfl, h1, h2⟩ := (LgS_snoc ts t z).1 k
      exact ⟨y ++ u, v, by simp, ⟨y, u, rfl, h, h1⟩, h2⟩
    · rintro ⟨y, z, rfl, ⟨u, v, rfl, h1, h2⟩, h3⟩
      exact ⟨u, v ++ z, by simp, h1, (LgS_snoc ts t _).2 ⟨v, z, rfl, h2, h3⟩⟩
theorem LgA_mem : ∀ (os : List (List Pat)) (x : List UInt8), LgA os x ↔ ∃ ts ∈ os, LgS ts x
  | [], x => by simp [LgA]
  | ts :: os, x => by simp [LgA, LgA_mem os x]
mutual
/-- Whether the empty word is taken. -/
def nulB : Pat → Bool
  | .byte _ => false
  | .cls _ => false
  | .rep t o _ => o || nulB t
  | .alt os => nulA os
def nulA : List (List Pat) → Bool
  | [] => false
  | ts :: os => nulS ts || nulA os
def nulS : List Pat → Bool
  | [] => true
  | t :: ts => nulB t && nulS ts
end
abbrev PS := Nat → Bool
def sOr (F G : PS) : PS := fun i => F i || G i
def sOne (a : Nat) : PS := fun i => i == a
def sNo : PS := fun _ => false
/-- A pattern's positions: the next free one, which may begin and end a word, the bytes that each takes, which may come next. -/
structure Lay where
  nx : Nat
  fst : PS
  lst : PS
  tk : Nat → UInt8 → Bool
  ed : Nat → Nat → Bool
def Lay.no (a : Nat) : Lay := ⟨a, sNo, sNo, fun _ _ => false, fun _ _ => false⟩
def Lay.seq (g : Lay) (em nt : Bool) (l : Lay) : Lay :=
  ⟨l.nx, if em = true then sOr g.fst l.fst else g.fst, if nt = true then sOr g.lst l.lst else l.lst, fun p c => g.tk p c || l.tk p c, fun p q => g.ed p q || l.ed p q || (g.lst p && l.fst q)⟩
def Lay.alt (g l : Lay) : Lay := ⟨l.nx, sOr g.fst l.fst, sOr g.lst l.lst, fun p c => g.tk p c || l.tk p c, fun p q => g.ed p q || l.ed p q⟩
def Lay.rep (l : Lay) (r : Bool) : Lay := ⟨l.nx, l.fst, l.lst, l.tk, fun p q => l.ed p q || (r && l.lst p && l.fst q)⟩
mutual
def lyP : Pat → Nat → Lay
  | .byte b, a => ⟨a + 1, sOne a, sOne a, fun p c => p == a && c == b, fun _ _ => false⟩
  | .cls f, a => ⟨a + 1, sOne a, sOne a, fun p c => p == a && f c, fun _ _ => false⟩
  | .rep t _ r, a => (lyP t a).rep r
  | .alt os, a => lyA os (Lay.no a)
def lyA : List (List Pat) → Lay → Lay
  | [], g => g
  | ts :: os, g => lyA os (g.alt (lyS ts true (Lay.no g.nx)))
def lyS : List Pat → Bool → Lay → Lay
  | [], _, g => g
  | t :: ts, em, g => lyS ts (em && nulB t) (g.seq em (nulB t) (lyP t g.nx))
end
/-- From position p, taken, over the bytes xs to position q. -/
inductive Pth (l : Lay) : Nat → List UInt8 → Nat → Prop
  | nil (p : Nat) : Pth l p [] p
  | step {p p' q : Nat} {c : UInt8} {xs : List UInt8} (he : l.ed p p' = true) (ht : l.tk p' c = true) (h : Pth l p' xs q) : Pth l p (c :: xs) q
def Wd (l : Lay) (x : List UInt8) : Prop := ∃ c xs p q, x = c :: xs ∧ l.fst p = true ∧ l.tk p c = true ∧ Pth l p xs q ∧ l.lst q = true
structure Spt (a : Nat) (l : Lay) : Prop where
  le : a ≤ l.nx
  fst : ∀ p, l.fst p = true → a ≤ p ∧ p < l.nx
  lst : ∀ p, l.lst p = true → a ≤ p ∧ p < l.nx
  tk : ∀ p c, l.tk p c = true → a ≤ p ∧ p < l.nx
  ed : ∀ p q, l.ed p q = true → (a ≤ p ∧ p < l.nx) ∧ a ≤ q ∧ q < l.nx
structure Cor (a : Nat) (l : Lay) (P : List UInt8 → Prop) (em : Bool) : Prop where
  spt : Spt a l
  wd : ∀ x, P x ↔ (x = [] ∧ em = true) ∨ Wd l x
theorem Pth.in {a : Nat} {l : Lay} (hs : Spt a l) {p q : Nat} {xs : List UInt8} (h : Pth l p xs q) (hp : a ≤ p ∧ p < l.nx) : a ≤ q ∧ q < l.nx := by
  induction h with
  | nil p => exact hp
  | step he ht h ih => exact ih (hs.ed _ _ he).2
theorem Pth.cat {l : Lay} {p q r : Nat} {xs ys : List UInt8} (h : Pth l p xs q) (k : Pth l q ys r) : Pth l p (xs ++ ys) r := by
  induction h with
  | nil p => exact k
  | step he ht h ih => exact .step he ht (ih k)
theorem Pth.mono {l m : Lay} (h1 : ∀ p q, l.ed p q = true → m.ed p q = true) (h2 : ∀ p c, l.tk p c = true → m.tk p c = true) {p q : Nat} {xs : List UInt8} (h : Pth l p xs q) : Pth m p xs q := by
  induction h with
  | nil p => exact .nil p
  | step he ht h ih => exact .step (h1 _ _ he) (h2 _ _ ht) ih
theorem wd_ne {l : Lay} : ¬ Wd l [] := fun ⟨c, xs, p, q, h, _⟩ => by cases h
theorem Cor.nul {a : Nat} {l : Lay} {P : List UInt8 → Prop} {em : Bool} (h : Cor a l P em) : P [] ↔ em = true := by
  rw [h.wd]
  constructor
  · rintro (⟨_, q⟩ | q)
    · exact q
    · exact (wd_ne q).elim
  · exact fun q => .inl ⟨rfl, q⟩
theorem cor_no (a : Nat) : Cor a (Lay.no a) (fun x => x = []) true := by
  refine ⟨⟨Nat.le_refl _, ?_, ?_, ?_, ?_⟩, fun x => ?_⟩
  · intro p h; cases h
  · intro p h; cases h
  · intro p c h; cases h
  · intro p q h; cases h
  · constructor
    · exact fun h => .inl ⟨h, rfl⟩
    · rintro (⟨h, _⟩ | ⟨c, xs, p, q, _, h, _⟩)
      · exact h
      · cases h
theorem cor_none (a : Nat) : Cor a (Lay.no a) (fun _ => False) false := by
  refine ⟨(cor_no a).spt, fun x => ?_⟩
  constructor
  · exact fun h => h.elim
  · rintro (⟨_, h⟩ | ⟨c, xs, p, q, _, h, _⟩)
    · cases h
    · cases h
theorem cor_one (a : Nat) (f : UInt8 → Bool) (T : Nat → UInt8 → Bool) (hT : ∀ p c, T p c = (p == a && f c)) : Cor a ⟨a + 1, sOne a, sOne a, T, fun _ _ => false⟩ (fun x => ∃ c, x = [c] ∧ f c = true) false := by
  refine ⟨⟨Nat.le_succ _, ?_, ?_, ?_, ?_⟩, fun x => ?_⟩
  · intro p h; simp [sOne] at h; simp; omega
  · intro p h; simp [sOne] at h; simp; omega
  · intro p c h; simp [hT] at h; simp; omega
  · intro p q h; cases h
  · constructor
    · rintro ⟨c, rfl, hc⟩
      exact .inr ⟨c, [], a, a, rfl, by simp [sOne], by simp [hT, hc], .nil a, by simp [sOne]⟩
    · rintro (⟨_, h⟩ | ⟨c, xs, p, q, rfl, h1, h2, h3, _⟩)
      · cases h
      · cases h3 with
        | nil => simp [hT] at h2; exact ⟨c, rfl, h2.2⟩
        | step he _ _ => cases he
section
variable {a : Nat} {g l : Lay} {em nt : Bool}
theorem seq_path (hg : Spt a g) (hl : Spt g.nx l) {p q : Nat} {xs : List UInt8} (h : Pth (g.seq em nt l) p xs q) :
    ((g.nx ≤ p ∧ p < l.nx) → Pth l p xs q) ∧ ((a ≤ p ∧ p < g.nx) → Pth g p xs q ∨ ∃ xs1 c xs2 p1 q1, xs = xs1 ++ c :: xs2 ∧ Pth g p xs1 p1 ∧ g.lst p1 = true ∧ l.fst q1 = true ∧ l.tk q1 c = true ∧ Pth l q1 xs2 q) := by
  induction h with
  | nil p => exact ⟨fun _ => .nil p, fun _ => .inl (.nil p)⟩
  | @step p p' q c xs he ht h ih =>
    simp only [Lay.seq, Bool.or_eq_true, Bool.and_eq_true] at he ht
    refine ⟨fun hp => ?_, fun hp => ?_⟩
    · rcases he with (he | he) | he
      · have := (hg.ed _ _ he).1; omega
      · have hp' := (hl.ed _ _ he).2
        rcases ht with ht | ht
        · have := hg.tk _ _ ht; omega
        · exact .step he ht (ih.1 hp')
      · have := hg.lst _ he.1; omega
    · rcases he with (he | he) | he
      · have hp' := (hg.ed _ _ he).2
        rcases ht with ht | ht
        · rcases ih.2 hp' with k | ⟨xs1, c1, xs2, p1, q1, rfl, k1, k2⟩
          · exact .inl (.step he ht k)
          · exact .inr ⟨c :: xs1, c1, xs2, p1, q1, rfl, .step he ht k1, k2⟩
        · have := hl.tk _ _ ht; omega
      · have := (hl.ed _ _ he).1; omega
      · have hp' := hl.fst _ he.2
        rcases ht with ht | ht
        · have := hg.tk _ _ ht; omega
        · exact .inr ⟨[], c, xs, p, p', rfl, .nil p, he.1, he.2, ht, ih.1 hp'⟩
theorem seq_g {p q : Nat} {xs : List UInt8} (h : Pth g p xs q) : Pth (g.seq em nt l) p xs q := h.mono (fun p q h => by simp [Lay.seq, h]) (fun p c h => by simp [Lay.seq, h])
theorem seq_l {p q : Nat} {xs : List UInt8} (h : Pth l p xs q) : Pth (g.seq em nt l) p xs q := h.mono (fun p q h => by simp [Lay.seq, h]) (fun p c h => by simp [Lay.seq, h])
theorem cor_seq {G P : List UInt8 → Prop} (hg : Cor a g G em) (hl : Cor g.nx l P nt) : Cor a (g.seq em nt l) (fun x => ∃ y z, x = y ++ z ∧ G y ∧ P z) (em && nt) := by
  have sg := hg.spt
  have sl := hl.spt
  have hle := sg.le
  have hle2 := sl.le
  have ff : ∀ p, (g.seq em nt l).fst p = true ↔ g.fst p = true ∨ (em = true ∧ l.fst p = true) := fun p => by
    cases em <;> simp [Lay.seq, sOr]
  have fl : ∀ p, (g.seq em nt l).lst p = true ↔ (nt = true ∧ g.lst p = true) ∨ l.lst p = true := fun p => by
    cases nt <;> simp [Lay.seq, sOr]
  refine ⟨⟨Nat.le_trans hle hle2, fun p h => ?_, fun p h => ?_, fun p c h => ?_, fun p q h => ?_⟩, fun x => ?_⟩
  · show a ≤ p ∧ p < l.nx
    rcases (ff p).1 h with h | ⟨_, h⟩
    · have := sg.fst p h; omega
    · have := sl.fst p h; omega
  · show a ≤ p ∧ p < l.nx
    rcases (fl p).1 h with ⟨_, h⟩ | h
    · have := sg.lst p h; omega
    · have := sl.lst p h; omega
  · show a ≤ p ∧ p < l.nx
    simp only [Lay.seq, Bool.or_eq_true] at h
    rcases h with h | h
    · have := sg.tk p c h; omega
    · have := sl.tk p c h; omega
  · show (a ≤ p ∧ p < l.nx) ∧ a ≤ q ∧ q < l.nx
    simp only [Lay.seq, Bool.or_eq_true, Bool.and_eq_true] at h
    rcases h with (h | h) | ⟨h, k⟩
    · have := sg.ed p q h; omega
    · have := sl.ed p q h; omega
    · have := sg.lst p h; have := sl.fst q k; omega
  · constructor
    · rintro ⟨y, z, rfl, hy, hz⟩
      rcases (hg.wd y).1 hy with ⟨rfl, e1⟩ | ⟨c, xs, p, q, rfl, h1, h2, h3, h4⟩
      · rcases (hl.wd z).1 hz with ⟨rfl, e2⟩ | ⟨c, xs, p, q, rfl, h1, h2, h3, h4⟩
        · exact .inl ⟨rfl, by rw [e1, e2]; rfl⟩
        · exact .inr ⟨c, xs, p, q, rfl, (ff p).2 (.inr ⟨e1, h1⟩), by simp [Lay.seq, h2], seq_l h3, (fl q).2 (.inr h4)⟩
      · rcases (hl.wd z).1 hz with ⟨rfl, e2⟩ | ⟨c', xs', p', q', rfl, k1, k2, k3, k4⟩
        · exact .inr ⟨c, xs, p, q, by simp, (ff p).2 (.inl h1), by simp [Lay.seq, h2], seq_g h3, (fl q).2 (.inl ⟨e2, h4⟩)⟩
        · refine .inr ⟨c, xs ++ c' :: xs', p, q', by simp, (ff p).2 (.inl h1), by simp [Lay.seq, h2], (seq_g h3).cat (.step ?_ (by simp [Lay.seq, k2]) (seq_l k3)), (fl q').2 (.inr k4)⟩
          simp [Lay.seq, h4, k1]
    · rintro (⟨rfl, e⟩ | ⟨c, xs, p, q, rfl, h1, h2, h3, h4⟩)
      · simp only [Bool.and_eq_true] at e
        exact ⟨[], [], rfl, hg.nul.2 e.1, hl.nul.2 e.2⟩
      · simp only [Lay.seq, Bool.or_eq_true] at h2
        rcases (ff p).1 h1 with k1 | ⟨e1, k1⟩
        · have hp := sg.fst p k1
          have t1 : g.tk p c = true := by
            rcases h2 with h2 | h2
            · exact h2
            · have := sl.tk p c h2; omega
          rcases (seq_path sg sl h3).2 hp with k | ⟨xs1, c1, xs2, p1, q1, rfl, k2, k3, k4, k5, k6⟩
          · have hq := k.in sg hp
            rcases (fl q).1 h4 with ⟨e2, h4⟩ | h4
            · exact ⟨c :: xs, [], by simp, (hg.wd _).2 (.inr ⟨c, xs, p, q, rfl, k1, t1, k, h4⟩), hl.nul.2 e2⟩
            · have := sl.lst q h4; omega
          · have hq := k6.in sl (sl.fst _ k4)
            rcases (fl q).1 h4 with ⟨_, h4⟩ | h4
            · have := sg.lst q h4; omega
            · exact ⟨c :: xs1, c1 :: xs2, by simp, (hg.wd _).2 (.inr ⟨c, xs1, p, p1, rfl, k1, t1, k2, k3⟩), (hl.wd _).2 (.inr ⟨c1, xs2, q1, q, rfl, k4, k5, k6, h4⟩)⟩
        · have hp := sl.fst p k1
          have t1 : l.tk p c = true := by
            rcases h2 with h2 | h2
            · have := sg.tk p c h2; omega
            · exact h2
          have k := (seq_path sg sl h3).1 hp
          have hq := k.in sl hp
          rcases (fl q).1 h4 with ⟨_, h4⟩ | h4
          · have := sg.lst q h4; omega
          · exact ⟨[], c :: xs, rfl, hg.nul.2 e1, (hl.wd _).2 (.inr ⟨c, xs, p, q, rfl, k1, t1, k, h4⟩)⟩
theorem alt_path (hg : Spt a g) (hl : Spt g.nx l) {p q : Nat} {xs : List UInt8} (h : Pth (g.alt l) p xs q) :
    ((g.nx ≤ p ∧ p < l.nx) → Pth l p xs q) ∧ ((a ≤ p ∧ p < g.nx) → Pth g p xs q) := by
  induction h with
  | nil p => exact ⟨fun _ => .nil p, fun _ => .nil p⟩
  | @step p p' q c xs he ht h ih =>
    simp only [Lay.alt, Bool.or_eq_true] at he ht
    refine ⟨fun hp => ?_, fun hp => ?_⟩
    · rcases he with he | he
      · have := (hg.ed _ _ he).1; omega
      · have hp' := (hl.ed _ _ he).2
        rcases ht with ht | ht
        · have := hg.tk _ _ ht; omega
        · exact .step he ht (ih.1 hp')
    · rcases he with he | he
      · have hp' := (hg.ed _ _ he).2
        rcases ht with ht | ht
        · exact .step he ht (ih.2 hp')
        · have := hl.tk _ _ ht; omega
      · have := (hl.ed _ _ he).1; omega
theorem alt_g {p q : Nat} {xs : List UInt8} (h : Pth g p xs q) : Pth (g.alt l) p xs q := h.mono (fun p q h => by simp [Lay.alt, h]) (fun p c h => by simp [Lay.alt, h])
theorem alt_l {p q : Nat} {xs : List UInt8} (h : Pth l p xs q) : Pth (g.alt l) p xs q := h.mono (fun p q h => by simp [Lay.alt, h]) (fun p c h => by simp [Lay.alt, h])
theorem cor_alt {G P : List UInt8 → Prop} (hg : Cor a g G em) (hl : Cor g.nx l P nt) : Cor a (g.alt l) (fun x => G x ∨ P x) (em || nt) := by
  have sg := hg.spt
  have sl := hl.spt
  have hle := sg.le
  have hle2 := sl.le
  refine ⟨⟨Nat.le_trans hle hle2, fun p h => ?_, fun p h => ?_, fun p c h => ?_, fun p q h => ?_⟩, fun x => ?_⟩
  · show a ≤ p ∧ p < l.nx
    simp only [Lay.alt, sOr, Bool.or_eq_true] at h
    rcases h with h | h
    · have := sg.fst p h; omega
    · have := sl.fst p h; omega
  · show a ≤ p ∧ p < l.nx
    simp only [Lay.alt, sOr, Bool.or_eq_true] at h
    rcases h with h | h
    · have := sg.lst p h; omega
    · have := sl.lst p h; omega
  · show a ≤ p ∧ p < l.nx
    simp only [Lay.alt, Bool.or_eq_true] at h
    rcases h with h | h
    · have := sg.tk p c h; omega
    · have := sl.tk p c h; omega
  · show (a ≤ p ∧ p < l.nx) ∧ a ≤ q ∧ q < l.nx
    simp only [Lay.alt, Bool.or_eq_true] at h
    rcases h with h | h
    · have := sg.ed p q h; omega
    · have := sl.ed p q h; omega
  · constructor
    · rintro (h | h)
      · rcases (hg.wd x).1 h with ⟨rfl, e1⟩ | ⟨c, xs, p, q, rfl, h1, h2, h3, h4⟩
        · exact .inl ⟨rfl, by rw [e1]; rfl⟩
        · exact .inr ⟨c, xs, p, q, rfl, by simp [Lay.alt, sOr, h1], by simp [Lay.alt, h2], alt_g h3, by simp [Lay.alt, sOr, h4]⟩
      · rcases (hl.wd x).1 h with ⟨rfl, e1⟩ | ⟨c, xs, p, q, rfl, h1, h2, h3, h4⟩
        · exact .inl ⟨rfl, by rw [e1, Bool.or_true]⟩
        · exact .inr ⟨c, xs, p, q, rfl, by simp [Lay.alt, sOr, h1], by simp [Lay.alt, h2], alt_l h3, by simp [Lay.alt, sOr, h4]⟩
    · rintro (⟨rfl, e⟩ | ⟨c, xs, p, q, rfl, h1, h2, h3, h4⟩)
      · simp only [Bool.or_eq_true] at e
        rcases e with e | e
        · exact .inl (hg.nul.2 e)
        · exact .inr (hl.nul.2 e)
      · simp only [Lay.alt, sOr, Bool.or_eq_true] at h1 h2 h4
        rcases h1 with k1 | k1
        · have hp := sg.fst p k1
          have k := (alt_path sg sl h3).2 hp
          have hq := k.in sg hp
          refine .inl ((hg.wd _).2 (.inr ⟨c, xs, p, q, rfl, k1, ?_, k, ?_⟩))
          · rcases h2 with h2 | h2
            · exact h2
            · have := sl.tk p c h2; omega
          · rcases h4 with h4 | h4
            · exact h4
            · have := sl.lst q h4; omega
        · have hp := sl.fst p k1
          have k := (alt_path sg sl h3).1 hp
          have hq := k.in sl hp
          refine .inr ((hl.wd _).2 (.inr ⟨c, xs, p, q, rfl, k1, ?_, k, ?_⟩))
          · rcases h2 with h2 | h2
            · have := sg.tk p c h2; omega
            · exact h2
          · rcases h4 with h4 | h4
            · have := sg.lst q h4; omega
            · exact h4
end
theorem rep_l {l : Lay} {r : Bool} {p q : Nat} {xs : List UInt8} (h : Pth l p xs q) : Pth (l.rep r) p xs q := Pth.mono (l := l) (m := l.rep r) (fun p q k => by simp [Lay.rep, k]) (fun p c k => k) h
theorem rep_path {l : Lay} {p q : Nat} {xs : List UInt8} (h : Pth (l.rep true) p xs q) : Pth l p xs q ∨ ∃ xs1 c xs2 p1 q1, xs = xs1 ++ c :: xs2 ∧ Pth l p xs1 p1 ∧ l.lst p1 = true ∧ l.fst q1 = true ∧ l.tk q1 c = true ∧ Pth (l.rep true) q1 xs2 q := by
  induction h with
  | nil p => exact .inl (.nil p)
  | @step p p' q c xs he ht h ih =>
    simp only [Lay.rep, Bool.or_eq_true, Bool.and_eq_true, true_and] at he ht
    rcases he with he | he
    · rcases ih with k | ⟨xs1, c1, xs2, p1, q1, rfl, k1, k2⟩
      · exact .inl (.step he ht k)
      · exact .inr ⟨c :: xs1, c1, xs2, p1, q1, rfl, .step he ht k1, k2⟩
    · exact .inr ⟨[], c, xs, p, p', rfl, .nil p, he.1, he.2, ht, h⟩
theorem rep_words {l : Lay} {P : List UInt8 → Prop} (hw : ∀ x, Wd l x → P x) : ∀ (n : Nat) {x : List UInt8}, x.length ≤ n → Wd (l.rep true) x → Pls P x
  | 0, x, hn, ⟨c, xs, p, q, hx, _⟩ => by subst hx; simp at hn
  | n + 1, x, hn, ⟨c, xs, p, q, hx, h1, h2, h3, h4⟩ => by
    subst hx
    rcases rep_path h3 with k | ⟨xs1, c1, xs2, p1, q1, rfl, k1, k2, k3, k4, k5⟩
    · exact .one (hw _ ⟨c, xs, p, q, rfl, h1, h2, k, h4⟩)
    · have e : c :: (xs1 ++ c1 :: xs2) = (c :: xs1) ++ (c1 :: xs2) := by simp
      rw [e]
      refine .more (hw _ ⟨c, xs1, p, p1, rfl, h1, h2, k1, k2⟩) (rep_words hw n ?_ ⟨c1, xs2, q1, q, rfl, k3, k4, k5, h4⟩)
      simp at hn ⊢; omega
theorem cor_rep {a : Nat} {l : Lay} {P : List UInt8 → Prop} {em : Bool} (h : Cor a l P em) (o r : Bool) : Cor a (l.rep r) (RepL P o r) (o || em) := by
  have s := h.spt
  refine ⟨⟨s.le, s.fst, s.lst, s.tk, fun p q k => ?_⟩, fun x => ?_⟩
  · simp only [Lay.rep, Bool.or_eq_true, Bool.and_eq_true] at k
    rcases k with k | ⟨⟨_, k1⟩, k2⟩
    · exact s.ed p q k
    · exact ⟨s.lst p k1, s.fst q k2⟩
  · cases r with
    | false =>
      have e : ∀ x, Wd (l.rep false) x ↔ Wd l x := fun x => by
        have : l.rep false = l := by simp [Lay.rep]
        rw [this]
      unfold RepL
      rw [if_neg (by decide), e, h.wd]
      cases o <;> cases em <;> simp
    | true =>
      unfold RepL
      rw [if_pos rfl]
      constructor
      · rintro (⟨rfl, rfl⟩ | k)
        · exact .inl ⟨rfl, rfl⟩
        · induction k with
          | one hx =>
            rcases (h.wd _).1 hx with ⟨rfl, e⟩ | ⟨c, xs, p, q, rfl, h1, h2, h3, h4⟩
            · exact .inl ⟨rfl, by rw [e, Bool.or_true]⟩
            · exact .inr ⟨c, xs, p, q, rfl, h1, h2, rep_l h3, h4⟩
          | @more x y hx k ih =>
            rcases (h.wd _).1 hx with ⟨rfl, e⟩ | ⟨c, xs, p, q, rfl, h1, h2, h3, h4⟩
            · exact ih
            · rcases ih with ⟨rfl, e⟩ | ⟨c', xs', p', q', rfl, k1, k2, k3, k4⟩
              · exact .inr ⟨c, xs, p, q, by simp, h1, h2, rep_l h3, h4⟩
              · refine .inr ⟨c, xs ++ c' :: xs', p, q', by simp, h1, h2, (rep_l h3).cat (.step ?_ k2 k3), k4⟩
                have k1' : l.fst p' = true := k1
                simp [Lay.rep, h4, k1']
      · rintro (⟨rfl, e⟩ | k)
        · simp only [Bool.or_eq_true] at e
          rcases e with e | e
          · exact .inl ⟨e, rfl⟩
          · exact .inr (.one (h.nul.2 e))
        · exact .inr (rep_words (fun x hx => (h.wd x).2 (.inr hx)) _ (Nat.le_refl _) k)
theorem Cor.iff {a : Nat} {l : Lay} {P Q : List UInt8 → Prop} {em : Bool} (h : Cor a l P em) (hq : ∀ x, Q x ↔ P x) : Cor a l Q em := ⟨h.spt, fun x => (hq x).trans (h.wd x)⟩
mutual
theorem cor_P : ∀ (t : Pat) (a : Nat), Cor a (lyP t a) (Lg t) (nulB t)
  | .byte b, a => by
    refine (cor_one a (fun c => c == b) _ (fun p c => rfl)).iff (fun x => ?_)
    simp [Lg]
  | .cls f, a => by
    refine (cor_one a f _ (fun p c => rfl)).iff (fun x => ?_)
    simp [Lg]
  | .rep t o r, a => by
    have := cor_rep (cor_P t a) o r
    simp only [lyP, nulB, Lg]
    exact this
  | .alt os, a => by
    have := cor_A os a (Lay.no a) _ _ (cor_none a)
    simp only [lyP, nulB, Lg]
    refine (show Cor a (lyA os (Lay.no a)) _ (nulA os) from ?_)
    rw [Bool.false_or] at this
    exact this.iff (fun x => by simp)
theorem cor_A : ∀ (os : List (List Pat)) (a : Nat) (g : Lay) (G : List UInt8 → Prop) (em : Bool), Cor a g G em → Cor a (lyA os g) (fun x => G x ∨ LgA os x) (em || nulA os)
  | [], a, g, G, em, h => by
    simp only [lyA, nulA, LgA, or_false, Bool.or_false]
    exact h
  | ts :: os, a, g, G, em, h => by
    have h1 := cor_S ts g.nx (Lay.no g.nx) _ _ (cor_no g.nx)
    rw [Bool.true_and] at h1
    have h2 := cor_A os a _ _ _ (cor_alt h h1)
    simp only [lyA, nulA, LgA, ← Bool.or_assoc]
    refine h2.iff (fun x => ?_)
    have e : (∃ y z, x = y ++ z ∧ y = [] ∧ LgS ts z) ↔ LgS ts x := by
      constructor
      · rintro ⟨y, z, rfl, rfl, h⟩; exact h
      · exact fun h => ⟨[], x, rfl, rfl, h⟩
    rw [e, or_assoc]
theorem cor_S : ∀ (ts : List Pat) (a : Nat) (g : Lay) (G : List UInt8 → Prop) (em : Bool), Cor a g G em → Cor a (lyS ts em g) (fun x => ∃ y z, x = y ++ z ∧ G y ∧ LgS ts z) (em && nulS ts)
  | [], a, g, G, em, h => by
    simp only [lyS, nulS, LgS, Bool.and_true]
    refine h.iff (fun x => ?_)
    constructor
    · rintro ⟨y, z, rfl, hy, rfl⟩; simpa using hy
    · exact fun h => ⟨x, [], by simp, h, rfl⟩
  | t :: ts, a, g, G, em, h => by
    have h2 := cor_S ts a _ _ _ (cor_seq h (cor_P t g.nx))
    simp only [lyS, nulS, LgS, ← Bool.and_assoc]
    refine h2.iff (fun x => ?_)
    constructor
    · rintro ⟨y, z, rfl, hy, u, v, rfl, hu, hv⟩; exact ⟨y ++ u, v, by simp, ⟨y, u, rfl, hy, hu⟩, hv⟩
    · rintro ⟨y, z, rfl, ⟨u, v, rfl, hu, hv⟩, hz⟩; exact ⟨u, v ++ z, by simp, hu, v, z, rfl, hv, hz⟩
end
end Go.Proofs.YtkidabedcgngcaaGreatDoor

/-
  Sets of positions as words of 64 bits.
-/
namespace Go.Proofs.YtkidabedcgngcaaGreatDoor
set_option linter.unusedVariables false
set_option linter.unusedSimpArgs false

/-- The number whose bits below n are those of f. -/
def ofB (f : Nat → Bool) : Nat → Nat
  | 0 => 0
  | n + 1 => ofB f n ||| (if f n = true then 2 ^ n else 0)
theorem ofB_bit (f : Nat → Bool) : ∀ (n j : Nat), (ofB f n).testBit j = (decide (j < n) && f j)
  | 0, j => by simp [ofB]
  | n + 1, j => by
    unfold ofB
    rw [Nat.testBit_or, ofB_bit f n j]
    by_cases hf : f n = true
    · rw [if_pos hf, Nat.testBit_two_pow]
      by_cases h : j = n
      · subst h; simp [hf]
      · have h1 : decide (n = j) = false := by simp; omega
        have h2 : decide (j < n + 1) = decide (j < n) := by rw [decide_eq_decide]; omega
        rw [h1, h2]; simp
    · rw [if_neg hf, Nat.zero_testBit]
      by_cases h : j = n
      · subst h; simp [hf]
      · have h2 : decide (j < n + 1) = decide (j < n) := by rw [decide_eq_decide]; omega
        rw [h2]; simp
theorem ofB_lt (f : Nat → Bool) (n : Nat) : ofB f n < 2 ^ n := by
  refine Nat.lt_pow_two_of_testBit _ (fun i hi => ?_)
  rw [ofB_bit]
  have : decide (i < n) = false := by simp; omega
  rw [this]; rfl
theorem eq_ofB {x n : Nat} {f : Nat → Bool} (hx : x < 2 ^ n) (h : ∀ j, j < n → x.testBit j = f j) : x = ofB f n := by
  refine Nat.eq_of_testBit_eq (fun j => ?_)
  rw [ofB_bit]
  by_cases hj : j < n
  · rw [h j hj]; simp [hj]
  · rw [Nat.testBit_lt_two_pow (Nat.lt_of_lt_of_le hx (Nat.pow_le_pow_right (by decide) (by omega)))]
    simp [hj]
theorem ofB_congr {f g : Nat → Bool} {n : Nat} (h : ∀ j, j < n → f j = g j) : ofB f n = ofB g n := eq_ofB (ofB_lt f n) (fun j hj => by rw [ofB_bit, h j hj]; simp [hj])
/-- Word i of a set, from bit b on. -/
def wdF (S : PS) (i b : Nat) : Nat := ofB (fun j => S (64 * i + j) && decide (b ≤ j)) 64
def wdN (S : PS) (i : Nat) : Nat := ofB (fun j => S (64 * i + j)) 64
theorem wdF_zero (S : PS) (i : Nat) : wdF S i 0 = wdN S i := ofB_congr (fun j _ => by simp)
theorem wdN_lt (S : PS) (i : Nat) : wdN S i < 18446744073709551616 := ofB_lt _ 64
theorem wdF_lt (S : PS) (i b : Nat) : wdF S i b < 18446744073709551616 := ofB_lt _ 64
def sAnd (F G : PS) : PS := fun i => F i && G i
theorem wd_or (S T : PS) (i : Nat) : bits .or .u64 (wdN S i : Int) (wdN T i : Int) = ((wdN (sOr S T) i : Nat) : Int) := by
  rw [bits_or_u64_nat _ _ (wdN_lt _ _) (wdN_lt _ _)]
  congr 1
  refine eq_ofB (Nat.or_lt_two_pow (wdN_lt _ _) (wdN_lt _ _)) (fun j hj => ?_)
  rw [Nat.testBit_or]
  unfold wdN
  rw [ofB_bit, ofB_bit]
  simp [hj, sOr]
theorem wd_and (S T : PS) (i : Nat) : bits .and .u64 (wdN S i : Int) (wdN T i : Int) = ((wdN (sAnd S T) i : Nat) : Int) := by
  rw [bits_and_u64_nat _ _ (wdN_lt _ _) (wdN_lt _ _)]
  congr 1
  refine eq_ofB (Nat.and_lt_two_pow _ (wdN_lt _ _)) (fun j hj => ?_)
  rw [Nat.testBit_and]
  unfold wdN
  rw [ofB_bit, ofB_bit]
  simp [hj, sAnd]
theorem wd_with (S : PS) (a i : Nat) (hi : i = a / 64) : bits .or .u64 (wdN S i : Int) ((2 ^ (a % 64) : Nat) : Int) = ((wdN (sOr S (sOne a)) i : Nat) : Int) := by
  have hp : 2 ^ (a % 64) < 18446744073709551616 := Nat.pow_lt_pow_right (a := 2) (by decide) (Nat.mod_lt a (by decide) : a % 64 < 64)
  rw [bits_or_u64_nat _ _ (wdN_lt _ _) hp]
  congr 1
  refine eq_ofB (Nat.or_lt_two_pow (wdN_lt _ _) hp) (fun j hj => ?_)
  rw [Nat.testBit_or, Nat.testBit_two_pow]
  unfold wdN
  rw [ofB_bit]
  have h : decide (a % 64 = j) = (64 * i + j == a) := by
    rw [Bool.eq_iff_iff, decide_eq_true_eq, beq_iff_eq]; omega
  simp only [hj, decide_true, Bool.true_and, sOr, sOne, h]
theorem wd_other (S : PS) (a i : Nat) (hi : ¬ i = a / 64) : wdN (sOr S (sOne a)) i = wdN S i := by
  refine ofB_congr (fun j hj => ?_)
  have h : (64 * i + j == a) = false := by rw [beq_eq_false_iff_ne]; omega
  simp only [sOr, sOne, h, Bool.or_false]
/-- The lowest bit, and a number without it. -/
theorem low_bit (x : Nat) (h0 : x ≠ 0) (hx : x < 18446744073709551616) : Lib.ctz 64 x < 64 ∧ x.testBit (Lib.ctz 64 x) = true ∧ (∀ j, j < Lib.ctz 64 x → x.testBit j = false) ∧ ∀ j, (x &&& (x - 1)).testBit j = (decide (Lib.ctz 64 x < j) && x.testBit j) := by
  obtain ⟨m, hm, hk⟩ := Lib.ctzFrom_spec 64 x (by omega) hx
  have e : Lib.ctz 64 x = Lib.ctzFrom 64 x := by simp [Lib.ctz, h0]
  rw [e]
  generalize Lib.ctzFrom 64 x = k at hm hk
  have hb : ∀ j, x.testBit j = (decide (k ≤ j) && (2 * m + 1).testBit (j - k)) := fun j => by
    rw [hm, Nat.mul_comm, Nat.testBit_mul_two_pow]
  have hp : 0 < 2 ^ k := Nat.pow_pos (by decide)
  have hd : (x - 1) / 2 ^ k = 2 * m := by
    have h1 : x - 1 = 2 ^ k * (2 * m) + (2 ^ k - 1) := by rw [hm, Nat.mul_add]; omega
    rw [h1, Nat.mul_add_div hp, Nat.div_eq_of_lt (by omega), Nat.add_zero]
  have hb1 : ∀ j, k ≤ j → (x - 1).testBit j = (2 * m).testBit (j - k) := fun j hj => by
    rw [← hd, Nat.testBit_div_two_pow]
    congr 1
    omega
  refine ⟨hk, by rw [hb]; simp, fun j hj => by rw [hb]; have : decide (k ≤ j) = false := by simp; omega
                                               rw [this]; rfl, fun j => ?_⟩
  rw [Nat.testBit_and, hb j]
  by_cases h1 : k ≤ j
  · rw [hb1 j h1]
    by_cases h2 : j = k
    · subst h2; simp
    · obtain ⟨t, rfl⟩ : ∃ t, j = k + (t + 1) := ⟨j - k - 1, by omega⟩
      have e3 : k + (t + 1) - k = t + 1 := by omega
      have e4 : decide (k < k + (t + 1)) = true := by simp
      have d1 : (2 * m + 1) / 2 = m := by omega
      have d2 : (2 * m) / 2 = m := by omega
      rw [e3, e4, Nat.testBit_succ, Nat.testBit_succ, d1, d2]
      simp
  · have h2 : decide (k ≤ j) = false := by simp; omega
    have h3 : decide (k < j) = false := by simp; omega
    rw [h2, h3]; simp
theorem wdF_low {S : PS} {i b x : Nat} (hx : x = wdF S i b) (h0 : x ≠ 0) : Lib.ctz 64 x < 64 ∧ S (64 * i + Lib.ctz 64 x) = true ∧ b ≤ Lib.ctz 64 x ∧ (∀ j, b ≤ j → j < Lib.ctz 64 x → S (64 * i + j) = false) ∧ x &&& (x - 1) = wdF S i (Lib.ctz 64 x + 1) := by
  have hl : x < 18446744073709551616 := by rw [hx]; exact wdF_lt _ _ _
  obtain ⟨h1, h2, h3, h4⟩ := low_bit x h0 hl
  generalize Lib.ctz 64 x = k at h1 h2 h3 h4
  have hb : ∀ j, j < 64 → x.testBit j = (S (64 * i + j) && decide (b ≤ j)) := fun j hj => by
    rw [hx]; unfold wdF; rw [ofB_bit]; simp [hj]
  rw [hb k h1, Bool.and_eq_true, decide_eq_true_eq] at h2
  refine ⟨h1, h2.1, h2.2, fun j hbj hj => ?_, ?_⟩
  · have := h3 j hj
    rw [hb j (by omega)] at this
    simpa [hbj] using this
  · refine eq_ofB (Nat.and_lt_two_pow _ (by omega)) (fun j hj => ?_)
    rw [h4 j, hb j hj]
    by_cases q : k < j
    · have q1 : decide (k + 1 ≤ j) = true := by simp; omega
      have q2 : decide (b ≤ j) = true := by have := h2.2; simp; omega
      rw [q1, q2]; simp [q]
    · have q1 : decide (k + 1 ≤ j) = false := by simp; omega
      rw [q1]; simp [q]
theorem wdF_none {S : PS} {i b : Nat} (h : wdF S i b = 0) (j : Nat) (hb : b ≤ j) (hj : j < 64) : S (64 * i + j) = false := by
  have h1 : (wdF S i b).testBit j = (S (64 * i + j) && decide (b ≤ j)) := by unfold wdF; rw [ofB_bit]; simp [hj]
  rw [h, Nat.zero_testBit] at h1
  simpa [hb] using h1.symm
theorem sub_one_u64 (x : Nat) (h0 : x ≠ 0) (hx : x < 18446744073709551616) : bits .and .u64 (x : Int) (IntKind.u64.wrap ((x : Int) - 1)) = ((x &&& (x - 1) : Nat) : Int) := by
  have e1 : IntKind.u64.wrap ((x : Int) - 1) = ((x - 1 : Nat) : Int) := by rw [IntKind.wrap_u64]; omega
  rw [e1, bits_and_u64_nat x _ hx (by omega)]
/-- A set as a value. -/
def psL (S : PS) : List Value := [.int .u64 (wdN S 0 : Int), .int .u64 (wdN S 1 : Int), .int .u64 (wdN S 2 : Int), .int .u64 (wdN S 3 : Int)]
abbrev psV (S : PS) : Value := .agg #[.int .u64 (wdN S 0 : Int), .int .u64 (wdN S 1 : Int), .int .u64 (wdN S 2 : Int), .int .u64 (wdN S 3 : Int)]
theorem wdN_congr {S T : PS} (h : ∀ p, p < 256 → S p = T p) {i : Nat} (hi : i < 4) : wdN S i = wdN T i := ofB_congr (fun j hj => h _ (by omega))
theorem psV_congr {S T : PS} (h : ∀ p, p < 256 → S p = T p) : psV S = psV T := by
  simp only [psV]
  rw [wdN_congr h (i := 0) (by omega), wdN_congr h (i := 1) (by omega), wdN_congr h (i := 2) (by omega), wdN_congr h (i := 3) (by omega)]
theorem psL_congr {S T : PS} (h : ∀ p, p < 256 → S p = T p) : psL S = psL T := by
  simp only [psL]
  rw [wdN_congr h (i := 0) (by omega), wdN_congr h (i := 1) (by omega), wdN_congr h (i := 2) (by omega), wdN_congr h (i := 3) (by omega)]
theorem wdN_no (i : Nat) : wdN sNo i = 0 := by
  refine (eq_ofB (by decide) (fun j _ => ?_)).symm
  simp [sNo]
theorem wdN_zero {S : PS} {i : Nat} (h : wdN S i = 0) (j : Nat) (hj : j < 64) : S (64 * i + j) = false := wdF_none (b := 0) (by rw [wdF_zero]; exact h) j (Nat.zero_le _) hj
theorem wdN_inj {S T : PS} {i : Nat} (h : wdN S i = wdN T i) (j : Nat) (hj : j < 64) : S (64 * i + j) = T (64 * i + j) := by
  have h1 : (wdN S i).testBit j = S (64 * i + j) := by unfold wdN; rw [ofB_bit]; simp [hj]
  have h2 : (wdN T i).testBit j = T (64 * i + j) := by unfold wdN; rw [ofB_bit]; simp [hj]
  rw [← h1, ← h2, h]
theorem words_inj {S T : PS} (h : ∀ i, i < 4 → wdN S i = wdN T i) (p : Nat) (hp : p < 256) : S p = T p := by
  have := wdN_inj (h (p / 64) (by omega)) (p % 64) (by omega)
  rwa [show 64 * (p / 64) + p % 64 = p by omega] at this
end Go.Proofs.YtkidabedcgngcaaGreatDoor

/-
  math/bits.TrailingZeros64, and the members of a set of positions one by one.
-/
namespace Go.Proofs.YtkidabedcgngcaaGreatDoor
open Go.ChangeShapes Go.WideShapes Go.ChangeAt Go.RowKit Go.Deep Go.Shelf
set_option linter.unusedVariables false
set_option linter.unusedSimpArgs false
set_option maxRecDepth 100000

/-- The table of math/bits as its initialiser lays it. -/
def TabD (w : World) : Prop := ∀ j, j < 64 → w.cell? ⟨1, j, none⟩ = some (.int .u8 (Lib.deBruijn64tab.getD j 0))
theorem TabD.lt {w : World} (h : TabD w) : 1 < w.heap.size := by
  have h0 := h 0 (by omega)
  apply Classical.byContradiction
  intro hn
  rw [World.cell?, Array.getElem?_eq_none (by simp only; omega)] at h0
  simp at h0
theorem neg_key (x a : Nat) (hx : x < 18446744073709551616) (hx0 : x ≠ 0) (hlow : x &&& (18446744073709551616 - x) = a) :
    IntKind.u64.wrap (bits BinOp.and IntKind.u64 (x : Int) (IntKind.u64.wrap (-(x : Int))) * 285870213051353865) / 288230376151711744 = ((a * 285870213051353865 % 18446744073709551616 / 288230376151711744 : Nat) : Int) := by
  have e1 : IntKind.u64.wrap (-(x : Int)) = ((18446744073709551616 - x : Nat) : Int) := by rw [IntKind.wrap_u64]; omega
  rw [e1, bits_and_u64_nat x _ hx (by omega), hlow, IntKind.wrap_u64]
  omega
set_option maxHeartbeats 1000000 in
theorem tz_at (x k idx : Nat) (w : World) (hx0 : ((x : Int) == 0) = false)
    (key : IntKind.u64.wrap (bits BinOp.and IntKind.u64 (x : Int) (IntKind.u64.wrap (-(x : Int))) * 285870213051353865) / 288230376151711744 = (idx : Int))
    (hi : idx < 64) (hk : k < 64) (hcell : w.cell? ⟨1, idx, none⟩ = some (.int .u8 k)) :
    Calls Tryz.prog 167 #[.int .u64 x] w fun e w' => e = .returned (.int .i64 k) ∧ w' = w := by
  go_enter Tryz.func167, Tryz.ntmps167
  go_wp2_with (simp only [key])
  go_ret
  exact ⟨rfl, rfl⟩
theorem tz_core (x : Nat) (hx : x < 18446744073709551616) (hx0 : x ≠ 0) (w : World) (hT : TabD w) : Calls Tryz.prog 167 #[.int .u64 x] w fun e w' => e = .returned (.int .i64 (Lib.ctz 64 x)) ∧ w' = w := by
  obtain ⟨hlow, hk⟩ := Lib.lowest_bit 64 x hx0 hx
  obtain ⟨hi, htab⟩ := Lib.deBruijn64_at _ hk
  have hcell := hT _ hi
  rw [htab] at hcell
  exact tz_at x _ _ w (by simp; omega) (neg_key x _ hx hx0 hlow) hi hk hcell
theorem ps_index (S : PS) {k : Nat} (hk : k < 4) (w : World) : (Instr.index 178 (psV S) (.int .i64 (k : Int))).run Tryz.prog w = .ok (.int .u64 (wdN S k : Int)) w := by
  rcases (by omega : k = 0 ∨ k = 1 ∨ k = 2 ∨ k = 3) with rfl | rfl | rfl | rfl <;> kernel_rfl
set_option maxHeartbeats 4000000 in
/-- The members of a set are handed out one by one, from the least on. -/
theorem members_in (S : PS) (l m : Nat) (hm : 1 ≤ m) (J : Nat → World → Prop)
    (hY : ∀ k x W, J k W → k ≤ x → x < 256 → S x = true → (∀ j, k ≤ j → j < x → S j = false) → YieldAt Fence.wide (m - 1) Tryz.prog l #[.int .i64 (x : Int)] W fun e W' => e = .returned (.bool true) ∧ J (x + 1) W')
    (hJs : ∀ k k' W, J k W → k ≤ k' → (∀ j, k ≤ j → j < k' → S j = false) → J k' W) (hJd : ∀ k W, J k W → J k W.drew) (hJa : ∀ k W (o : Obj), J k W → J k (W.alloc o)) (hJt : ∀ k W, J k W → TabD W) (W : World) (h0 : J 0 W) :
    CallsIn Fence.wide m Tryz.prog 160 #[psV S, .func (.yield l) #[] #[]] W fun e W' => (∃ v, e = .returned v) ∧ J 256 W' := by
  have HJ0 : Hid (J 0 (W.alloc (.cells (psL S).toArray 178))) := hJa _ _ _ h0
  refine callsIn_of_wp Tryz.func160 rfl trivial ?_ rfl
  simp only [Tryz.ntmps160, List.size_toArray, List.length_cons, List.length_nil, Nat.reduceAdd, Nat.reduceSub, Array.replicate_succ, Array.replicate_zero, List.push_toArray, List.append_toArray, List.nil_append, List.cons_append]
  gi_wp2
  gi_loopw [7] (fun iv wr => ∃ i : Nat, i ≤ 4 ∧ iv = .int .i64 (i : Int) ∧ J (64 * i) wr) (fun iv _ => 4 - (intOf iv).toNat)
  case atStart => exact ⟨0, by omega, rfl, HJ0.out⟩
  case round =>
    obtain ⟨i, hi, rfl, hJi⟩ := hrel
    by_cases hlt : i < 4
    · have zi : (i : Int) < 4 := by omega
      have hix := fun w => ps_index S hlt w
      have HJi : Hid (J (64 * i) wr) := hJi
      clear hJi
      gi_wp2
      gi_loopw [5] (fun xv wr => ∃ x b : Nat, xv = .int .u64 (x : Int) ∧ Hid (x = wdF S i b) ∧ b ≤ 64 ∧ Hid (J (64 * i + b) wr)) (fun xv _ => (intOf xv).toNat)
      case atStart => exact ⟨wdN S i, 0, rfl, (wdF_zero S i).symm, by omega, HJi.out⟩
      case round =>
        obtain ⟨x, b, rfl, HX, hb, HJb⟩ := hrel
        by_cases hx0 : x = 0
        · subst hx0
          have hn : Hid (J (64 * (i + 1)) wr) := hJs _ _ _ HJb.out (by omega) (fun j h1 h2 => by
            have := wdF_none HX.out.symm (j - 64 * i) (by omega) (by omega)
            rwa [show 64 * i + (j - 64 * i) = j by omega] at this)
          clear HJb HX HJi
          gi_wp2
          go_roundw
          case rel => exact ⟨i + 1, by omega, by go_num, hn.out⟩
          case measure => simp [intOf]; omega
        · have hxl : x < 18446744073709551616 := by rw [HX.out]; exact wdF_lt _ _ _
          obtain ⟨h1, h2, h3, h4, h5⟩ := wdF_low HX.out hx0
          have HT := tz_core x hxl hx0 wr (hJt _ _ HJb.out)
          obtain ⟨k, hk⟩ : ∃ k, k = Lib.ctz 64 x := ⟨_, rfl⟩
          rw [← hk] at h1 h2 h3 h4 h5 HT
          obtain ⟨fn, tmps, assign, body, hy, hR⟩ := hY _ (64 * i + k) wr HJb.out (by omega) (by omega) h2 (fun j q1 q2 => by
            have := h4 (j - 64 * i) (by omega) (by omega)
            rwa [show 64 * i + (j - 64 * i) = j by omega] at this)
          have e0 : ((64 * i + k : Nat) : Int) = (i : Int) * 64 + (k : Int) := by omega
          rw [e0] at hy
          have zx : ((x : Int) == 0) = false := by simp; omega
          have HN : Hid (x &&& (x - 1) = wdF S i (k + 1) ∧ x &&& (x - 1) < x) := ⟨h5, by have := Nat.and_le_right (n := x) (m := x - 1); omega⟩
          have HS1 : bits .and .u64 (x : Int) ((x : Int) - 1) = ((x &&& (x - 1) : Nat) : Int) := by
            have := sub_one_u64 x hx0 hxl
            rwa [IntKind.wrap_u64, Int.emod_eq_of_lt (by omega) (by omega)] at this
          have HHT : Hid (Calls Tryz.prog 167 #[.int .u64 (x : Int)] wr fun e w' => e = .returned (.int .i64 (k : Int)) ∧ w' = wr) := HT
          obtain ⟨y, hyy⟩ : ∃ y, y = x &&& (x - 1) := ⟨_, rfl⟩
          rw [← hyy] at HS1 HN
          clear HT hk h2 h3 h4 h5 HJi HJb e0 hyy
          gi_wp2
          refine ⟨trivial, (callsIn_wide.2 HHT.out).mono ?_⟩
          rintro e w' ⟨rfl, hw'⟩
          rw [hw']
          clear hw' HHT
          gi_wp2
          refine hR.mono ?_
          rintro e W3 ⟨rfl, hJ3⟩
          have HJ3 : Hid (J (64 * i + (k + 1)) W3) := hJ3
          clear hJ3 hR hy
          gi_wp2_with (simp only [HS1])
          go_roundw
          case rel => exact ⟨y, k + 1, by first | rfl | rw [HS1], HN.out.1, by omega, HJ3.out⟩
          case measure => have := HN.out.2; simp [intOf, HS1]; omega
    · obtain rfl : i = 4 := by omega
      gi_wp2
      go_end0
      exact ⟨⟨_, rfl⟩, hJi⟩
/-- 'for .. := range set.members', no round of which is left early. -/
theorem wp_range_mem {g : Operand} {ps : Array Tmp} {assign body : Code} {Q : Exit → Act → World → Prop} {a : Act} {w : World} {n : Nat} (h1 : 2 ≤ n) (S : PS)
    (hg : a.eval g = .func (.func 160) #[psV S] #[]) (hps : ps.size = 1) (I : Nat → World → Prop) (hI : OwnFrom w.heap.size I) (hIt : ∀ k W, I k W → TabD W)
    (hIs : ∀ k k' W, I k W → k ≤ k' → (∀ j, k ≤ j → j < k' → S j = false) → I k' W) (h0 : I 0 w) (a₁ : Nat → Act)
    (hassign : ∀ (l x : Nat) (W : World) (K : Act → World → Prop), K (a₁ x) W → assign.wpIn (Fence.wide.inRound l) (n - 1 - 1) Tryz.prog (Exit.then K (fun _ _ _ => False)) { tmps := (ps.zip #[.int .i64 (x : Int)]).foldl (fun t (p, v) => t.setIfInBounds p v) a.tmps, defers := [] } W)
    (hbody : ∀ (l k x : Nat) (W : World), I k W → k ≤ x → x < 256 → S x = true → (∀ j, k ≤ j → j < x → S j = false) → body.wpIn (Fence.wide.inRound l) (n - 1 - 1) Tryz.prog (fun e _ W' => e = .normal ∧ KeepsFrom w.heap.size W W' ∧ I (x + 1) W') (a₁ x) W)
    (hdone : ∀ (D : Nat) (W : World), w.heap.size ≤ D → I 256 W → W.heap[D]? = some (.deferred (some [])) → Q .normal { a with defers := { target := .collected D, args := #[] } :: a.defers } W) :
    (Code.rangeFunc g ps assign body).wpIn Fence.wide n Tryz.prog Q a w := by
  refine wpIn_rangeFunc ?_
  intro fn hfn
  obtain ⟨rec, hrec⟩ : ∃ rec : LoopState → Option Code → Loop, rec = fun st pe => { state := st, pending := pe, fn, tmps := a.tmps, params := ps, assign, body, defers := w.heap.size } := ⟨_, rfl⟩
  obtain ⟨W1, hW1⟩ : ∃ W1, (w.alloc (.deferred (some []))).alloc (.loop (rec .ready none)) = W1 := ⟨_, rfl⟩
  have hL1 : W1.heap[w.heap.size + 1]? = some (.loop (rec .ready none)) := by
    rw [← hW1]; have := World.alloc_heap_new (w.alloc (.deferred (some []))) (.loop (rec .ready none)); rwa [World.size_alloc] at this
  have hK1 : W1.heap[w.heap.size]? = some (.deferred (some [])) := by
    rw [← hW1]; exact (Below.heap_alloc _ _ _ (by simp)).trans (World.alloc_heap_new w _)
  have hI1 : I 0 W1 := by rw [← hW1]; exact hI.alloc _ (hI.alloc _ h0)
  refine ⟨w.heap.size + 1, [{ target := .collected w.heap.size, args := #[] }], W1, { target := .fn (.func 160) #[], args := #[psV S, .func (.yield (w.heap.size + 1)) #[] #[]] }, W1, 160,
    #[psV S, .func (.yield (w.heap.size + 1)) #[] #[]], W1, ?_, ?_, fun _ _ => trivial, ?_, fun _ => by omega, ?_⟩
  · rw [← hW1, hrec]; exact run_enterLoop_outer _ _ _ _ _
  · simp only [resolve, hg]
    simp [go_sem]
  · simp [invoke, go_sem]
  · have hkeep : ∀ (k : Nat) {A B : World} {row : Option Nat}, (I k A ∧ A.heap[w.heap.size + 1]? = some (.loop (rec .ready none)) ∧ A.heap[w.heap.size]? = some (.deferred (some []))) → A.grownBy B none → (I k B ∧ B.heap[w.heap.size + 1]? = some (.loop (rec .ready none)) ∧ B.heap[w.heap.size]? = some (.deferred (some []))) := fun k A B row h hgr =>
      ⟨hI k A B none h.1 hgr (fun r e => by cases e), (hgr.block _ (Array.getElem?_eq_some_iff.1 h.2.1).1 (by simp)).trans h.2.1, (hgr.block _ (Array.getElem?_eq_some_iff.1 h.2.2).1 (by simp)).trans h.2.2⟩
    refine (members_in S (w.heap.size + 1) (n - 1) (by omega) (fun k W => I k W ∧ W.heap[w.heap.size + 1]? = some (.loop (rec .ready none)) ∧ W.heap[w.heap.size]? = some (.deferred (some []))) ?_ (fun k k' W h q1 q2 => ⟨hIs k k' W h.1 q1 q2, h.2⟩) (fun k W h => hkeep k (row := none) h ⟨rfl, rfl, rfl, Nat.le_refl _, fun _ _ _ => rfl⟩) (fun k W o h => hkeep k (row := none) h (World.grownBy_alloc W o none)) (fun k W h => hIt k W h.1) W1 ⟨hI1, hL1, hK1⟩).mono ?_
    · rintro k x W ⟨hi, hl, hk⟩ hkx hx hS hbet
      have hlt : w.heap.size + 1 < W.heap.size := (Array.getElem?_eq_some_iff.1 hl).1
      have hy := run_yield (P := Tryz.prog) (args := #[.int .i64 (x : Int)]) hl (by rw [hrec]; exact hps.symm)
      rw [hrec] at hy
      refine ⟨fn, _, assign, body, hy, roundIn_of_wpIn hfn (hassign _ x W _ ⟨_, run_beginRound hl (by rw [hrec]), ?_⟩)⟩
      have hl2 : (W.putObj (w.heap.size + 1) (.loop { rec .ready none with state := .busy })).heap[w.heap.size + 1]? = some (.loop { rec .ready none with state := .busy }) := World.putObj_heap_same hlt
      have hk2 : (W.putObj (w.heap.size + 1) (.loop { rec .ready none with state := .busy })).heap[w.heap.size]? = some (.deferred (some [])) := (World.putObj_heap_other (by omega)).trans hk
      refine wpIn_mono (hbody _ k x _ (hI.putObj _ hi (by omega) hl rfl) hkx hx hS hbet) ?_
      rintro e a3 W3 ⟨rfl, hk3, hi3⟩
      have hl3 := hk3.same _ _ (by omega) hl2 rfl
      have hr := run_endRound (P := Tryz.prog) none hl3
      rw [hrec] at hr hl3
      refine ⟨_, _, hr, rfl, hI.putObj _ hi3 (by omega) hl3 rfl, ?_, (World.putObj_heap_other (by omega)).trans (hk3.same _ _ (Nat.le_refl _) hk2 rfl)⟩
      rw [hrec]
      exact World.putObj_heap_same (Array.getElem?_eq_some_iff.1 hl3).1
    · rintro e W2 ⟨⟨v, rfl⟩, hi, hl, hk⟩
      exact ⟨none, _, by have := run_endLoop (P := Tryz.prog) hl (by rw [hrec]; simp); rw [hrec] at this; exact this, hdone _ _ (Nat.le_refl _) (hI.putObj _ hi (by omega) hl rfl) ((World.putObj_heap_other (by omega)).trans hk)⟩
end Go.Proofs.YtkidabedcgngcaaGreatDoor

/-
  Relations between places: matrices of bools in memory.
-/
namespace Go.Proofs.YtkidabedcgngcaaGreatDoor
open Go.ChangeShapes Go.WideShapes Go.ChangeAt Go.RowKit Go.Deep
set_option linter.unusedVariables false
set_option linter.unusedSimpArgs false
set_option maxRecDepth 100000

abbrev slV (r n c : Nat) : Value := .slice (some ⟨r, 0, none⟩) n c
def bsV (N : Nat) (f : Nat → Bool) : List Value := (List.range N).map (fun j => .bool (f j))
theorem bsV_len (N : Nat) (f : Nat → Bool) : (bsV N f).length = N := by simp [bsV]
theorem bsV_get {N : Nat} {f : Nat → Bool} {j : Nat} (h : j < N) : (bsV N f)[j]? = some (.bool (f j)) := by simp [bsV, h]
def upd1 (f : Nat → Bool) (j : Nat) (b : Bool) : Nat → Bool := fun x => if x = j then b else f x
def upd2 (f : Nat → Nat → Bool) (i j : Nat) (b : Bool) : Nat → Nat → Bool := fun x y => if x = i ∧ y = j then b else f x y
theorem bsV_set {N : Nat} {f : Nat → Bool} {j : Nat} {b : Bool} (h : j < N) : (bsV N f).set j (.bool b) = bsV N (upd1 f j b) := by
  apply List.ext_getElem?
  intro i
  rcases Nat.lt_or_ge i N with hi | hi
  · rw [bsV_get hi]
    by_cases e : i = j
    · subst e; rw [List.getElem?_set_self (by rw [bsV_len]; exact hi)]; simp [upd1]
    · rw [List.getElem?_set_ne (fun q => e q.symm), bsV_get hi]; simp [upd1, e]
  · rw [List.getElem?_eq_none (by simp [bsV_len]; exact hi), List.getElem?_eq_none (by simp [bsV_len]; exact hi)]
def BRow (w : World) (base r c N : Nat) (f : Nat → Bool) : Prop := w.ownsRow base 4 1 (slV r N c) N (bsV N f)
def rowsV (N k : Nat) (ρ γ : Nat → Nat) : List Value := (List.range k).map (fun i => slV (ρ i) N (γ i))
def ORow (w : World) (base g cp N k : Nat) (ρ γ : Nat → Nat) : Prop := w.ownsRow base 225 1 (slV g k cp) k (rowsV N k ρ γ)
theorem BRow.lt {w : World} {base r c N : Nat} {f : Nat → Bool} (h : BRow w base r c N f) : base ≤ r ∧ r < w.heap.size := World.ownsRow.lt h r rfl
theorem ORow.lt {w : World} {base g cp N k : Nat} {ρ γ : Nat → Nat} (h : ORow w base g cp N k ρ γ) : base ≤ g ∧ g < w.heap.size := World.ownsRow.lt h g rfl
theorem BRow.chg {S : Nat → Prop} {w w' : World} {base r c N : Nat} {f : Nat → Bool} (h : BRow w base r c N f) (hc : Chg S w w') (hn : ¬ S r) : BRow w' base r c N f := own_chg h hc (fun k hk => by simp [Value.ownBlock] at hk; subst hk; exact hn)
theorem ORow.chg {S : Nat → Prop} {w w' : World} {base g cp N k : Nat} {ρ γ : Nat → Nat} (h : ORow w base g cp N k ρ γ) (hc : Chg S w w') (hn : ¬ S g) : ORow w' base g cp N k ρ γ := own_chg h hc (fun k hk => by simp [Value.ownBlock] at hk; subst hk; exact hn)
theorem BRow.off {w : World} {base r c N base' g cp N' k : Nat} {f : Nat → Bool} {ρ γ : Nat → Nat} (h : BRow w base r c N f) (h' : ORow w base' g cp N' k ρ γ) : r ≠ g := fun q => own_apart h h' (by decide) r rfl (by rw [q]; rfl)
theorem BRow.caps {w : World} {base r c N : Nat} {f : Nat → Bool} (h : BRow w base r c N f) : N ≤ c ∧ c ≤ maxLen := by
  rcases h.2 with ⟨h0, _⟩ | ⟨g', cap', cur, hv, _, _, hn, hcap, _, _⟩
  · cases h0
  · simp only [Value.slice.injEq, Option.some.injEq, Addr.mk.injEq, and_true, true_and] at hv
    obtain ⟨rfl, rfl⟩ := hv
    exact ⟨hn, hcap⟩
theorem ORow.caps {w : World} {base g cp N k : Nat} {ρ γ : Nat → Nat} (h : ORow w base g cp N k ρ γ) : k ≤ cp ∧ cp ≤ maxLen := by
  rcases h.2 with ⟨h0, _⟩ | ⟨g', cap', cur, hv, _, _, hn, hcap, _, _⟩
  · cases h0
  · simp only [Value.slice.injEq, Option.some.injEq, Addr.mk.injEq, and_true, true_and] at hv
    obtain ⟨rfl, rfl⟩ := hv
    exact ⟨hn, hcap⟩
/-- k rows of N bools each. -/
structure MatO (w : World) (base g cp N k : Nat) (ρ γ : Nat → Nat) (f : Nat → Nat → Bool) : Prop where
  out : ORow w base g cp N k ρ γ
  row : ∀ i, i < k → BRow w base (ρ i) (γ i) N (f i)
  inj : ∀ i j, i < k → j < k → i ≠ j → ρ i ≠ ρ j
theorem MatO.chg {S : Nat → Prop} {w w' : World} {base g cp N k : Nat} {ρ γ : Nat → Nat} {f : Nat → Nat → Bool} (h : MatO w base g cp N k ρ γ f) (hc : Chg S w w') (h1 : ¬ S g) (h2 : ∀ i, i < k → ¬ S (ρ i)) : MatO w' base g cp N k ρ γ f :=
  ⟨h.out.chg hc h1, fun i hi => (h.row i hi).chg hc (h2 i hi), h.inj⟩
theorem MatO.below {w w' : World} {base g cp N k : Nat} {ρ γ : Nat → Nat} {f : Nat → Nat → Bool} (h : MatO w base g cp N k ρ γ f) (hb : Below w.heap.size w w') : MatO w' base g cp N k ρ γ f := h.chg (S := fun _ => False) (Chg.of_below hb) (fun q => q) (fun _ _ q => q)
theorem MatO.cell {w : World} {base g cp N k : Nat} {ρ γ : Nat → Nat} {f : Nat → Nat → Bool} (h : MatO w base g cp N k ρ γ f) {i : Nat} (hi : i < k) : w.cell? ⟨g, i, none⟩ = some (slV (ρ i) N (γ i)) := by
  rw [World.ownsRow.cellAt h.out i (by omega)]
  simp [rowsV, hi]
theorem BRow.cell {w : World} {base r c N : Nat} {f : Nat → Bool} (h : BRow w base r c N f) {j : Nat} (hj : j < N) : w.cell? ⟨r, j, none⟩ = some (.bool (f j)) := by
  rw [World.ownsRow.cellAt h j (by omega), bsV_get hj]
theorem BRow.set {w : World} {base r c N : Nat} {f : Nat → Bool} (h : BRow w base r c N f) {j : Nat} (hj : j < N) (b : Bool) : BRow (w.setCell ⟨r, j, none⟩ (.bool b)) base r c N (upd1 f j b) := by
  have := (World.ownsRow.stored h j (.bool b)).1
  rw [bsV_set hj] at this
  exact this
theorem MatO.set {w : World} {base g cp N k : Nat} {ρ γ : Nat → Nat} {f : Nat → Nat → Bool} (h : MatO w base g cp N k ρ γ f) {i j : Nat} (hi : i < k) (hj : j < N) (b : Bool) : MatO (w.setCell ⟨ρ i, j, none⟩ (.bool b)) base g cp N k ρ γ (upd2 f i j b) := by
  have hset : Chg (fun x => x = ρ i) w (w.setCell ⟨ρ i, j, none⟩ (.bool b)) := Chg.of_set _ _ _ _ rfl
  refine ⟨h.out.chg hset (fun q => (h.row i hi).off h.out q.symm), fun x hx => ?_, h.inj⟩
  by_cases e : x = i
  · subst e
    have h9 := (h.row x hx).set hj b
    have e2 : upd1 (f x) j b = upd2 f x j b x := by funext y; simp [upd1, upd2]
    rw [e2] at h9
    exact h9
  · have h9 := (h.row x hx).chg hset (h.inj x i hx hi e)
    have e2 : f x = upd2 f i j b x := by funext y; simp [upd2, e]
    rw [e2] at h9
    exact h9
/-- A matrix that is only read. -/
structure MatR (w : World) (g N : Nat) (ρ γ : Nat → Nat) (f : Nat → Nat → Bool) : Prop where
  lt : g < w.heap.size
  out : ∀ i, i < N → w.cell? ⟨g, i, none⟩ = some (slV (ρ i) N (γ i))
  rlt : ∀ i, i < N → ρ i < w.heap.size
  row : ∀ i j, i < N → j < N → w.cell? ⟨ρ i, j, none⟩ = some (.bool (f i j))
  cap : ∀ i, i < N → N ≤ γ i ∧ γ i ≤ maxLen
theorem MatO.read {w : World} {base g cp N : Nat} {ρ γ : Nat → Nat} {f : Nat → Nat → Bool} (h : MatO w base g cp N N ρ γ f) : MatR w g N ρ γ f :=
  ⟨h.out.lt.2, fun i hi => h.cell hi, fun i hi => (h.row i hi).lt.2, fun i j hi hj => (h.row i hi).cell hj, fun i hi => (h.row i hi).caps⟩
theorem MatR.below {B : Nat} {w w' : World} {g N : Nat} {ρ γ : Nat → Nat} {f : Nat → Nat → Bool} (h : MatR w g N ρ γ f) (hb : Below B w w') (hB : w.heap.size ≤ B) : MatR w' g N ρ γ f :=
  ⟨Nat.lt_of_lt_of_le h.lt hb.size, fun i hi => by rw [hb.cell (p := ⟨g, i, none⟩) (Nat.lt_of_lt_of_le h.lt hB)]; exact h.out i hi, fun i hi => Nat.lt_of_lt_of_le (h.rlt i hi) hb.size, fun i j hi hj => by rw [hb.cell (p := ⟨ρ i, j, none⟩) (Nat.lt_of_lt_of_le (h.rlt i hi) hB)]; exact h.row i j hi hj, h.cap⟩
/-- What a function over relations hands out: rows of its own. -/
def MaP (N : Nat) (f : Nat → Nat → Bool) (w : World) (r : Ending) (w' : World) : Prop := ∃ g cp ρ γ, r = .returned (slV g N cp) ∧ Hid (MatO w' w.heap.size g cp N N ρ γ f) ∧ Below w.heap.size w w'
theorem Tryz.infoBo : (Tryz.prog.info? 4).map (fun i => (i.zero, i.size, i.bytes)) = some (some (.bool false), 1, 1) := by kernel_rfl
theorem Tryz.infoBoS : (Tryz.prog.info? 225).map (fun i => (i.zero, i.size, i.bytes)) = some (some (.slice none 0 0), 1, 24) := by kernel_rfl
/-- One bool appended to a row. -/
theorem wpList_append_bo {ops : Array Oper} {rest : List Oper} {o : Oper} {a : Act} {Q : Exit → Act → World → Prop} (w : World) (hgd : o.guard = none) (s x : Operand)
    (ho : o.op = .call { callee := .builtin .append, args := #[s, x], argTypes := #[225, 225] })
    (base r c k b cx : Nat) (f : Nat → Bool) (v : Bool) (hs : a.eval s = slV r k c) (hx : a.eval x = .slice (some ⟨b, 0, none⟩) 1 cx) (hO : BRow w base r c k f)
    (hc : w.cell? ⟨b, 0, none⟩ = some (.bool v)) (hf : f k = v) (hlen : k ≤ 2 ^ 20) (hbase : base ≤ w.heap.size)
    (h : ∀ r' c' w', BRow w' base r' c' (k + 1) f → w.grownBy w' (some r) → (r' = r ∨ r' = w.heap.size) → wpList Tryz.prog ops Q rest (a.put o.dst (slV r' (k + 1) c')) w') : wpList Tryz.prog ops Q (o :: rest) a w := by
  obtain ⟨i, hi, hz0, hz1, hz2⟩ := info_parts Tryz.infoBo
  refine wpList_append_own_at w hgd s x 225 ho base 4 i _ 1 1 Tryz.underlying225 hi hz0 hz1 hz2 rfl (by decide) (slV r k c) k (bsV k f) hs hO ⟨b, 0, none⟩ 1 cx [.bool v] hx rfl (fun j u hu => ?_) (fun u hu => by simp at hu; subst hu; rfl) ?_ ?_ hbase ?_
  · match j, hu with
    | 0, hu => cases hu; exact hc
  · unfold maxLen; omega
  · omega
  · intro v' w' hO' hgr hnil hat
    rcases hO'.2 with ⟨h0, _⟩ | ⟨g', cap', cur, hv, _, _, hn, hcap, _, _⟩
    · have := (hnil.1 h0).1
      cases this
    · subst hv
      refine h g' cap' w' ?_ hgr ?_
      · have e : bsV k f ++ [.bool v] = bsV (k + 1) f := by simp [bsV, List.range_succ, hf]
        rw [e] at hO'
        exact hO'
      · simp [Value.ownBlock] at hat
        exact hat
/-- One row appended. -/
theorem wpList_append_row {ops : Array Oper} {rest : List Oper} {o : Oper} {a : Act} {Q : Exit → Act → World → Prop} (w : World) (hgd : o.guard = none) (s x : Operand)
    (ho : o.op = .call { callee := .builtin .append, args := #[s, x], argTypes := #[226, 226] })
    (base g cp N k b cx r c : Nat) (ρ γ : Nat → Nat) (hs : a.eval s = slV g k cp) (hx : a.eval x = .slice (some ⟨b, 0, none⟩) 1 cx) (hO : ORow w base g cp N k ρ γ)
    (hc : w.cell? ⟨b, 0, none⟩ = some (slV r N c)) (hr : ρ k = r) (hg : γ k = c) (hlen : k ≤ 2 ^ 20) (hbase : base ≤ w.heap.size)
    (h : ∀ g' cp' w', ORow w' base g' cp' N (k + 1) ρ γ → w.grownBy w' (some g) → (g' = g ∨ g' = w.heap.size) → wpList Tryz.prog ops Q rest (a.put o.dst (slV g' (k + 1) cp')) w') : wpList Tryz.prog ops Q (o :: rest) a w := by
  obtain ⟨i, hi, hz0, hz1, hz2⟩ := info_parts Tryz.infoBoS
  refine wpList_append_own_at w hgd s x 226 ho base 225 i _ 1 24 Tryz.underlying226 hi hz0 hz1 hz2 rfl (by decide) (slV g k cp) k (rowsV N k ρ γ) hs hO ⟨b, 0, none⟩ 1 cx [slV r N c] hx rfl (fun j u hu => ?_) (fun u hu => by simp at hu; subst hu; rfl) ?_ ?_ hbase ?_
  · match j, hu with
    | 0, hu => cases hu; exact hc
  · unfold maxLen; omega
  · omega
  · intro v' w' hO' hgr hnil hat
    rcases hO'.2 with ⟨h0, _⟩ | ⟨g', cap', cur, hv, _, _, hn, hcap, _, _⟩
    · have := (hnil.1 h0).1
      cases this
    · subst hv
      refine h g' cap' w' ?_ hgr ?_
      · have e : rowsV N k ρ γ ++ [slV r N c] = rowsV N (k + 1) ρ γ := by simp [rowsV, List.range_succ, hr, hg]
        rw [e] at hO'
        exact hO'
      · simp [Value.ownBlock] at hat
        exact hat
end Go.Proofs.YtkidabedcgngcaaGreatDoor

