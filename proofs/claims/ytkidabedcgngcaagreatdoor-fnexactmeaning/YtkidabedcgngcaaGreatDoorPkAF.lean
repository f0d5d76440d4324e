import Derived.Lib.Bytealg
import Derived.Lib.Slices
import Derived.Lib.Walk
import Derived.Deep.QuietTactic
import Derived.BigQuiet
import Derived.Deep.DeepCutAuto
import Derived.Deep.RegionWith
import Derived.Test.YtkidabedcgngcaaGreatDoorPkAE
import Derived.Test.YtkidabedcgngcaaGreatDoorPkAA
/-
  Filters as trees, and their code, without memory.
-/
namespace Go.Proofs.YtkidabedcgngcaaGreatDoor
open Go.ChangeShapes Go.WideShapes Go.ChangeAt Go.RowKit Go.Deep
set_option linter.unusedVariables false
set_option linter.unusedSimpArgs false
set_option maxRecDepth 100000

/-- A filter as a tree. -/
inductive CT where
  | leaf (n : Nd)
  | chain (n : Nd) (a b : CT)
  | inter (n : Nd) (a b : CT)
  | cond (n : Nd) (a b c : CT)
def ctV (n : Nd) : List CT → CT
  | [a, b] => if n.kind = 14 then .chain n a b else .inter n a b
  | [a, b, c] => .cond n a b c
  | _ => .leaf n
def TreeF (xs : List Nd) (t : CT) : Prop := TrV ctV [t] xs
/-- What a tree is, by its last node. -/
inductive Part : CT → List Nd → Prop
  | leaf (n : Nd) (h : arity n.kind = 0) : Part (.leaf n) [n]
  | chain (n : Nd) {a b : CT} {ka kb : List Nd} (h : n.kind = 14) (ha : TreeF ka a) (hb : TreeF kb b) : Part (.chain n a b) (ka ++ kb ++ [n])
  | inter (n : Nd) {a b : CT} {ka kb : List Nd} (h : n.kind = 15) (ha : TreeF ka a) (hb : TreeF kb b) : Part (.inter n a b) (ka ++ kb ++ [n])
  | cond (n : Nd) {a b c : CT} {ka kb kc : List Nd} (h : n.kind = 16) (ha : TreeF ka a) (hb : TreeF kb b) (hc : TreeF kc c) : Part (.cond n a b c) (ka ++ kb ++ kc ++ [n])
theorem kidV_one {T : Type} {V : Nd → List T → T} {os : List T} {ks : List (List Nd)} {j : Nat} {o : T} {k : List Nd} (h : KidV V os ks) (ho : os[j]? = some o) (hk : ks[j]? = some k) : TrV V [o] k := by
  obtain ⟨o', h1, h2⟩ := KidV.nth _ h hk
  rw [ho] at h1
  cases h1
  exact h2
theorem TreeF.part {xs : List Nd} {t : CT} (h : TreeF xs t) : Part t xs := by
  obtain ⟨ys, n, os, rfl, hl, hT, rfl⟩ := TrV.inv _ h
  obtain ⟨ks, rfl, hK⟩ := TrV.kids _ hT
  have hkl := hK.length
  by_cases h14 : n.kind = 14
  · have ha : arity n.kind = 2 := by unfold arity; rw [if_pos (.inl h14)]
    rw [ha] at hl
    match os, ks, hl, hkl, hK with
    | [a, b], [ka, kb], _, _, hK =>
      have e1 : ctV n [a, b] = .chain n a b := if_pos h14
      have e2 : [ka, kb].flatten ++ [n] = ka ++ kb ++ [n] := by simp
      rw [e1, e2]
      exact .chain n h14 (kidV_one hK (j := 0) rfl rfl) (kidV_one hK (j := 1) rfl rfl)
  · by_cases h15 : n.kind = 15
    · have ha : arity n.kind = 2 := by unfold arity; rw [if_pos (.inr h15)]
      rw [ha] at hl
      match os, ks, hl, hkl, hK with
      | [a, b], [ka, kb], _, _, hK =>
        have e1 : ctV n [a, b] = .inter n a b := if_neg h14
        have e2 : [ka, kb].flatten ++ [n] = ka ++ kb ++ [n] := by simp
        rw [e1, e2]
        exact .inter n h15 (kidV_one hK (j := 0) rfl rfl) (kidV_one hK (j := 1) rfl rfl)
    · by_cases h16 : n.kind = 16
      · have ha : arity n.kind = 3 := by unfold arity; rw [if_neg (by omega), if_pos h16]
        rw [ha] at hl
        match os, ks, hl, hkl, hK with
        | [a, b, c], [ka, kb, kc], _, _, hK =>
          have e2 : [ka, kb, kc].flatten ++ [n] = ka ++ kb ++ kc ++ [n] := by simp
          rw [e2]
          exact .cond n h16 (kidV_one hK (j := 0) rfl rfl) (kidV_one hK (j := 1) rfl rfl) (kidV_one hK (j := 2) rfl rfl)
      · have ha : arity n.kind = 0 := by unfold arity; rw [if_neg (by omega), if_neg h16]
        have hos : os = [] := List.length_eq_zero_iff.1 (by omega)
        have hks : ks = [] := List.length_eq_zero_iff.1 (by omega)
        subst hos; subst hks
        exact .leaf n ha
theorem treeF_one {xs : List Nd} {t u : CT} (h : TreeF xs t) (k : TreeF xs u) : t = u := by
  have := TrV.one _ h k
  exact (List.cons.inj this).1
theorem treeF_ex {xs : List Nd} (h : IsT 1 xs) : ∃ t, TreeF xs t := by
  obtain ⟨ss, hl, hs⟩ := IsT.trv ctV h
  match ss, hl, hs with
  | [t], _, hs => exact ⟨t, hs⟩

/-- How many ifs. -/
def CT.ifs : CT → Nat
  | .leaf _ => 0
  | .chain _ a b => a.ifs + b.ifs
  | .inter _ a b => a.ifs + b.ifs
  | .cond _ a b c => a.ifs + 1 + b.ifs + c.ifs
def isCnt (k : Int) : Bool := decide (k = 11 ∨ k = 12 ∨ k = 13)
/-- Whether a counter stands in what the cells go through. -/
def CT.passes : CT → Bool
  | .leaf n => isCnt n.kind
  | .chain _ a b => a.passes || b.passes
  | .inter _ a b => a.passes || b.passes
  | .cond _ _ b c => b.passes || c.passes
def opI (op : Int) : Ix := ⟨op, 0, 0, false, zeroN⟩
/-- The code of a tree; targets are distances; 'f' is the number of its first if. -/
def CT.gen : CT → Bool → Nat → List Ix
  | .leaf n, s, _ => [⟨1, 0, 0, !s, n⟩]
  | .chain _ a b, s, f => a.gen s f ++ b.gen (s || a.passes) (f + a.ifs)
  | .inter _ a b, s, f => [opI 2] ++ a.gen s f ++ [opI 3] ++ b.gen s (f + a.ifs) ++ [opI 4]
  | .cond _ a b c, s, f => [⟨5, ((f + a.ifs : Nat) : Int), ((b.gen s (f + a.ifs + 1)).length : Int) + 2, false, zeroN⟩] ++ b.gen s (f + a.ifs + 1) ++ [⟨6, 0, ((c.gen s (f + a.ifs + 1 + b.ifs)).length : Int) + 1, false, zeroN⟩] ++ c.gen s (f + a.ifs + 1 + b.ifs)
def cntI (x : Ix) : Nat := if x.op = 1 ∧ isCnt x.leaf.kind = true then 1 else 0
def fixI (k c : Nat) (x : Ix) : Ix := ⟨x.op, if x.op = 1 ∧ isCnt x.leaf.kind = true then (c : Int) else x.a, if x.op = 5 ∨ x.op = 6 then x.b + (k : Int) else x.b, x.free, x.leaf⟩
/-- Instructions at their places: targets and counters have their numbers. -/
def absG : Nat → Nat → List Ix → List Ix
  | _, _, [] => []
  | k, c, x :: r => fixI k c x :: absG (k + 1) (c + cntI x) r
def cntL : List Ix → Nat
  | [] => 0
  | x :: r => cntI x + cntL r
theorem cntL_append (l m : List Ix) : cntL (l ++ m) = cntL l + cntL m := by
  induction l with
  | nil => simp [cntL]
  | cons x r ih => simp only [List.cons_append, cntL, ih]; omega
theorem absG_length : ∀ (k c : Nat) (l : List Ix), (absG k c l).length = l.length
  | _, _, [] => rfl
  | k, c, x :: r => by simp only [absG, List.length_cons, absG_length]
theorem absG_append : ∀ (k c : Nat) (l m : List Ix), absG k c (l ++ m) = absG k c l ++ absG (k + l.length) (c + cntL l) m
  | k, c, [], m => by simp [absG, cntL]
  | k, c, x :: r, m => by
    simp only [List.cons_append, absG, absG_append (k + 1) (c + cntI x) r m, List.length_cons, cntL]
    rw [show k + 1 + r.length = k + (r.length + 1) by omega, Nat.add_assoc c (cntI x) (cntL r)]
/-- The blocks of the ifs, in order, with distances. -/
def CT.conds : CT → List Ix → Bool → Nat → List (List Ix)
  | .leaf _, _, _, _ => []
  | .chain _ a b, l, s, f => a.conds l s f ++ b.conds (l ++ a.gen s f) (s || a.passes) (f + a.ifs)
  | .inter _ a b, l, s, f => a.conds l s f ++ b.conds l s (f + a.ifs)
  | .cond _ a b c, l, s, f => a.conds l s f ++ [l ++ a.gen s f] ++ b.conds l s (f + a.ifs + 1) ++ c.conds l s (f + a.ifs + 1 + b.ifs)
theorem conds_len (t : CT) : ∀ (l : List Ix) (s : Bool) (f : Nat), (t.conds l s f).length = t.ifs := by
  induction t with
  | leaf n => intro l s f; rfl
  | chain n a b ha hb => intro l s f; simp only [CT.conds, CT.ifs, List.length_append, ha, hb]
  | inter n a b ha hb => intro l s f; simp only [CT.conds, CT.ifs, List.length_append, ha, hb]
  | cond n a b c ha hb hc => intro l s f; simp only [CT.conds, CT.ifs, List.length_append, List.length_singleton, ha, hb, hc]
def CT.size : CT → Nat
  | .leaf _ => 1
  | .chain _ a b => a.size + b.size + 1
  | .inter _ a b => a.size + b.size + 1
  | .cond _ a b c => a.size + b.size + c.size + 1
theorem gen_len (t : CT) : ∀ (s : Bool) (f : Nat), (t.gen s f).length + 2 ≤ 3 * t.size := by
  induction t with
  | leaf n => intro s f; simp [CT.gen, CT.size]
  | chain n a b ha hb => intro s f; have h1 := ha s f; have h2 := hb (s || a.passes) (f + a.ifs); simp only [CT.gen, CT.size, List.length_append]; omega
  | inter n a b ha hb => intro s f; have h1 := ha s f; have h2 := hb s (f + a.ifs); simp only [CT.gen, CT.size, List.length_append, List.length_singleton]; omega
  | cond n a b c ha hb hc => intro s f; have h1 := hb s (f + a.ifs + 1); have h2 := hc s (f + a.ifs + 1 + b.ifs); simp only [CT.gen, CT.size, List.length_append, List.length_singleton]; omega
theorem cntL_gen (t : CT) : ∀ (s : Bool) (f : Nat), cntL (t.gen s f) ≤ t.size := by
  induction t with
  | leaf n => intro s f; simp only [CT.gen, CT.size, cntL, cntI]; split <;> omega
  | chain n a b ha hb => intro s f; have h1 := ha s f; have h2 := hb (s || a.passes) (f + a.ifs); simp only [CT.gen, CT.size, cntL_append]; omega
  | inter n a b ha hb =>
    intro s f
    have h1 := ha s f
    have h2 := hb s (f + a.ifs)
    have e : ∀ o : Int, o ≠ 1 → cntL [opI o] = 0 := fun o ho => by simp [cntL, cntI, opI, ho]
    simp only [CT.gen, CT.size, cntL_append, e 2 (by decide), e 3 (by decide), e 4 (by decide)]; omega
  | cond n a b c ha hb hc =>
    intro s f
    have h1 := hb s (f + a.ifs + 1)
    have h2 := hc s (f + a.ifs + 1 + b.ifs)
    simp only [CT.gen, CT.size, cntL_append]
    simp [cntL, cntI]
    omega
theorem conds_bound (t : CT) : ∀ (l : List Ix) (s : Bool) (f : Nat), ∀ x ∈ t.conds l s f, x.length ≤ l.length + 3 * t.size := by
  induction t with
  | leaf n => intro l s f x hx; simp [CT.conds] at hx
  | chain n a b ha hb =>
    intro l s f x hx
    simp only [CT.conds, List.mem_append] at hx
    have hg := gen_len a s f
    simp only [CT.size]
    rcases hx with hx | hx
    · have := ha _ _ _ x hx; omega
    · have := hb _ _ _ x hx; simp only [List.length_append] at this; omega
  | inter n a b ha hb =>
    intro l s f x hx
    simp only [CT.conds, List.mem_append] at hx
    simp only [CT.size]
    rcases hx with hx | hx
    · have := ha _ _ _ x hx; omega
    · have := hb _ _ _ x hx; omega
  | cond n a b c ha hb hc =>
    intro l s f x hx
    simp only [CT.conds, List.mem_append, List.mem_singleton] at hx
    have hg := gen_len a s f
    simp only [CT.size]
    rcases hx with ((hx | hx) | hx) | hx
    · have := ha _ _ _ x hx; omega
    · subst hx; simp only [List.length_append]; omega
    · have := hb _ _ _ x hx; omega
    · have := hc _ _ _ x hx; omega
theorem part_size (n : Nat) : ∀ {t : CT} {xs : List Nd}, xs.length ≤ n → TreeF xs t → t.size = xs.length := by
  induction n with
  | zero => intro t xs hl h; have := h.part; cases this <;> simp at hl
  | succ n ih =>
    intro t xs hl h
    cases h.part with
    | leaf n h => rfl
    | chain n h ha hb => simp only [List.length_append, List.length_singleton] at hl ⊢; simp only [CT.size, ih (by omega) ha, ih (by omega) hb]
    | inter n h ha hb => simp only [List.length_append, List.length_singleton] at hl ⊢; simp only [CT.size, ih (by omega) ha, ih (by omega) hb]
    | cond n h ha hb hc => simp only [List.length_append, List.length_singleton] at hl ⊢; simp only [CT.size, ih (by omega) ha, ih (by omega) hb, ih (by omega) hc]
theorem TreeF.size {xs : List Nd} {t : CT} (h : TreeF xs t) : t.size = xs.length := part_size _ (Nat.le_refl _) h
def ifsL (xs : List Nd) : Nat := (xs.filter (fun e => decide (e.kind = 16))).length
theorem part_ifs (n : Nat) : ∀ {t : CT} {xs : List Nd}, xs.length ≤ n → TreeF xs t → ifsL xs = t.ifs := by
  have hadd : ∀ a b : List Nd, ifsL (a ++ b) = ifsL a + ifsL b := fun a b => by simp [ifsL]
  have hone : ∀ e : Nd, ¬ e.kind = 16 → ifsL [e] = 0 := fun e he => by simp [ifsL, he]
  have htwo : ∀ e : Nd, e.kind = 16 → ifsL [e] = 1 := fun e he => by simp [ifsL, he]
  induction n with
  | zero => intro t xs hl h; have := h.part; cases this <;> simp at hl
  | succ n ih =>
    intro t xs hl h
    cases h.part with
    | leaf n hk => exact hone n (fun q => by rw [q] at hk; simp [arity] at hk)
    | chain n hk ha hb => simp only [List.length_append, List.length_singleton] at hl; rw [hadd, hadd, hone n (by omega), ih (by omega) ha, ih (by omega) hb]; rfl
    | inter n hk ha hb => simp only [List.length_append, List.length_singleton] at hl; rw [hadd, hadd, hone n (by omega), ih (by omega) ha, ih (by omega) hb]; rfl
    | cond n hk ha hb hc => simp only [List.length_append, List.length_singleton] at hl; rw [hadd, hadd, hadd, htwo n hk, ih (by omega) ha, ih (by omega) hb, ih (by omega) hc]; simp only [CT.ifs]; omega
theorem TreeF.ifs {xs : List Nd} {t : CT} (h : TreeF xs t) : ifsL xs = t.ifs := part_ifs _ (Nat.le_refl _) h
end Go.Proofs.YtkidabedcgngcaaGreatDoor

/-
  The order of keys: spec.CompareKeys and impl.CompareKeys come to one Lean function.
-/
namespace Go.Proofs.YtkidabedcgngcaaGreatDoor
open Go.ChangeShapes Go.WideShapes Go.ChangeAt Go.RowKit Go.Deep

/-- Two strings against each other. -/
def cB (a b : ByteArray) : Int := Lib.compareBytes a.data.toList b.data.toList

theorem compareBytes_less : ∀ a b : List UInt8, Op.bytesLess a b = true → Lib.compareBytes a b = -1
  | [], [] => by simp [Op.bytesLess]
  | [], _ :: _ => by simp [Lib.compareBytes]
  | _ :: _, [] => by simp [Op.bytesLess]
  | a :: x, b :: y => by
    intro h
    simp only [Op.bytesLess, Bool.or_eq_true, decide_eq_true_eq, Bool.and_eq_true, beq_iff_eq] at h
    unfold Lib.compareBytes
    rcases h with h | ⟨rfl, h⟩
    · rw [if_pos h]
    · have hn : ¬ a < a := by simp
      rw [if_neg hn, if_neg hn]; exact compareBytes_less x y h
theorem compareBytes_self : ∀ a : List UInt8, Lib.compareBytes a a = 0
  | [] => rfl
  | a :: x => by
    unfold Lib.compareBytes
    have hn : ¬ a < a := by simp
    rw [if_neg hn, if_neg hn]; exact compareBytes_self x
theorem compareBytes_more : ∀ a b : List UInt8, Op.bytesLess a b = false → (a == b) = false → Lib.compareBytes a b = 1
  | [], [] => by simp
  | [], _ :: _ => by simp [Op.bytesLess]
  | _ :: _, [] => by simp [Lib.compareBytes]
  | a :: x, b :: y => by
    intro h h2
    simp only [Op.bytesLess, Bool.or_eq_false_iff, decide_eq_false_iff_not] at h
    unfold Lib.compareBytes
    rw [if_neg h.1]
    by_cases hb : b < a
    · rw [if_pos hb]
    · rw [if_neg hb]
      have hab : a = b := by
        have h1 := h.1
        rw [UInt8.lt_iff_toNat_lt] at h1 hb
        exact UInt8.toNat_inj.1 (by omega)
      subst hab
      refine compareBytes_more x y ?_ ?_
      · simpa using h.2
      · simpa using h2
theorem compareBytes_vals (a b : List UInt8) : Lib.compareBytes a b = -1 ∨ Lib.compareBytes a b = 0 ∨ Lib.compareBytes a b = 1 := by
  cases h : Op.bytesLess a b
  · cases h2 : (a == b)
    · exact .inr (.inr (compareBytes_more a b h h2))
    · rw [beq_iff_eq] at h2; subst h2; exact .inr (.inl (compareBytes_self a))
  · exact .inl (compareBytes_less a b h)
theorem cB_vals (a b : ByteArray) : cB a b = -1 ∨ cB a b = 0 ∨ cB a b = 1 := compareBytes_vals _ _
theorem cB_less {a b : ByteArray} (h : Op.bytesLess a.toList b.toList = true) : cB a b = -1 := by
  rw [ByteArray.toList_eq, ByteArray.toList_eq] at h; exact compareBytes_less _ _ h
theorem cB_more {a b : ByteArray} (h : Op.bytesLess a.toList b.toList = false) (h2 : (a.toList == b.toList) = false) : cB a b = 1 := by
  rw [ByteArray.toList_eq, ByteArray.toList_eq] at h h2; exact compareBytes_more _ _ h h2
theorem cB_same {a b : ByteArray} (h2 : (a.toList == b.toList) = true) : cB a b = 0 := by
  rw [ByteArray.toList_eq, ByteArray.toList_eq, beq_iff_eq] at h2; unfold cB; rw [h2]; exact compareBytes_self _

def firstOf (a b : Int) : Int := if a = 0 then b else a
def kindCmp (k l : Int) : Int := if k = 2 then (if l = 2 then 0 else -1) else (if l = 2 then 1 else 0)
def tsCmp (t u : Int) : Int := if u < t then -1 else if t < u then 1 else 0
/-- The order of keys. -/
def keyCmp (a b : Ent) : Int := firstOf (cB a.row b.row) (firstOf (cB a.fam b.fam) (firstOf (cB a.qual b.qual) (firstOf (kindCmp a.kind b.kind) (tsCmp a.ts b.ts))))

theorem ret_int {k : IntKind} {a b : Int} (h : a = b) : Ending.returned (.int k a) = .returned (.int k b) := by rw [h]

set_option maxHeartbeats 400000 in
theorem l1Str_any (a b : ByteArray) (w : World) :
    Calls Tryz.prog 123 #[.string a, .string b] w fun e w' => e = .returned (.int .i64 (cB a b)) ∧ w' = w := by
  cases h : Op.bytesLess a.toList b.toList
  · cases h2 : (a.toList == b.toList)
    · have H : Hid (cB a b = 1) := cB_more h h2
      go_enter Tryz.func123, Tryz.ntmps123
      go_wp2
      go_ret
      exact ⟨ret_int H.out.symm, rfl⟩
    · have H : Hid (cB a b = 0) := cB_same h2
      go_enter Tryz.func123, Tryz.ntmps123
      go_wp2
      go_ret
      exact ⟨ret_int H.out.symm, rfl⟩
  · have H : Hid (cB a b = -1) := cB_less h
    go_enter Tryz.func123, Tryz.ntmps123
    go_wp2
    go_ret
    exact ⟨ret_int H.out.symm, rfl⟩

set_option maxHeartbeats 400000 in
theorem l1First_any (a b : Int) (w : World) :
    Calls Tryz.prog 122 #[.int .i64 a, .int .i64 b] w fun e w' => e = .returned (.int .i64 (firstOf a b)) ∧ w' = w := by
  unfold firstOf
  by_cases h : a = 0
  · have h' : (a != 0) = false := by simp [h]
    rw [if_pos h]
    clear h
    go_enter Tryz.func122, Tryz.ntmps122
    go_wp2
    go_ret
    exact ⟨rfl, rfl⟩
  · have h' : (a != 0) = true := by simp [h]
    rw [if_neg h]
    clear h
    go_enter Tryz.func122, Tryz.ntmps122
    go_wp2
    go_ret
    exact ⟨rfl, rfl⟩

set_option maxHeartbeats 1000000 in
set_option maxRecDepth 100000 in
theorem compareString_any (a b : ByteArray) (w : World) :
    Calls Tryz.prog 164 #[.string a, .string b] w fun e w' => e = .returned (.int .i64 (cB a b)) ∧ w' = w := by
  go_enter Tryz.func164, Tryz.ntmps164
  go_wp2
  rw [run_callFunc_extern Tryz.func172 (by kernel_rfl) (by kernel_rfl) (by kernel_rfl) (e := Extern.BytealgCompare.compare) (by kernel_rfl), Lib.run_compareString]
  simp only [Result.andThen]
  rw [Oper.upon_value]
  go_wp2
  go_ret
  exact ⟨rfl, rfl⟩

set_option maxHeartbeats 400000 in
theorem stringsCompare_any (a b : ByteArray) (w : World) :
    Calls Tryz.prog 150 #[.string a, .string b] w fun e w' => e = .returned (.int .i64 (cB a b)) ∧ w' = w := by
  go_enter Tryz.func150, Tryz.ntmps150
  go_wp2_with (go_at_call 164; refine (compareString_any _ _ _).mono ?_; rintro e w' ⟨rfl, rfl⟩)
  go_ret
  exact ⟨rfl, rfl⟩

set_option maxHeartbeats 400000 in
theorem cmpU64_any (a b : Int) (w : World) :
    Calls Tryz.prog 130 #[.int .u64 a, .int .u64 b] w fun e w' => e = .returned (.int .i64 (tsCmp b a)) ∧ w' = w := by
  unfold tsCmp
  by_cases h : a < b
  · rw [if_pos h]
    go_enter Tryz.func130, Tryz.ntmps130
    go_wp2
    go_ret
    exact ⟨rfl, rfl⟩
  · rw [if_neg h]
    by_cases h2 : b < a
    · rw [if_pos h2]
      go_enter Tryz.func130, Tryz.ntmps130
      go_wp2
      go_ret
      exact ⟨rfl, rfl⟩
    · rw [if_neg h2]
      go_enter Tryz.func130, Tryz.ntmps130
      go_wp2
      go_ret
      exact ⟨rfl, rfl⟩
end Go.Proofs.YtkidabedcgngcaaGreatDoor

/-
  The order of keys: spec.CompareKeys and impl.CompareKeys come to 'keyCmp'.
-/
namespace Go.Proofs.YtkidabedcgngcaaGreatDoor
open Go.ChangeShapes Go.WideShapes Go.ChangeAt Go.RowKit Go.Deep

def tri (x : Int) : Prop := x = -1 ∨ x = 0 ∨ x = 1
theorem tri_first {a b : Int} (h : tri a) (k : tri b) : tri (firstOf a b) := by
  unfold firstOf; split
  · exact k
  · exact h
theorem tri_kind (k l : Int) : tri (kindCmp k l) := by
  unfold kindCmp tri; repeat' split
  all_goals omega
theorem tri_ts (k l : Int) : tri (tsCmp k l) := by
  unfold tsCmp tri; repeat' split
  all_goals omega
theorem keyCmp_vals (a b : Ent) : keyCmp a b = -1 ∨ keyCmp a b = 0 ∨ keyCmp a b = 1 :=
  tri_first (cB_vals _ _) (tri_first (cB_vals _ _) (tri_first (cB_vals _ _) (tri_first (tri_kind _ _) (tri_ts _ _))))

def colCmp (a b : Ent) : Int := firstOf (cB a.row b.row) (firstOf (cB a.fam b.fam) (cB a.qual b.qual))

set_option maxHeartbeats 400000 in
theorem compareColumns_any (a b : Ent) (w : World) :
    Calls Tryz.prog 129 #[a.v, b.v] w fun e w' => e = .returned (.int .i64 (colCmp a b)) ∧ Below w.heap.size w w' := by
  unfold colCmp firstOf Ent.v
  by_cases h1 : cB a.row b.row = 0
  · have g1 : (cB a.row b.row != 0) = false := by simp [h1]
    rw [if_pos h1]
    clear h1
    by_cases h2 : cB a.fam b.fam = 0
    · have g2 : (cB a.fam b.fam != 0) = false := by simp [h2]
      rw [if_pos h2]
      clear h2
      go_enter Tryz.func129, Tryz.ntmps129
      go_wp2_with (go_at_call 150; refine (stringsCompare_any _ _ _).mono ?_; rintro e w' ⟨rfl, rfl⟩)
      go_ret
      exact ⟨rfl, ((Below.refl _ _).alloc (Nat.le_refl _) _).alloc (by simp) _⟩
    · have g2 : (cB a.fam b.fam != 0) = true := by simp [h2]
      rw [if_neg h2]
      clear h2
      go_enter Tryz.func129, Tryz.ntmps129
      go_wp2_with (go_at_call 150; refine (stringsCompare_any _ _ _).mono ?_; rintro e w' ⟨rfl, rfl⟩)
      go_ret
      exact ⟨rfl, ((Below.refl _ _).alloc (Nat.le_refl _) _).alloc (by simp) _⟩
  · have g1 : (cB a.row b.row != 0) = true := by simp [h1]
    rw [if_neg h1]
    clear h1
    go_enter Tryz.func129, Tryz.ntmps129
    go_wp2_with (go_at_call 150; refine (stringsCompare_any _ _ _).mono ?_; rintro e w' ⟨rfl, rfl⟩)
    go_ret
    exact ⟨rfl, ((Below.refl _ _).alloc (Nat.le_refl _) _).alloc (by simp) _⟩

theorem firstOf_assoc (a b c : Int) : firstOf (firstOf a b) c = firstOf a (firstOf b c) := by
  unfold firstOf
  by_cases h : a = 0
  · simp [h]
  · simp [h]
theorem keyCmp_col (a b : Ent) : keyCmp a b = firstOf (colCmp a b) (firstOf (kindCmp a.kind b.kind) (tsCmp a.ts b.ts)) := by
  unfold keyCmp colCmp
  rw [firstOf_assoc, firstOf_assoc]
theorem keyCmp_ne {a b : Ent} (h : ¬ colCmp a b = 0) : keyCmp a b = colCmp a b := by
  rw [keyCmp_col]; unfold firstOf; rw [if_neg h]
theorem keyCmp_del1 {a b : Ent} (h : colCmp a b = 0) (h1 : a.kind = 2) (h2 : ¬ b.kind = 2) : keyCmp a b = -1 := by
  rw [keyCmp_col]; unfold firstOf kindCmp; simp [h, h1, h2]
theorem keyCmp_del2 {a b : Ent} (h : colCmp a b = 0) (h1 : ¬ a.kind = 2) (h2 : b.kind = 2) : keyCmp a b = 1 := by
  rw [keyCmp_col]; unfold firstOf kindCmp; simp [h, h1, h2]
theorem keyCmp_ts {a b : Ent} (h : colCmp a b = 0) (h1 : (a.kind = 2) ↔ (b.kind = 2)) : keyCmp a b = tsCmp a.ts b.ts := by
  rw [keyCmp_col]; unfold firstOf kindCmp
  by_cases h2 : a.kind = 2
  · simp [h, h2, h1.1 h2]
  · have h3 : ¬ b.kind = 2 := fun x => h2 (h1.2 x)
    simp [h, h2, h3]

set_option maxHeartbeats 400000 in
theorem compare_any (a b : Ent) (w : World) :
    Calls Tryz.prog 101 #[a.v, b.v] w fun e w' => e = .returned (.int .i64 (keyCmp a b)) ∧ Below w.heap.size w w' := by
  by_cases h1 : colCmp a b = 0
  · have g1 : (colCmp a b != 0) = false := by simp [h1]
    by_cases ha : a.kind = 2
    · have ga : (a.kind == 2) = true := by simp [ha]
      by_cases hb : b.kind = 2
      · have gb : (b.kind == 2) = true := by simp [hb]
        have H : Hid (keyCmp a b = tsCmp a.ts b.ts) := keyCmp_ts h1 (by simp [ha, hb])
        clear h1 ha hb
        go_enter Tryz.func101, Tryz.ntmps101
        go_wp2_with fail
        refine (compareColumns_any a b _).mono ?_
        rintro e w1 ⟨rfl, hb1⟩
        obtain ⟨hc1, hf1⟩ := bcell hb1
        have hz1 : w.heap.size + 1 < w1.heap.size := by have := hb1.size; simp at this; omega
        go_wp2_with fail
        refine (cmpU64_any _ _ _).mono ?_
        rintro e w2 ⟨rfl, rfl⟩
        go_wp2_with fail
        go_ret
        exact ⟨ret_int H.out.symm, (((Below.refl _ _).alloc (Nat.le_refl _) _).alloc (by simp) _).trans (hb1.mono (by simp; omega))⟩
      · have gb : (b.kind == 2) = false := by simp [hb]
        have H : Hid (keyCmp a b = -1) := keyCmp_del1 h1 ha hb
        clear h1 ha hb
        go_enter Tryz.func101, Tryz.ntmps101
        go_wp2_with fail
        refine (compareColumns_any a b _).mono ?_
        rintro e w1 ⟨rfl, hb1⟩
        obtain ⟨hc1, hf1⟩ := bcell hb1
        have hz1 : w.heap.size + 1 < w1.heap.size := by have := hb1.size; simp at this; omega
        go_wp2_with fail
        go_ret
        exact ⟨ret_int H.out.symm, (((Below.refl _ _).alloc (Nat.le_refl _) _).alloc (by simp) _).trans (hb1.mono (by simp; omega))⟩
    · have ga : (a.kind == 2) = false := by simp [ha]
      by_cases hb : b.kind = 2
      · have gb : (b.kind == 2) = true := by simp [hb]
        have H : Hid (keyCmp a b = 1) := keyCmp_del2 h1 ha hb
        clear h1 ha hb
        go_enter Tryz.func101, Tryz.ntmps101
        go_wp2_with fail
        refine (compareColumns_any a b _).mono ?_
        rintro e w1 ⟨rfl, hb1⟩
        obtain ⟨hc1, hf1⟩ := bcell hb1
        have hz1 : w.heap.size + 1 < w1.heap.size := by have := hb1.size; simp at this; omega
        go_wp2_with fail
        go_ret
        exact ⟨ret_int H.out.symm, (((Below.refl _ _).alloc (Nat.le_refl _) _).alloc (by simp) _).trans (hb1.mono (by simp; omega))⟩
      · have gb : (b.kind == 2) = false := by simp [hb]
        have H : Hid (keyCmp a b = tsCmp a.ts b.ts) := keyCmp_ts h1 (by simp [ha, hb])
        clear h1 ha hb
        go_enter Tryz.func101, Tryz.ntmps101
        go_wp2_with fail
        refine (compareColumns_any a b _).mono ?_
        rintro e w1 ⟨rfl, hb1⟩
        obtain ⟨hc1, hf1⟩ := bcell hb1
        have hz1 : w.heap.size + 1 < w1.heap.size := by have := hb1.size; simp at this; omega
        go_wp2_with fail
        refine (cmpU64_any _ _ _).mono ?_
        rintro e w2 ⟨rfl, rfl⟩
        go_wp2_with fail
        go_ret
        exact ⟨ret_int H.out.symm, (((Below.refl _ _).alloc (Nat.le_refl _) _).alloc (by simp) _).trans (hb1.mono (by simp; omega))⟩
  · have g1 : (colCmp a b != 0) = true := by simp [h1]
    have H : Hid (keyCmp a b = colCmp a b) := keyCmp_ne h1
    clear h1
    go_enter Tryz.func101, Tryz.ntmps101
    go_wp2_with fail
    refine (compareColumns_any a b _).mono ?_
    rintro e w1 ⟨rfl, hb1⟩
    go_wp2_with fail
    go_ret
    exact ⟨ret_int H.out.symm, (((Below.refl _ _).alloc (Nat.le_refl _) _).alloc (by simp) _).trans (hb1.mono (by simp; omega))⟩

def kt (a b : Ent) (K T : Int) : Prop := keyCmp a b = firstOf (cB a.row b.row) (firstOf (cB a.fam b.fam) (firstOf (cB a.qual b.qual) (firstOf K T)))
theorem kt_of {a b : Ent} {K T : Int} (hk : kindCmp a.kind b.kind = K) (ht : tsCmp a.ts b.ts = T) : kt a b K T := by
  unfold kt keyCmp; rw [hk, ht]
theorem kinds (a b : Ent) :
    ((a.kind == 2) = true ∧ (a.kind != 2) = false ∧ (b.kind == 2) = true ∧ (b.kind != 2) = false ∧ kindCmp a.kind b.kind = 0) ∨
    ((a.kind == 2) = true ∧ (a.kind != 2) = false ∧ (b.kind == 2) = false ∧ (b.kind != 2) = true ∧ kindCmp a.kind b.kind = -1) ∨
    ((a.kind == 2) = false ∧ (a.kind != 2) = true ∧ (b.kind == 2) = true ∧ (b.kind != 2) = false ∧ kindCmp a.kind b.kind = 1) ∨
    ((a.kind == 2) = false ∧ (a.kind != 2) = true ∧ (b.kind == 2) = false ∧ (b.kind != 2) = true ∧ kindCmp a.kind b.kind = 0) := by
  unfold kindCmp
  by_cases ha : a.kind = 2 <;> by_cases hb : b.kind = 2 <;> simp [ha, hb]
theorem tss (a b : Ent) :
    (b.ts < a.ts ∧ ¬ a.ts < b.ts ∧ tsCmp a.ts b.ts = -1) ∨ (¬ b.ts < a.ts ∧ a.ts < b.ts ∧ tsCmp a.ts b.ts = 1) ∨ (¬ b.ts < a.ts ∧ ¬ a.ts < b.ts ∧ tsCmp a.ts b.ts = 0) := by
  unfold tsCmp
  by_cases h1 : b.ts < a.ts
  · exact .inl ⟨h1, by omega, by simp [h1]⟩
  · by_cases h2 : a.ts < b.ts
    · exact .inr (.inl ⟨h1, h2, by simp [h1, h2]⟩)
    · exact .inr (.inr ⟨h1, h2, by simp [h1, h2]⟩)

set_option maxHeartbeats 4000000 in
theorem specCompareKeys_any (a b : Ent) (w : World) :
    Calls Tryz.prog 94 #[a.v, b.v] w fun e w' => e = .returned (.int .i64 (keyCmp a b)) ∧ Below w.heap.size w w' := by
  unfold Ent.v
  rcases kinds a b with ⟨ga, ga', gb, gb', hk⟩ | ⟨ga, ga', gb, gb', hk⟩ | ⟨ga, ga', gb, gb', hk⟩ | ⟨ga, ga', gb, gb', hk⟩
  all_goals rcases tss a b with ⟨h1, h2, ht⟩ | ⟨h1, h2, ht⟩ | ⟨h1, h2, ht⟩
  all_goals
    have H := kt_of hk ht
    clear hk ht
    go_enter Tryz.func94, Tryz.ntmps94
    go_wp2
    go_quiet ((first | (go_at_call 123; exact Calls.quiet_of_same (l1Str_any _ _ _)) | (go_at_call 122; exact Calls.quiet_of_same (l1First_any _ _ _))))
    go_wp2
    go_ret
    exact ⟨ret_int H.symm, below_drewN (((Below.refl _ _).alloc (Nat.le_refl _) _).alloc (by simp) _) _⟩
end Go.Proofs.YtkidabedcgngcaaGreatDoor

/-
  Runs that are valid: spec.ValidRun and impl.ValidRun.
-/
namespace Go.Proofs.YtkidabedcgngcaaGreatDoor
open Go.ChangeShapes Go.WideShapes Go.ChangeAt Go.RowKit Go.Deep
set_option linter.unusedVariables false

def Ent.vld (e : Ent) : Bool := vE e.row e.fam e.qual e.kind e.val
/-- One column? -/
def sameCol (a b : Ent) : Bool := (a.row.toList == b.row.toList) && ((a.fam.toList == b.fam.toList) && (a.qual.toList == b.qual.toList))

set_option maxHeartbeats 400000 in
theorem sameColumn_any (a b : Ent) (w : World) :
    Calls Tryz.prog 95 #[a.v, b.v] w fun e w' => e = .returned (.bool (sameCol a b)) ∧ Below w.heap.size w w' := by
  unfold sameCol Ent.v
  cases h1 : (a.row.toList == b.row.toList)
  · go_enter Tryz.func95, Tryz.ntmps95
    go_wp2
    go_ret
    exact ⟨by simp, ((Below.refl _ _).alloc (Nat.le_refl _) _).alloc (by simp) _⟩
  · cases h2 : (a.fam.toList == b.fam.toList)
    · go_enter Tryz.func95, Tryz.ntmps95
      go_wp2
      go_ret
      exact ⟨by simp, ((Below.refl _ _).alloc (Nat.le_refl _) _).alloc (by simp) _⟩
    · go_enter Tryz.func95, Tryz.ntmps95
      go_wp2
      go_ret
      exact ⟨by simp, ((Below.refl _ _).alloc (Nat.le_refl _) _).alloc (by simp) _⟩

theorem lift_in {P : Program} {f : Nat} {args : Array Value} {w : World} {v : Value} (W0 : World) (h : Below W0.heap.size W0 w) (c : Calls P f args w fun e w' => e = .returned v ∧ Below w.heap.size w w') :
    Calls P f args w fun e w' => e = .returned v ∧ Below W0.heap.size W0 w' ∧ (∀ b o, b < W0.heap.size → w'.cell? ⟨b, o, none⟩ = W0.cell? ⟨b, o, none⟩) := by
  refine c.mono ?_
  rintro e w' ⟨he, hb⟩
  have k := h.trans (hb.mono h.size)
  exact ⟨he, k, fun b o hlt => k.cell (p := ⟨b, o, none⟩) hlt⟩

/-- May 'p' stand right before 'e' in a run? -/
def okPair (p e : Ent) : Bool := (keyCmp p e == -1) && !((p.kind == 2) && ((e.kind == 2) && sameCol p e))

end Go.Proofs.YtkidabedcgngcaaGreatDoor

/-
  Runs that are valid: the loops of spec.ValidRun, impl.validWrites, impl.ValidRun.
-/
namespace Go.Proofs.YtkidabedcgngcaaGreatDoor
open Go.ChangeShapes Go.WideShapes Go.ChangeAt Go.RowKit Go.Deep
set_option linter.unusedVariables false

/-- All of them are valid, and not too many. -/
def GoodW (es : List Ent) : Prop := es.length ≤ 10000 ∧ ∀ e ∈ es, e.vld = true
/-- Each may stand right before the next. -/
def Pairs (es : List Ent) : Prop := ∀ i p e, es[i]? = some p → es[i + 1]? = some e → okPair p e = true
def GoodR (es : List Ent) : Prop := GoodW es ∧ Pairs es

theorem iffF {p : Prop} (h : ¬ p) : (false = true ↔ p) := ⟨fun x => Bool.noConfusion x, fun x => absurd x h⟩
theorem iffT {p : Prop} (h : p) : (true = true ↔ p) := ⟨fun _ => h, fun _ => rfl⟩
theorem vld_of_take {es : List Ent} {k : Nat} {e : Ent} (h : ∀ x ∈ es.take k, x.vld = true) (he : es[k]? = some e) (hv : e.vld = true) : ∀ x ∈ es.take (k + 1), x.vld = true := by
  intro x hx
  rw [List.take_add_one, he] at hx
  simp at hx
  rcases hx with hx | rfl
  · exact h x hx
  · exact hv

theorem pairs_short {es : List Ent} (h : es.length ≤ 1) : Pairs es := by
  intro i p e h1 h2
  have := (List.getElem?_eq_some_iff.1 h2).1
  omega

/-- The pairs below place 'k'. -/
def PairsTo (es : List Ent) (k : Nat) : Prop := ∀ i p e, i + 1 < k → es[i]? = some p → es[i + 1]? = some e → okPair p e = true
theorem pairsTo_succ {es : List Ent} {m : Nat} {p e : Ent} (h : PairsTo es (m + 1)) (hp : es[m]? = some p) (he : es[m + 1]? = some e) (ho : okPair p e = true) : PairsTo es (m + 1 + 1) := by
  intro i p' e' hi h1 h2
  by_cases hm : i = m
  · subst hm
    rw [hp] at h1; rw [he] at h2
    simp at h1 h2
    subst h1 h2
    exact ho
  · exact h i p' e' (by omega) h1 h2
theorem pairs_of_to {es : List Ent} {k : Nat} (h : PairsTo es k) (hk : es.length ≤ k) : Pairs es := by
  intro i p e h1 h2
  have := (List.getElem?_eq_some_iff.1 h2).1
  exact h i p e (by omega) h1 h2

end Go.Proofs.YtkidabedcgngcaaGreatDoor

/-
  spec.l1Into: an entry laid into an ordered list.
-/
namespace Go.Proofs.YtkidabedcgngcaaGreatDoor
open Go.ChangeShapes Go.WideShapes Go.ChangeAt Go.RowKit Go.Deep
set_option linter.unusedVariables false

/-- One entry appended to a row of the call's own. -/
theorem wpList_append_ent {ops : Array Oper} {rest : List Oper} {o : Oper} {a : Act} {Q : Exit → Act → World → Prop} (w : World) (hgd : o.guard = none) (s x : Operand)
    (ho : o.op = .call { callee := .builtin .append, args := #[s, x], argTypes := #[88, 88] })
    (base g cp n blk : Nat) (fs : List Ent) (e : Ent) (hs : a.eval s = .slice (some ⟨g, 0, none⟩) n cp) (hx : a.eval x = .slice (some ⟨blk, 0, none⟩) 1 1) (hn : n = fs.length) (hO : OwnE w base g cp fs)
    (hc : EntsAt w blk 0 [e]) (hlen : fs.length ≤ 2 ^ 30) (hbase : base ≤ w.heap.size)
    (h : ∀ g' cp' w', OwnE w' base g' cp' (fs ++ [e]) → w.grownBy w' (some g) → wpList Tryz.prog ops Q rest (a.put o.dst (.slice (some ⟨g', 0, none⟩) (n + 1) cp')) w') : wpList Tryz.prog ops Q (o :: rest) a w := by
  obtain ⟨i, hi, hz0, hz1, hz2⟩ := info_parts Tryz.infoEnt
  subst hn
  obtain ⟨c0, c1, c2, c3, c4, c5⟩ := hc 0 e rfl
  refine wpList_append_own w hgd s x 88 ho base 102 i _ 6 80 Tryz.underlying88 hi hz0 hz1 hz2 rfl (by decide) (.slice (some ⟨g, 0, none⟩) fs.length cp) fs.length (cellsE fs) hs hO ⟨blk, 0, none⟩ 1 1 (cellsE [e]) hx rfl ?_ ?_ ?_ ?_ hbase ?_
  · intro j u hu
    have hj : j < 6 := by
      have := (List.getElem?_eq_some_iff.1 hu).1
      rw [length_cellsE] at this
      simpa using this
    rw [Addr.add_mid, Nat.zero_add]
    simp only [Nat.zero_mul, Nat.zero_add] at c0 c1 c2 c3 c4 c5
    match j, hj, hu with
    | 0, _, hu => simp [cellsE] at hu; rw [← hu]; exact c0
    | 1, _, hu => simp [cellsE] at hu; rw [← hu]; exact c1
    | 2, _, hu => simp [cellsE] at hu; rw [← hu]; exact c2
    | 3, _, hu => simp [cellsE] at hu; rw [← hu]; exact c3
    | 4, _, hu => simp [cellsE] at hu; rw [← hu]; exact c4
    | 5, _, hu => simp [cellsE] at hu; rw [← hu]; exact c5
  · intro u hu
    simp [cellsE] at hu
    rcases hu with rfl | rfl | rfl | rfl | rfl | rfl <;> rfl
  · unfold maxLen; omega
  · omega
  · intro v' w' hown hgr hnil
    rw [← cellsE_append] at hown
    have hlen' : (fs ++ [e]).length = fs.length + 1 := by simp
    rcases hown.2 with ⟨hv, _⟩ | ⟨g', cap', cur, hv, h1, h2, h3⟩
    · have := (hnil.1 hv).1
      simp at this
    · subst hv
      exact h g' cap' w' (by unfold OwnE; rw [hlen']; exact hown) hgr

/-- An entry laid into an ordered list, in the place of one with the same key. -/
def intoG (e : Ent) : List Ent → Bool → List Ent
  | [], done => if done then [] else [e]
  | x :: r, done =>
    if keyCmp x e = -1 then x :: intoG e r done
    else if keyCmp x e = 0 then (if done then intoG e r true else e :: intoG e r true)
    else (if done then x :: intoG e r true else e :: x :: intoG e r true)
def into (L : List Ent) (e : Ent) : List Ent := intoG e L false

theorem length_intoG (e : Ent) : ∀ (L : List Ent) (d : Bool), (intoG e L d).length ≤ L.length + 1
  | [], d => by unfold intoG; split <;> simp
  | x :: r, d => by
    have h1 := length_intoG e r d
    have h2 := length_intoG e r true
    have h3 : ∀ (L : List Ent), (intoG e L true).length ≤ L.length := by
      intro L
      induction L with
      | nil => simp [intoG]
      | cons y s ih =>
        unfold intoG
        split
        · simp; omega
        · split
          · simp; omega
          · simp; omega
    have h4 := h3 r
    unfold intoG
    split
    · simp; omega
    · split
      · split <;> simp <;> omega
      · split <;> simp <;> omega

set_option maxHeartbeats 2000000 in
theorem into_core (b off cap : Nat) (L : List Ent) (e : Ent) (w : World) (hE : EntsAt w b off L) (hB : b < w.heap.size) (hlen : L.length ≤ 1048576) :
    Calls Tryz.prog 113 #[.slice (some ⟨b, off, none⟩) L.length cap, e.v] w fun r w' =>
      ∃ g cp, r = .returned (.slice (some ⟨g, 0, none⟩) (into L e).length cp) ∧ OwnE w' w.heap.size g cp (into L e) ∧ Below w.heap.size w w' := by
  unfold Ent.v
  obtain ⟨W0, hW0⟩ : ∃ W0 : World, W0 = w.alloc (Obj.cells #[.string e.row, .string e.fam, .string e.qual, .int .u64 e.ts, .int .i64 e.kind, .string e.val] 102) := ⟨_, rfl⟩
  have hb0 : Below w.heap.size w W0 := by rw [hW0]; exact (Below.refl _ _).alloc (Nat.le_refl _) _
  have hz0 : W0.heap.size = w.heap.size + 1 := by rw [hW0]; simp
  have HX : Hid (EntsAt W0 w.heap.size 0 [e]) := by
    show EntsAt W0 w.heap.size 0 [e]
    intro j f hf
    obtain rfl : j = 0 := by
      have := (List.getElem?_eq_some_iff.1 hf).1
      simpa using this
    simp at hf
    subst hf
    rw [hW0]
    simp
  have HE : Hid (EntsAt W0 b off L) := hE.below hb0 hB
  have HS : Hid (OwnE (W0.alloc (Obj.cells #[] 102)) (w.heap.size + 1) (w.heap.size + 1) 0 []) := by
    show OwnE (W0.alloc (Obj.cells #[] 102)) (w.heap.size + 1) (w.heap.size + 1) 0 []
    rw [← hz0]
    exact World.ownsRow_made W0 #[] 0 (Nat.le_refl _) (Nat.zero_le _) (by simp)
  clear hE
  have HZ : Hid (W0.heap.size = w.heap.size + 1) := hz0
  have hz1 : w.heap.size < W0.heap.size := by omega
  have hz2 : W0.heap.size ≤ w.heap.size + 1 := by omega
  clear hz0
  go_enter Tryz.func113, Tryz.ntmps113
  go_wp2_with fail
  rw [← hW0]
  clear hW0
  go_loopw [5, 6, 7] (fun o d i wr => ∃ (k g cp : Nat) (fs : List Ent) (dn : Bool), k ≤ L.length ∧ i = .int .i64 k ∧ d = .bool dn ∧ o = .slice (some ⟨g, 0, none⟩) fs.length cp ∧ fs ++ intoG e (L.drop k) dn = into L e ∧ OwnE wr (w.heap.size + 1) g cp fs ∧ Below W0.heap.size W0 wr) (fun _ _ i _ => L.length - (intOf i).toNat)
  case atStart => exact ⟨0, _, 0, [], false, Nat.zero_le _, rfl, rfl, rfl, rfl, HS.out, (Below.refl _ _).alloc (Nat.le_refl _) _⟩
  case round =>
    obtain ⟨k, g, cp, fs, dn, hk, rfl, rfl, rfl, hin, hO, hb⟩ := hrel
    have hfl : fs.length ≤ 1048577 := by
      have h1 := congrArg List.length hin
      have h2 := length_intoG e L false
      rw [List.length_append] at h1
      unfold into at h1
      omega
    have HI : Hid (fs ++ intoG e (L.drop k) dn = into L e) := hin
    have HO : Hid (OwnE wr (w.heap.size + 1) g cp fs) := hO
    have hg := hO.lt
    have hs := hb.size
    clear hin hO
    by_cases hlt : k < L.length
    · obtain ⟨x, hx⟩ : ∃ x, L[k]? = some x := ⟨_, List.getElem?_eq_getElem hlt⟩
      have hdr : L.drop k = x :: L.drop (k + 1) := by
        rw [List.drop_eq_getElem_cons hlt]
        rw [List.getElem?_eq_getElem hlt] at hx
        simp at hx
        rw [hx]
      have HD : Hid (L.drop k = x :: L.drop (k + 1)) := hdr
      clear hdr
      have hec : ∀ wx, Below W0.heap.size W0 wx → EntsAt wx b off L ∧ EntsAt wx w.heap.size 0 [e] := fun wx h => ⟨HE.out.below h (by omega), HX.out.below h (by omega)⟩
      have HEC : Hid (∀ wx, Below W0.heap.size W0 wx → EntsAt wx b off L ∧ EntsAt wx w.heap.size 0 [e]) := hec
      clear hec
      obtain ⟨c0, c1, c2, c3, c4, c5⟩ := (HEC.out wr hb).1 k x hx
      obtain ⟨d0, d1, d2, d3, d4, d5⟩ := (HEC.out wr hb).2 0 e rfl
      simp only [Nat.zero_add, Nat.zero_mul] at d0 d1 d2 d3 d4 d5
      have HXK : Hid (L[k]? = some x) := hx
      clear hx
      have z2 : (k : Int) < (L.length : Int) := by omega
      go_upto_region 6 with fail
      go_cut [8] (fun s wx => s = .int .i64 (keyCmp x e) ∧ Below wr.heap.size wr wx)
      case first =>
        go_region_with (go_at_call 94; refine (specCompareKeys_any x e _).mono ?_; rintro e' w' ⟨rfl, hbb⟩)
        all_goals go_wp2_with fail
        all_goals go_meet
        all_goals exact ⟨rfl, ((Below.refl _ _).drew).trans (hbb.mono (by simp))⟩
      case rest =>
      obtain ⟨rfl, h3⟩ := hcut
      have hb3 := hb.trans (h3.mono hb.size)
      have HO3 : Hid (OwnE wc (w.heap.size + 1) g cp fs) := HO.out.below h3 hg.2
      have hs3 := h3.size
      clear c0 c1 c2 c3 c4 c5 d0 d1 d2 d3 d4 d5
      obtain ⟨c0, c1, c2, c3, c4, c5⟩ := (HEC.out wc hb3).1 k x HXK.out
      obtain ⟨d0, d1, d2, d3, d4, d5⟩ := (HEC.out wc hb3).2 0 e rfl
      simp only [Nat.zero_add, Nat.zero_mul] at d0 d1 d2 d3 d4 d5
      have ent_new : ∀ (wx : World) (f : Ent), EntsAt (wx.alloc (Obj.cells #[.string f.row, .string f.fam, .string f.qual, .int .u64 f.ts, .int .i64 f.kind, .string f.val] 102)) wx.heap.size 0 [f] := by
        intro wx f j y hy
        obtain rfl : j = 0 := by
          have := (List.getElem?_eq_some_iff.1 hy).1
          simpa using this
        simp at hy
        subst hy
        simp
      have HN : Hid (∀ (wx : World) (f : Ent), EntsAt (wx.alloc (Obj.cells #[.string f.row, .string f.fam, .string f.qual, .int .u64 f.ts, .int .i64 f.kind, .string f.val] 102)) wx.heap.size 0 [f]) := ent_new
      clear ent_new
      rcases keyCmp_vals x e with hc | hc | hc
      · have HC : Hid (keyCmp x e = -1) := hc
        go_wp2_with (at_builtin; refine wpList_append_ent _ rfl _ _ rfl (w.heap.size + 1) g cp _ _ fs x rfl rfl rfl ?hO ?hc ?hl ?hb ?_)
        case hO => exact HO3.out.below ((Below.refl _ _).alloc (Nat.le_refl _) _) (by omega)
        case hc => exact HN.out wc x
        case hl => omega
        case hb => simp; omega
        intro g' cp' w' hO' hgr
        have HO' : Hid (OwnE w' (w.heap.size + 1) g' cp' (fs ++ [x])) := hO'
        have hb' : Below W0.heap.size W0 w' := (hb3.alloc hb3.size _).grown hgr (by simp; omega) (fun j hj => by cases hj; omega)
        clear hO' hgr
        go_wp2_with fail
        go_roundw
        case rel =>
          go_light
          refine ⟨k + 1, g', cp', fs ++ [x], dn, by omega, by go_num, rfl, by simp, ?_, HO'.out, hb'⟩
          have h := HI.out
          rw [HD.out] at h
          rw [← h]
          simp [intoG, HC.out]
        case measure => go_light; simp [intOf]; omega
      · have HC : Hid (keyCmp x e = 0) := hc
        cases dn
        · go_wp2_with (at_builtin; refine wpList_append_ent _ rfl _ _ rfl (w.heap.size + 1) g cp _ _ (fs) e rfl rfl rfl ?hO ?hc ?hl ?hb ?_)
          case hO => exact HO3.out.below ((Below.refl _ _).alloc (Nat.le_refl _) _) (by omega)
          case hc => exact HN.out wc e
          case hl => omega
          case hb => simp; omega
          intro g' cp' w' hO' hgr
          have HO' : Hid (OwnE w' (w.heap.size + 1) g' cp' (fs ++ [e])) := hO'
          have hb' : Below W0.heap.size W0 w' := (hb3.alloc hb3.size _).grown hgr (by simp; omega) (fun j hj => by cases hj; omega)
          clear hO' hgr
          go_wp2_with fail
          go_roundw
          case rel =>
            go_light
            refine ⟨k + 1, g', cp', fs ++ [e], true, by omega, by go_num, rfl, by simp, ?_, HO'.out, hb'⟩
            have h := HI.out
            rw [HD.out] at h
            rw [← h]
            simp [intoG, HC.out]
          case measure => go_light; simp [intOf]; omega
        · go_wp2_with fail
          go_roundw
          case rel =>
            go_light
            refine ⟨k + 1, g, cp, fs, true, by omega, by go_num, rfl, by simp, ?_, HO3.out, hb3⟩
            have h := HI.out
            rw [HD.out] at h
            rw [← h]
            simp [intoG, HC.out]
          case measure => go_light; simp [intOf]; omega
      · have HC : Hid (keyCmp x e = 1) := hc
        cases dn
        · go_wp2_with (at_builtin; refine wpList_append_ent _ rfl _ _ rfl (w.heap.size + 1) g cp _ _ (fs) e rfl rfl rfl ?hO ?hc ?hl ?hb ?_)
          case hO => exact HO3.out.below ((Below.refl _ _).alloc (Nat.le_refl _) _) (by omega)
          case hc => exact HN.out wc e
          case hl => omega
          case hb => simp; omega
          intro g1 cp1 w1 hO1 hgr1
          have HO1 : Hid (OwnE w1 (w.heap.size + 1) g1 cp1 (fs ++ [e])) := hO1
          have hb1 : Below W0.heap.size W0 w1 := (hb3.alloc hb3.size _).grown hgr1 (by simp; omega) (fun j hj => by cases hj; omega)
          have hg1 := hO1.lt
          have hs1 := hb1.size
          clear hO1 hgr1 c0 c1 c2 c3 c4 c5
          obtain ⟨c0, c1, c2, c3, c4, c5⟩ := (HEC.out w1 hb1).1 k x HXK.out
          go_wp2_with (at_builtin; refine wpList_append_ent _ rfl _ _ rfl (w.heap.size + 1) g1 cp1 _ _ (fs ++ [e]) x rfl rfl (by simp) ?hO ?hc ?hl ?hb ?_)
          case hO => exact HO1.out.below ((Below.refl _ _).alloc (Nat.le_refl _) _) hg1.2
          case hc => exact HN.out w1 x
          case hl => simp; omega
          case hb => simp; omega
          intro g' cp' w' hO' hgr
          have HO' : Hid (OwnE w' (w.heap.size + 1) g' cp' (fs ++ [e, x])) := hO'
          have hb' : Below W0.heap.size W0 w' := (hb1.alloc hb1.size _).grown hgr (by simp; omega) (fun j hj => by cases hj; omega)
          clear hO' hgr
          go_wp2_with fail
          go_roundw
          case rel =>
            go_light
            refine ⟨k + 1, g', cp', fs ++ [e, x], true, by omega, by go_num, rfl, by simp, ?_, HO'.out, hb'⟩
            have h := HI.out
            rw [HD.out] at h
            rw [← h]
            simp [intoG, HC.out]
          case measure => go_light; simp [intOf]; omega
        · go_wp2_with (at_builtin; refine wpList_append_ent _ rfl _ _ rfl (w.heap.size + 1) g cp _ _ (fs) x rfl rfl rfl ?hO ?hc ?hl ?hb ?_)
          case hO => exact HO3.out.below ((Below.refl _ _).alloc (Nat.le_refl _) _) (by omega)
          case hc => exact HN.out wc x
          case hl => omega
          case hb => simp; omega
          intro g' cp' w' hO' hgr
          have HO' : Hid (OwnE w' (w.heap.size + 1) g' cp' (fs ++ [x])) := hO'
          have hb' : Below W0.heap.size W0 w' := (hb3.alloc hb3.size _).grown hgr (by simp; omega) (fun j hj => by cases hj; omega)
          clear hO' hgr
          go_wp2_with fail
          go_roundw
          case rel =>
            go_light
            refine ⟨k + 1, g', cp', fs ++ [x], true, by omega, by go_num, rfl, by simp, ?_, HO'.out, hb'⟩
            have h := HI.out
            rw [HD.out] at h
            rw [← h]
            simp [intoG, HC.out]
          case measure => go_light; simp [intOf]; omega
    · have hdr : L.drop k = [] := List.drop_eq_nil_of_le (by omega)
      have HD : Hid (L.drop k = []) := hdr
      clear hdr
      have hkk : k = L.length := by omega
      cases dn
      · obtain ⟨d0, d1, d2, d3, d4, d5⟩ := HX.out.below hb (by omega) 0 e rfl
        simp only [Nat.zero_add, Nat.zero_mul] at d0 d1 d2 d3 d4 d5
        have HF : Hid (fs ++ [e] = into L e) := by
          have h := HI.out
          rw [HD.out] at h
          exact h
        go_wp2_with (at_builtin; refine wpList_append_ent _ rfl _ _ rfl (w.heap.size + 1) g cp _ _ fs e rfl rfl rfl ?hO ?hc ?hl ?hb ?_)
        case hO => exact HO.out.below ((Below.refl _ _).alloc (Nat.le_refl _) _) (by omega)
        case hc =>
          intro j y hy
          obtain rfl : j = 0 := by
            have := (List.getElem?_eq_some_iff.1 hy).1
            simpa using this
          simp at hy
          subst hy
          simp
        case hl => omega
        case hb => simp; omega
        intro g' cp' w' hO' hgr
        have HO' : Hid (OwnE w' (w.heap.size + 1) g' cp' (fs ++ [e])) := hO'
        have hb' : Below W0.heap.size W0 w' := (hb.alloc hb.size _).grown hgr (by simp; omega) (fun j hj => by cases hj; omega)
        clear hO' hgr
        go_wp2_with fail
        go_ret
        refine ⟨g', cp', ?_, ?_, hb0.trans (hb'.mono (by omega))⟩
        · rw [← HF.out]; simp
        · rw [← HF.out]; exact HO'.out.mono (by omega)
      · have HF : Hid (fs = into L e) := by
          have h := HI.out
          rw [HD.out] at h
          show fs = into L e
          simpa [intoG] using h
        go_wp2_with fail
        go_ret
        refine ⟨g, cp, ?_, ?_, hb0.trans (hb.mono (by omega))⟩
        · rw [← HF.out]; rfl
        · rw [← HF.out]; exact HO.out.mono (by omega)
end Go.Proofs.YtkidabedcgngcaaGreatDoor

/-
  The order of keys is a strict order; ordered lists with the same members are one.
-/
namespace Go.Proofs.YtkidabedcgngcaaGreatDoor
set_option linter.unusedVariables false

theorem cmpB_zero : ∀ a b : List UInt8, Lib.compareBytes a b = 0 ↔ a = b
  | [], [] => by simp [Lib.compareBytes]
  | [], _ :: _ => by simp [Lib.compareBytes]
  | _ :: _, [] => by simp [Lib.compareBytes]
  | a :: x, b :: y => by
    unfold Lib.compareBytes
    by_cases h1 : a < b
    · rw [if_pos h1]
      constructor
      · intro h; cases h
      · intro h
        simp at h
        rw [h.1] at h1
        simp at h1
    · rw [if_neg h1]
      by_cases h2 : b < a
      · rw [if_pos h2]
        constructor
        · intro h; cases h
        · intro h
          simp at h
          rw [h.1] at h2
          simp at h2
      · rw [if_neg h2, cmpB_zero x y]
        have hab : a = b := by
          rw [UInt8.lt_iff_toNat_lt] at h1 h2
          exact UInt8.toNat_inj.1 (by omega)
        simp [hab]
theorem cmpB_neg : ∀ a b : List UInt8, Lib.compareBytes b a = -Lib.compareBytes a b
  | [], [] => by simp [Lib.compareBytes]
  | [], _ :: _ => by simp [Lib.compareBytes]
  | _ :: _, [] => by simp [Lib.compareBytes]
  | a :: x, b :: y => by
    unfold Lib.compareBytes
    have := cmpB_neg x y
    simp only [UInt8.lt_iff_toNat_lt]
    by_cases h1 : a.toNat < b.toNat
    · have h2 : ¬ b.toNat < a.toNat := by omega
      simp [h1, h2]
    · by_cases h2 : b.toNat < a.toNat
      · simp [h1, h2]
      · simp [h1, h2, this]
theorem cmpB_trans : ∀ a b c : List UInt8, Lib.compareBytes a b = -1 → Lib.compareBytes b c = -1 → Lib.compareBytes a c = -1
  | [], [], _ => by simp [Lib.compareBytes]
  | [], _ :: _, [] => by simp [Lib.compareBytes]
  | [], _ :: _, _ :: _ => by simp [Lib.compareBytes]
  | _ :: _, [], _ => by simp [Lib.compareBytes]
  | _ :: _, _ :: _, [] => by simp [Lib.compareBytes]
  | a :: x, b :: y, c :: z => by
    have ih := cmpB_trans x y z
    unfold Lib.compareBytes
    simp only [UInt8.lt_iff_toNat_lt]
    intro h1 h2
    by_cases h3 : a.toNat < c.toNat
    · simp [h3]
    · by_cases p1 : a.toNat < b.toNat
      · by_cases p2 : b.toNat < c.toNat
        · omega
        · by_cases p3 : c.toNat < b.toNat
          · simp [p2, p3] at h2
          · omega
      · by_cases p2 : b.toNat < a.toNat
        · simp [p1, p2] at h1
        · by_cases q1 : b.toNat < c.toNat
          · omega
          · by_cases q2 : c.toNat < b.toNat
            · simp [q1, q2] at h2
            · simp [p1, p2] at h1
              simp [q1, q2] at h2
              have r1 : ¬ c.toNat < a.toNat := by omega
              simp [h3, r1]
              exact ih h1 h2

theorem cB_zero {a b : ByteArray} : cB a b = 0 ↔ a = b := by
  unfold cB
  rw [cmpB_zero]
  constructor
  · intro h; cases a; cases b; simp at h; simpa using h
  · intro h; rw [h]
theorem cB_neg (a b : ByteArray) : cB b a = -cB a b := cmpB_neg _ _
theorem cB_trans {a b c : ByteArray} (h : cB a b = -1) (k : cB b c = -1) : cB a c = -1 := cmpB_trans _ _ _ h k

theorem tsCmp_neg (a b : Int) : tsCmp b a = -tsCmp a b := by
  unfold tsCmp; repeat' split
  all_goals omega
theorem kindCmp_neg (a b : Int) : kindCmp b a = -kindCmp a b := by
  unfold kindCmp; repeat' split
  all_goals omega
theorem firstOf_neg (a b : Int) : firstOf (-a) (-b) = -firstOf a b := by
  unfold firstOf
  by_cases h : a = 0
  · simp [h]
  · simp [h]
theorem keyCmp_neg (a b : Ent) : keyCmp b a = -keyCmp a b := by
  unfold keyCmp
  rw [cB_neg a.row b.row, cB_neg a.fam b.fam, cB_neg a.qual b.qual, kindCmp_neg a.kind b.kind, tsCmp_neg a.ts b.ts, firstOf_neg, firstOf_neg, firstOf_neg, firstOf_neg]

/-- 'firstOf' of two three-valued comparisons that are each an order. -/
theorem firstOf_trans {a b c a' b' c' : Int} (h0 : a = 0 → b = 0 → c = 0) (h1 : a = -1 → b = -1 → c = -1) (h2 : a = -1 → b = 0 → c = -1) (h3 : a = 0 → b = -1 → c = -1)
    (ta : tri a) (tb : tri b) (k : a' = -1 → b' = -1 → c' = -1) (x : firstOf a a' = -1) (y : firstOf b b' = -1) : firstOf c c' = -1 := by
  unfold firstOf at *
  unfold tri at *
  by_cases ha : a = 0
  · rw [if_pos ha] at x
    by_cases hb : b = 0
    · rw [if_pos hb] at y
      rw [if_pos (h0 ha hb)]; exact k x y
    · rw [if_neg hb] at y
      have := h3 ha y
      rw [if_neg (by omega)]; exact this
  · rw [if_neg ha] at x
    by_cases hb : b = 0
    · have := h2 x hb
      rw [if_neg (by omega)]; exact this
    · rw [if_neg hb] at y
      have := h1 x y
      rw [if_neg (by omega)]; exact this
theorem cB_pack (a b c : ByteArray) : (cB a b = 0 → cB b c = 0 → cB a c = 0) ∧ (cB a b = -1 → cB b c = -1 → cB a c = -1) ∧ (cB a b = -1 → cB b c = 0 → cB a c = -1) ∧ (cB a b = 0 → cB b c = -1 → cB a c = -1) := by
  refine ⟨fun h k => ?_, fun h k => cB_trans h k, fun h k => ?_, fun h k => ?_⟩
  · rw [cB_zero] at *; rw [h, k]
  · rw [cB_zero] at k; rw [← k]; exact h
  · rw [cB_zero] at h; rw [h]; exact k
theorem keyCmp_trans {a b c : Ent} (h : keyCmp a b = -1) (k : keyCmp b c = -1) : keyCmp a c = -1 := by
  obtain ⟨r0, r1, r2, r3⟩ := cB_pack a.row b.row c.row
  obtain ⟨f0, f1, f2, f3⟩ := cB_pack a.fam b.fam c.fam
  obtain ⟨q0, q1, q2, q3⟩ := cB_pack a.qual b.qual c.qual
  refine firstOf_trans r0 r1 r2 r3 (cB_vals _ _) (cB_vals _ _) (fun h k => ?_) h k
  refine firstOf_trans f0 f1 f2 f3 (cB_vals _ _) (cB_vals _ _) (fun h k => ?_) h k
  refine firstOf_trans q0 q1 q2 q3 (cB_vals _ _) (cB_vals _ _) (fun h k => ?_) h k
  refine firstOf_trans ?_ ?_ ?_ ?_ (tri_kind _ _) (tri_kind _ _) (fun h k => ?_) h k
  · unfold kindCmp; (repeat' split) <;> omega
  · unfold kindCmp; (repeat' split) <;> omega
  · unfold kindCmp; (repeat' split) <;> omega
  · unfold kindCmp; (repeat' split) <;> omega
  · unfold tsCmp at *
    (repeat' split at h) <;> (repeat' split at k) <;> (repeat' split) <;> omega
theorem keyCmp_self (a : Ent) : keyCmp a a = 0 := by
  have := keyCmp_neg a a
  omega

/-- Ordered, no key twice. -/
def Ord (l : List Ent) : Prop := l.Pairwise fun a b => keyCmp a b = -1
theorem ord_ext : ∀ {l m : List Ent}, Ord l → Ord m → (∀ x, x ∈ l ↔ x ∈ m) → l = m
  | [], [], _, _, _ => rfl
  | [], b :: m, _, _, h => by have := (h b).2 (by simp); simp at this
  | a :: l, [], _, _, h => by have := (h a).1 (by simp); simp at this
  | a :: l, b :: m, hl, hm, h => by
    have hl' := List.pairwise_cons.1 hl
    have hm' := List.pairwise_cons.1 hm
    have hab : a = b := by
      rcases List.mem_cons.1 ((h a).1 (by simp)) with e | e
      · exact e
      · rcases List.mem_cons.1 ((h b).2 (by simp)) with e' | e'
        · exact e'.symm
        · have h1 := hm'.1 a e
          have h2 := hl'.1 b e'
          have := keyCmp_neg a b
          omega
    subst hab
    congr 1
    refine ord_ext hl'.2 hm'.2 (fun x => ⟨fun hx => ?_, fun hx => ?_⟩)
    · rcases List.mem_cons.1 ((h x).1 (List.mem_cons_of_mem _ hx)) with e | e
      · subst e
        have := hl'.1 x hx
        rw [keyCmp_self] at this
        omega
      · exact e
    · rcases List.mem_cons.1 ((h x).2 (List.mem_cons_of_mem _ hx)) with e | e
      · subst e
        have := hm'.1 x hx
        rw [keyCmp_self] at this
        omega
      · exact e

theorem firstOf_zero {a b : Int} : firstOf a b = 0 ↔ a = 0 ∧ b = 0 := by
  unfold firstOf
  by_cases h : a = 0
  · simp [h]
  · simp [h]
theorem kindCmp_zero {a b : Int} : kindCmp a b = 0 ↔ (a = 2 ↔ b = 2) := by
  unfold kindCmp
  by_cases h : a = 2 <;> by_cases k : b = 2 <;> simp [h, k]
theorem tsCmp_zero {a b : Int} : tsCmp a b = 0 ↔ a = b := by
  unfold tsCmp
  (repeat' split) <;> omega
theorem keyCmp_zero {a b : Ent} : keyCmp a b = 0 ↔ a.row = b.row ∧ a.fam = b.fam ∧ a.qual = b.qual ∧ (a.kind = 2 ↔ b.kind = 2) ∧ a.ts = b.ts := by
  unfold keyCmp
  rw [firstOf_zero, firstOf_zero, firstOf_zero, firstOf_zero, cB_zero, cB_zero, cB_zero, kindCmp_zero, tsCmp_zero]
theorem kindCmp_congr {a b c : Int} (h : a = 2 ↔ b = 2) : kindCmp a c = kindCmp b c := by
  unfold kindCmp
  by_cases k : a = 2
  · rw [if_pos k, if_pos (h.1 k)]
  · rw [if_neg k, if_neg (fun x => k (h.2 x))]
theorem keyCmp_congr {a b c : Ent} (h : keyCmp a b = 0) : keyCmp a c = keyCmp b c := by
  obtain ⟨h1, h2, h3, h4, h5⟩ := keyCmp_zero.1 h
  unfold keyCmp
  rw [h1, h2, h3, h5, kindCmp_congr h4]

theorem intoG_true (e : Ent) : ∀ L : List Ent, (∀ x ∈ L, keyCmp e x = -1) → intoG e L true = L
  | [], _ => rfl
  | x :: r, h => by
    have h1 := h x (by simp)
    have h2 := keyCmp_neg e x
    have h3 : keyCmp x e = 1 := by omega
    unfold intoG
    rw [if_neg (by omega), if_neg (by omega), if_pos rfl, intoG_true e r (fun y hy => h y (List.mem_cons_of_mem _ hy))]
theorem into_spec (e : Ent) : ∀ L : List Ent, Ord L → Ord (intoG e L false) ∧ ∀ x, x ∈ intoG e L false ↔ x = e ∨ (x ∈ L ∧ keyCmp x e ≠ 0)
  | [], _ => ⟨by simp [intoG, Ord], fun x => by simp [intoG]⟩
  | x :: r, h => by
    have h' := List.pairwise_cons.1 h
    obtain ⟨ih1, ih2⟩ := into_spec e r h'.2
    rcases keyCmp_vals x e with hc | hc | hc
    · have e1 : intoG e (x :: r) false = x :: intoG e r false := by simp [intoG, hc]
      rw [e1]
      refine ⟨List.pairwise_cons.2 ⟨fun y hy => ?_, ih1⟩, fun y => ?_⟩
      · rcases (ih2 y).1 hy with rfl | ⟨hy, _⟩
        · exact hc
        · exact h'.1 y hy
      · rw [List.mem_cons, ih2, List.mem_cons]
        constructor
        · rintro (rfl | rfl | ⟨h1, h2⟩)
          · exact .inr ⟨.inl rfl, by omega⟩
          · exact .inl rfl
          · exact .inr ⟨.inr h1, h2⟩
        · rintro (rfl | ⟨rfl | h1, h2⟩)
          · exact .inr (.inl rfl)
          · exact .inl rfl
          · exact .inr (.inr ⟨h1, h2⟩)
    · have hr : ∀ y ∈ r, keyCmp e y = -1 := fun y hy => by rw [← keyCmp_congr hc]; exact h'.1 y hy
      have e1 : intoG e (x :: r) false = e :: r := by
        simp [intoG, hc, intoG_true e r hr]
      rw [e1]
      refine ⟨List.pairwise_cons.2 ⟨hr, h'.2⟩, fun y => ?_⟩
      rw [List.mem_cons, List.mem_cons]
      constructor
      · rintro (rfl | h1)
        · exact .inl rfl
        · have h2 := hr y h1
          have h3 := keyCmp_neg e y
          exact .inr ⟨.inr h1, by omega⟩
      · rintro (rfl | ⟨rfl | h1, h2⟩)
        · exact .inl rfl
        · exact absurd hc h2
        · exact .inr h1
    · have hx : keyCmp e x = -1 := by
        have := keyCmp_neg x e
        omega
      have hr : ∀ y ∈ r, keyCmp e y = -1 := fun y hy => keyCmp_trans hx (h'.1 y hy)
      have e1 : intoG e (x :: r) false = e :: x :: r := by
        simp [intoG, hc, intoG_true e r hr]
      rw [e1]
      refine ⟨List.pairwise_cons.2 ⟨fun y hy => ?_, h⟩, fun y => ?_⟩
      · rcases List.mem_cons.1 hy with rfl | hy
        · exact hx
        · exact hr y hy
      · rw [List.mem_cons]
        constructor
        · rintro (rfl | h1)
          · exact .inl rfl
          · refine .inr ⟨h1, ?_⟩
            have h3 := keyCmp_neg e y
            rcases List.mem_cons.1 h1 with rfl | h1
            · omega
            · have := hr y h1
              omega
        · rintro (rfl | ⟨h1, _⟩)
          · exact .inl rfl
          · exact .inr h1
end Go.Proofs.YtkidabedcgngcaaGreatDoor

/-
  spec.l1Stands, spec.l1GoodWrites.
-/
namespace Go.Proofs.YtkidabedcgngcaaGreatDoor
open Go.ChangeShapes Go.WideShapes Go.ChangeAt Go.RowKit Go.Deep
set_option linter.unusedVariables false

/-- Does the later write 'v' do away with 'e'? -/
def kills (v e : Ent) : Bool := sameCol v e && (if (v.kind == 2) = true then decide (e.ts ≤ v.ts) else (v.ts == e.ts))
/-- No write behind place 'i' does away with the one there. -/
def Stands (ws : List Ent) (i : Nat) : Prop := ∀ j v e, i < j → ws[j]? = some v → ws[i]? = some e → kills v e = false
def StandsTo (ws : List Ent) (i k : Nat) : Prop := ∀ j v e, i < j → j < k → ws[j]? = some v → ws[i]? = some e → kills v e = false
theorem standsTo_succ {ws : List Ent} {i k : Nat} {v e : Ent} (h : StandsTo ws i k) (hv : ws[k]? = some v) (he : ws[i]? = some e) (hk : kills v e = false) : StandsTo ws i (k + 1) := by
  intro j v' e' h1 h2 h3 h4
  by_cases hj : j = k
  · subst hj
    rw [hv] at h3; rw [he] at h4
    simp at h3 h4
    subst h3 h4
    exact hk
  · exact h j v' e' h1 (by omega) h3 h4

set_option maxHeartbeats 400000 in
theorem goodWrites_core (b off cap : Nat) (es : List Ent) (w : World) (hE : EntsAt w b off es) (hok : ∀ e ∈ es, e.ok) (hB : b < w.heap.size) (hlen : es.length ≤ 1048576) :
    Calls Tryz.prog 112 #[.slice (some ⟨b, off, none⟩) es.length cap] w fun e w' =>
      ∃ r : Bool, e = .returned (.bool r) ∧ (r = true ↔ GoodW es) ∧ Below w.heap.size w w' := by
  have HE : Hid (EntsAt w b off es) := hE
  have HO : Hid (∀ e ∈ es, e.ok) := hok
  clear hE hok
  by_cases hbig : 10000 < es.length
  · have H : Hid (¬ GoodW es) := fun h => by have := h.1; omega
    go_enter Tryz.func112, Tryz.ntmps112
    go_wp2
    go_ret
    exact ⟨_, rfl, iffF H.out, Below.refl _ _⟩
  go_enter Tryz.func112, Tryz.ntmps112
  go_wp2
  go_loopw [3] (fun i wr => ∃ (k : Nat), k ≤ es.length ∧ i = .int .i64 k ∧ (∀ x ∈ es.take k, x.vld = true) ∧ Below w.heap.size w wr) (fun i _ => es.length - (intOf i).toNat)
  case atStart => exact ⟨0, Nat.zero_le _, rfl, by simp, Below.refl _ _⟩
  case round =>
    obtain ⟨k, hk, rfl, hv, hb⟩ := hrel
    have HV : Hid (∀ x ∈ es.take k, x.vld = true) := hv
    clear hv
    by_cases hlt : k < es.length
    · obtain ⟨e, he⟩ : ∃ e, es[k]? = some e := ⟨_, List.getElem?_eq_getElem hlt⟩
      obtain ⟨c0, c1, c2, c3, c4, c5⟩ := (HE.out.below hb hB) k e he
      have HK : Hid (e.ok ∧ es[k]? = some e) := ⟨HO.out e (List.mem_of_getElem? he), he⟩
      clear he
      go_wp2_with fail
      refine (specValid_core e.row e.fam e.qual e.val e.ts e.kind _ HK.out.1.row HK.out.1.fam HK.out.1.qual HK.out.1.val).mono ?_
      rintro e' w1 ⟨rfl, hb1⟩
      have hb2 := hb.trans (hb1.mono hb.size)
      clear c0 c1 c2 c3 c4 c5 hb1
      cases hv : vE e.row e.fam e.qual e.kind e.val
      · have H : Hid (¬ GoodW es) := fun h => by
          have := h.2 e (List.mem_of_getElem? HK.out.2)
          unfold Ent.vld at this
          rw [hv] at this
          cases this
        go_wp2_with fail
        go_ret
        exact ⟨_, rfl, iffF H.out, hb2⟩
      · have H : Hid (∀ x ∈ es.take (k + 1), x.vld = true) := vld_of_take HV.out HK.out.2 hv
        go_wp2_with fail
        go_roundw
        case rel => exact ⟨k + 1, by omega, by go_num, H.out, hb2⟩
        case measure => go_light; simp [intOf]; omega
    · go_wp2
      go_ret
      refine ⟨_, rfl, iffT ⟨by omega, fun e he => ?_⟩, hb⟩
      have := HV.out
      rw [List.take_of_length_le (by omega)] at this
      exact this e he
end Go.Proofs.YtkidabedcgngcaaGreatDoor

/-
  What a run keeps of a list of writes, as a property; it determines the run.
-/
namespace Go.Proofs.YtkidabedcgngcaaGreatDoor
set_option linter.unusedVariables false

theorem toList_inj {a b : ByteArray} (h : a.toList = b.toList) : a = b := by
  rw [ByteArray.toList_eq, ByteArray.toList_eq] at h
  cases a; cases b
  simp at h
  simpa using h
theorem sameCol_iff {a b : Ent} : sameCol a b = true ↔ a.row = b.row ∧ a.fam = b.fam ∧ a.qual = b.qual := by
  unfold sameCol
  simp only [Bool.and_eq_true, beq_iff_eq]
  constructor
  · rintro ⟨h1, h2, h3⟩; exact ⟨toList_inj h1, toList_inj h2, toList_inj h3⟩
  · rintro ⟨h1, h2, h3⟩; rw [h1, h2, h3]; exact ⟨rfl, rfl, rfl⟩
theorem size_zero_eq {a b : ByteArray} (h : a.size = 0) (k : b.size = 0) : a = b := by
  obtain ⟨⟨l⟩⟩ := a
  obtain ⟨⟨m⟩⟩ := b
  cases l with
  | nil => cases m with
    | nil => rfl
    | cons y m => simp [ByteArray.size] at k
  | cons x l => simp [ByteArray.size] at h
theorem vld_val {e : Ent} (h : e.vld = true) (k : e.kind = 2) : e.val.size = 0 := by
  unfold Ent.vld vE at h
  have := of_decide_eq_true h
  omega

/-- No delete of the same column has a larger timestamp. -/
def Largest (ws : List Ent) (e : Ent) : Prop := ∀ v ∈ ws, v.kind = 2 → sameCol v e = true → v.ts ≤ e.ts
def Keep (ws : List Ent) (i : Nat) (e : Ent) : Prop := (¬ e.kind = 2 ∧ Stands ws i) ∨ (e.kind = 2 ∧ Largest ws e)
def KeepTo (ws : List Ent) (k : Nat) (x : Ent) : Prop := ∃ i, i < k ∧ ws[i]? = some x ∧ Keep ws i x
/-- 'R' is what the first 'k' writes leave in the run of 'ws'. -/
def Kept (ws : List Ent) (k : Nat) (R : List Ent) : Prop := Ord R ∧ (∀ x, x ∈ R ↔ KeepTo ws k x)

theorem keep_uniq {ws : List Ent} (hv : ∀ x ∈ ws, x.vld = true) {i k : Nat} {x e : Ent} (hik : i < k) (hx : ws[i]? = some x) (he : ws[k]? = some e) (kx : Keep ws i x) (ke : Keep ws k e) (hz : keyCmp x e = 0) : x = e := by
  obtain ⟨h1, h2, h3, h4, h5⟩ := keyCmp_zero.1 hz
  rcases kx with ⟨hn, hs⟩ | ⟨h2k, _⟩
  · have := hs k e x hik he hx
    unfold kills at this
    rw [sameCol_iff.2 ⟨h1.symm, h2.symm, h3.symm⟩] at this
    have hn' : (e.kind == 2) = false := by simp; exact fun q => hn (h4.2 q)
    rw [hn', if_neg (by simp), h5] at this
    simp at this
  · have h2e := h4.1 h2k
    have v1 := vld_val (hv x (List.mem_of_getElem? hx)) h2k
    have v2 := vld_val (hv e (List.mem_of_getElem? he)) h2e
    obtain ⟨r, f, q, t, kk, v⟩ := x
    obtain ⟨r', f', q', t', kk', v'⟩ := e
    simp only at *
    subst h1 h2 h3 h5 h2k h2e
    rw [size_zero_eq v1 v2]

theorem kept_zero (ws : List Ent) : Kept ws 0 [] := ⟨List.Pairwise.nil, fun x => ⟨fun h => by simp at h, fun ⟨i, hi, _⟩ => by omega⟩⟩
theorem kept_skip {ws : List Ent} {k : Nat} {e : Ent} {R : List Ent} (h : Kept ws k R) (he : ws[k]? = some e) (hk : ¬ Keep ws k e) : Kept ws (k + 1) R := by
  refine ⟨h.1, fun x => (h.2 x).trans ⟨fun ⟨i, hi, h1, h2⟩ => ⟨i, by omega, h1, h2⟩, fun ⟨i, hi, h1, h2⟩ => ?_⟩⟩
  by_cases hik : i = k
  · subst hik
    rw [he] at h1
    simp at h1
    subst h1
    exact absurd h2 hk
  · exact ⟨i, by omega, h1, h2⟩
theorem kept_step {ws : List Ent} (hv : ∀ x ∈ ws, x.vld = true) {k : Nat} {e : Ent} {R : List Ent} (h : Kept ws k R) (he : ws[k]? = some e) (hk : Keep ws k e) : Kept ws (k + 1) (into R e) := by
  obtain ⟨h1, h2⟩ := into_spec e R h.1
  refine ⟨h1, fun x => (h2 x).trans ⟨?_, ?_⟩⟩
  · rintro (rfl | ⟨hx, _⟩)
    · exact ⟨k, by omega, he, hk⟩
    · obtain ⟨i, hi, a, b⟩ := (h.2 x).1 hx
      exact ⟨i, by omega, a, b⟩
  · rintro ⟨i, hi, a, b⟩
    by_cases hik : i = k
    · subst hik
      rw [he] at a
      simp at a
      exact .inl a.symm
    · by_cases hz : keyCmp x e = 0
      · exact .inl (keep_uniq hv (by omega) a he b hk hz)
      · exact .inr ⟨(h.2 x).2 ⟨i, by omega, a, b⟩, hz⟩
theorem kept_uniq {ws : List Ent} {k : Nat} {R S : List Ent} (h : Kept ws k R) (g : Kept ws k S) : R = S :=
  ord_ext h.1 g.1 (fun x => (h.2 x).trans (g.2 x).symm)
theorem length_into (L : List Ent) (e : Ent) : (into L e).length ≤ L.length + 1 := length_intoG e L false
end Go.Proofs.YtkidabedcgngcaaGreatDoor

