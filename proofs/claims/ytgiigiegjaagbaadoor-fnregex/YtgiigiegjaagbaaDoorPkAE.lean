import Derived.Deep.RegionHeld3
import Derived.Maps.AppendAt
import Derived.Test.YtgiigiegjaagbaaDoorPkAB
import Derived.Test.YtgiigiegjaagbaaDoorPkAA
import Derived.Test.YtgiigiegjaagbaaDoorPkAD
/-
  A region that draws its order and whose last operation stores: what is read ahead of it is taken first.
-/
namespace Go.Proofs.YtgiigiegjaagbaaDoor
open Go.ChangeShapes Go.WideShapes Go.ChangeAt Go.RowKit Go.Deep
set_option linter.unusedVariables false

section
variable {P : Program} {ops : Array Oper} {Q : Exit → Act → World → Prop} {md : Region.Mode} {S : World → Prop} {L : Nat}

/-- Whatever order is picked: 'S' holds behind every operation but number 'L'. -/
def AnyT (P : Program) (md : Region.Mode) (ops : Array Oper) (Q : Exit → Act → World → Prop) (S : World → Prop) (L : Nat) : Nat → Array Bool → Act → World → Prop
  | 0, listed, a, w => Region.ready md ops listed = [] ∧ Q .normal a w
  | fuel + 1, listed, a, w =>
    (Region.ready md ops listed = [] → Q .normal a w) ∧
    ∀ i ∈ Region.ready md ops listed, wpOp P ops Q i (fun a' w' => (i = L ∨ S w') ∧ AnyT P md ops Q S L fuel (listed.setIfInBounds i true) a' w') a w
theorem any_of_T : ∀ (fuel : Nat) (listed : Array Bool) (a : Act) (w : World), AnyT P md ops Q S L fuel listed a w → wpAny P md ops Q fuel listed a w
  | 0, _, _, _, h => h
  | fuel + 1, _, _, _, h => ⟨h.1, fun i hi => wpOp_mono (fun a' w' h' => any_of_T fuel _ a' w' h'.2) (h.2 i hi)⟩
/-- Operation 'L' waits for number 'i'. -/
def waitsT (md : Region.Mode) (ops : Array Oper) (L i : Nat) : Bool := ((ops[L]?).map (fun o => o.after.any fun e => Region.binds md e && e.on == i)).getD false
theorem anyT_first {i : Nat} {oi : Oper} {v : Value} (hi : ops[i]? = some oi) (hsel : ∀ (j : Nat) (o : Oper) cs b, ops[j]? = some o → o.op ≠ .select cs b)
    (hQ : ∀ c a w, Q (.panic c) (a.put oi.dst v) w → Q (.panic c) a w) (hL : waitsT md ops L i = true) (hne : i ≠ L) :
    ∀ (fuel : Nat) (listed : Array Bool) (a : Act) (w : World),
      (∀ j oj, ops[j]? = some oj → j ≠ i → listed.getD j true = false → (∀ e ∈ oj.after, Region.binds md e = true → e.on ≠ i) → oi.apart ops oj = true) →
      i ∈ Region.ready md ops listed → YieldsIf P ops S oi v a → S w →
      AnyT P md ops Q S L fuel (listed.setIfInBounds i true) (a.put oi.dst v) w → AnyT P md ops Q S L (fuel + 1) listed a w := by
  intro fuel
  induction fuel with
  | zero =>
    intro listed a w _ hr hy hS H
    refine ⟨fun h => (by rw [h] at hr; cases hr), fun j hj => ?_⟩
    by_cases hji : j = i
    · subst hji; exact hy.wpOp hi hS ⟨.inr hS, H⟩
    · have := ready_mono hj hji
      rw [H.1] at this
      cases this
  | succ fuel ih =>
    intro listed a w hfree hr hy hS H
    refine ⟨fun h => (by rw [h] at hr; cases hr), fun j hj => ?_⟩
    by_cases hji : j = i
    · subst hji; exact hy.wpOp hi hS ⟨.inr hS, H⟩
    · have h1 := H.2 j (ready_mono hj hji)
      obtain ⟨hjun, oj, hoj, hall⟩ := mem_ready.1 hj
      have hnot : ∀ e ∈ oj.after, Region.binds md e = true → e.on ≠ i := fun e he hb heq => by
        have h1 := hall e he hb
        have h0 := (mem_ready.1 hr).1
        rw [heq] at h1
        rcases Nat.lt_or_ge i listed.size with h' | h'
        · simp [h'] at h0 h1; rw [h0] at h1; cases h1
        · simp [Array.getElem?_eq_none h'] at h1
      have hjL : j ≠ L := fun q => by
        subst q
        unfold waitsT at hL
        rw [hoj] at hL
        simp only [Option.map_some, Option.getD_some, Array.any_eq_true] at hL
        obtain ⟨k, hk, hb⟩ := hL
        rw [Bool.and_eq_true, beq_iff_eq] at hb
        exact hnot _ (Array.getElem_mem hk) hb.1 hb.2
      have h2 := wpOp_putIf hoj (hfree j oj hoj hji hjun hnot) (fun cs b => hsel i oi cs b hi) (fun cs b => hsel j oj cs b hoj) hQ hy h1
      have hfree' : ∀ k ok, ops[k]? = some ok → k ≠ i → (listed.setIfInBounds j true).getD k true = false →
          (∀ e ∈ ok.after, Region.binds md e = true → e.on ≠ i) → oi.apart ops ok = true := fun k ok hk hki hun hno => by
        refine hfree k ok hk hki ?_ hno
        by_cases hjk : j = k
        · subst hjk; exact hjun
        · rw [getD_set_ne true hjk] at hun; exact hun
      refine wpOp_mono (fun a' w' h3 => ⟨h3.2.1, ih (listed.setIfInBounds j true) a' w' hfree' (ready_mono hr (Ne.symm hji)) h3.1 (h3.2.1.resolve_left hjL) ?_⟩) h2
      rw [Array.setIfInBounds_comm _ _ hji]
      exact h3.2.2
theorem anyT_take {i : Nat} {oi : Oper} {v : Value} {fuel : Nat} {listed : Array Bool} {a : Act} {w : World} (hi : ops[i]? = some oi)
    (hs : Region.noSelect ops = true) (hf : Region.free md ops listed i = true) (hr : (Region.ready md ops listed).contains i = true) (hL : waitsT md ops L i = true) (hne : i ≠ L)
    (hQ : ∀ c a w, Q (.panic c) (a.put oi.dst v) w → Q (.panic c) a w) (hy : YieldsIf P ops S oi v a) (hS : S w)
    (h : AnyT P md ops Q S L fuel (listed.setIfInBounds i true) (a.put oi.dst v) w) : AnyT P md ops Q S L (fuel + 1) listed a w :=
  anyT_first hi (Region.noSelect_spec hs) hQ hL hne fuel listed a w (Region.free_spec hi hf) (by simpa using hr) hy hS h
/-- One operation alone may come up. -/
theorem anyT_one {i : Nat} {o : Oper} {fuel : Nat} {listed : Array Bool} {a : Act} {w : World} (hr : Region.ready md ops listed = [i]) (ho : ops[i]? = some o)
    (h : ∀ K' : Act → World → Prop, Shut (∀ a w, (i = L ∨ S w) → AnyT P md ops Q S L fuel (listed.setIfInBounds i true) a w → K' a w) → if Region.wanted o (yielded ops a.tmps) = true then Oper.wp P o a w K' Q else K' (a.put o.dst undef) w) :
    AnyT P md ops Q S L (fuel + 1) listed a w := by
  refine ⟨fun h0 => (by rw [hr] at h0; cases h0), fun j hj => ?_⟩
  rw [hr] at hj
  simp at hj
  subst hj
  exact wpOp_step ho (fun K' hK => h K' (fun a w hS hW => hK a w ⟨hS, hW⟩))
/-- Either of two may come up. -/
theorem anyT_two {i j : Nat} {o q : Oper} {fuel : Nat} {listed : Array Bool} {a : Act} {w : World} (hr : Region.ready md ops listed = [i, j]) (ho : ops[i]? = some o) (hq : ops[j]? = some q)
    (h : ∀ K' : Act → World → Prop, Shut (∀ a w, (i = L ∨ S w) → AnyT P md ops Q S L fuel (listed.setIfInBounds i true) a w → K' a w) → if Region.wanted o (yielded ops a.tmps) = true then Oper.wp P o a w K' Q else K' (a.put o.dst undef) w)
    (h' : ∀ K' : Act → World → Prop, Shut (∀ a w, (j = L ∨ S w) → AnyT P md ops Q S L fuel (listed.setIfInBounds j true) a w → K' a w) → if Region.wanted q (yielded ops a.tmps) = true then Oper.wp P q a w K' Q else K' (a.put q.dst undef) w) :
    AnyT P md ops Q S L (fuel + 1) listed a w := by
  refine ⟨fun h0 => (by rw [hr] at h0; cases h0), fun k hk => ?_⟩
  rw [hr] at hk
  simp at hk
  rcases hk with rfl | rfl
  · exact wpOp_step ho (fun K' hK => h K' (fun a w hS hW => hK a w ⟨hS, hW⟩))
  · exact wpOp_step hq (fun K' hK => h' K' (fun a w hS hW => hK a w ⟨hS, hW⟩))
theorem anyT_done {fuel : Nat} {listed : Array Bool} {a : Act} {w : World} (hr : Region.ready md ops listed = []) (h : Q .normal a w) : AnyT P md ops Q S L fuel listed a w := by
  cases fuel with
  | zero => exact ⟨hr, h⟩
  | succ n => exact ⟨fun _ => h, by rw [hr]; simp⟩
theorem wp_region_T {id : Nat} {a : Act} {w : World} (L : Nat) (S : World → Prop) (hm : P.follows .mixedOrders = true)
    (h : AnyT P .any ops Q S L ops.size (Array.replicate ops.size false) a w.drew) : (Code.region id ops true).wp P Q a w :=
  wp_region_any hm (any_of_T _ _ _ _ h)
end
end Go.Proofs.YtgiigiegjaagbaaDoor

/-
  A region that draws its order and whose calls make memory: what is read is taken first, 'S' holds throughout.
-/
namespace Go.Proofs.YtgiigiegjaagbaaDoor
open Go.ChangeShapes Go.WideShapes Go.ChangeAt Go.RowKit Go.Deep
set_option linter.unusedVariables false

section
variable {P : Program} {ops : Array Oper} {Q : Exit → Act → World → Prop} {md : Region.Mode} {S : World → Prop} {L : Nat}
theorem anyT_firstN {i : Nat} {oi : Oper} {v : Value} (hi : ops[i]? = some oi) (hsel : ∀ (j : Nat) (o : Oper) cs b, ops[j]? = some o → o.op ≠ .select cs b)
    (hQ : ∀ c a w, Q (.panic c) (a.put oi.dst v) w → Q (.panic c) a w) (hL : ops[L]? = none) :
    ∀ (fuel : Nat) (listed : Array Bool) (a : Act) (w : World),
      (∀ j oj, ops[j]? = some oj → j ≠ i → listed.getD j true = false → (∀ e ∈ oj.after, Region.binds md e = true → e.on ≠ i) → oi.apart ops oj = true) →
      i ∈ Region.ready md ops listed → YieldsIf P ops S oi v a → S w →
      AnyT P md ops Q S L fuel (listed.setIfInBounds i true) (a.put oi.dst v) w → AnyT P md ops Q S L (fuel + 1) listed a w := by
  intro fuel
  induction fuel with
  | zero =>
    intro listed a w _ hr hy hS H
    refine ⟨fun h => (by rw [h] at hr; cases hr), fun j hj => ?_⟩
    by_cases hji : j = i
    · subst hji; exact hy.wpOp hi hS ⟨.inr hS, H⟩
    · have := ready_mono hj hji
      rw [H.1] at this
      cases this
  | succ fuel ih =>
    intro listed a w hfree hr hy hS H
    refine ⟨fun h => (by rw [h] at hr; cases hr), fun j hj => ?_⟩
    by_cases hji : j = i
    · subst hji; exact hy.wpOp hi hS ⟨.inr hS, H⟩
    · have h1 := H.2 j (ready_mono hj hji)
      obtain ⟨hjun, oj, hoj, hall⟩ := mem_ready.1 hj
      have hnot : ∀ e ∈ oj.after, Region.binds md e = true → e.on ≠ i := fun e he hb heq => by
        have h1 := hall e he hb
        have h0 := (mem_ready.1 hr).1
        rw [heq] at h1
        rcases Nat.lt_or_ge i listed.size with h' | h'
        · simp [h'] at h0 h1; rw [h0] at h1; cases h1
        · simp [Array.getElem?_eq_none h'] at h1
      have hjL : j ≠ L := fun q => by rw [q, hL] at hoj; cases hoj
      have h2 := wpOp_putIf hoj (hfree j oj hoj hji hjun hnot) (fun cs b => hsel i oi cs b hi) (fun cs b => hsel j oj cs b hoj) hQ hy h1
      have hfree' : ∀ k ok, ops[k]? = some ok → k ≠ i → (listed.setIfInBounds j true).getD k true = false →
          (∀ e ∈ ok.after, Region.binds md e = true → e.on ≠ i) → oi.apart ops ok = true := fun k ok hk hki hun hno => by
        refine hfree k ok hk hki ?_ hno
        by_cases hjk : j = k
        · subst hjk; exact hjun
        · rw [getD_set_ne true hjk] at hun; exact hun
      refine wpOp_mono (fun a' w' h3 => ⟨h3.2.1, ih (listed.setIfInBounds j true) a' w' hfree' (ready_mono hr (Ne.symm hji)) h3.1 (h3.2.1.resolve_left hjL) ?_⟩) h2
      rw [Array.setIfInBounds_comm _ _ hji]
      exact h3.2.2
theorem anyT_takeN {i : Nat} {oi : Oper} {v : Value} {fuel : Nat} {listed : Array Bool} {a : Act} {w : World} (hi : ops[i]? = some oi)
    (hs : Region.noSelect ops = true) (hf : Region.free md ops listed i = true) (hr : (Region.ready md ops listed).contains i = true) (hL : ops[L]? = none)
    (hQ : ∀ c a w, Q (.panic c) (a.put oi.dst v) w → Q (.panic c) a w) (hy : YieldsIf P ops S oi v a) (hS : S w)
    (h : AnyT P md ops Q S L fuel (listed.setIfInBounds i true) (a.put oi.dst v) w) : AnyT P md ops Q S L (fuel + 1) listed a w :=
  anyT_firstN hi (Region.noSelect_spec hs) hQ hL fuel listed a w (Region.free_spec hi hf) (by simpa using hr) hy hS h
end
end Go.Proofs.YtgiigiegjaagbaaDoor

/-
  Relations between places: matrices of bools in memory.
-/
namespace Go.Proofs.YtgiigiegjaagbaaDoor
open Go.ChangeShapes Go.WideShapes Go.ChangeAt Go.RowKit Go.Deep
set_option linter.unusedVariables false
set_option linter.unusedSimpArgs false
set_option maxRecDepth 100000

abbrev slV (r n c : Nat) : Value := .slice (some ⟨r, 0, none⟩) n c
def bsV (N : Nat) (f : Nat → Bool) : List Value := (List.range N).map (fun j => .bool (f j))
theorem bsV_len (N : Nat) (f : Nat → Bool) : (bsV N f).length = N := by simp [bsV]
theorem bsV_get {N : Nat} {f : Nat → Bool} {j : Nat} (h : j < N) : (bsV N f)[j]? = some (.bool (f j)) := by simp [bsV, h]
def upd1 (f : Nat → Bool) (j : Nat) (b : Bool) : Nat → Bool := fun x => if x = j then b else f x
def upd2 (f : Nat → Nat → Bool) (i j : Nat) (b : Bool) : Nat → Nat → Bool := fun x y => if x = i ∧ y = j then b else f x y
theorem bsV_set {N : Nat} {f : Nat → Bool} {j : Nat} {b : Bool} (h : j < N) : (bsV N f).set j (.bool b) = bsV N (upd1 f j b) := by
  apply List.ext_getElem?
  intro i
  rcases Nat.lt_or_ge i N with hi | hi
  · rw [bsV_get hi]
    by_cases e : i = j
    · subst e; rw [List.getElem?_set_self (by rw [bsV_len]; exact hi)]; simp [upd1]
    · rw [List.getElem?_set_ne (fun q => e q.symm), bsV_get hi]; simp [upd1, e]
  · rw [List.getElem?_eq_none (by simp [bsV_len]; exact hi), List.getElem?_eq_none (by simp [bsV_len]; exact hi)]
def BRow (w : World) (base r c N : Nat) (f : Nat → Bool) : Prop := w.ownsRow base 4 1 (slV r N c) N (bsV N f)
def rowsV (N k : Nat) (ρ γ : Nat → Nat) : List Value := (List.range k).map (fun i => slV (ρ i) N (γ i))
def ORow (w : World) (base g cp N k : Nat) (ρ γ : Nat → Nat) : Prop := w.ownsRow base 42 1 (slV g k cp) k (rowsV N k ρ γ)
theorem BRow.lt {w : World} {base r c N : Nat} {f : Nat → Bool} (h : BRow w base r c N f) : base ≤ r ∧ r < w.heap.size := World.ownsRow.lt h r rfl
theorem ORow.lt {w : World} {base g cp N k : Nat} {ρ γ : Nat → Nat} (h : ORow w base g cp N k ρ γ) : base ≤ g ∧ g < w.heap.size := World.ownsRow.lt h g rfl
theorem BRow.chg {S : Nat → Prop} {w w' : World} {base r c N : Nat} {f : Nat → Bool} (h : BRow w base r c N f) (hc : Chg S w w') (hn : ¬ S r) : BRow w' base r c N f := own_chg h hc (fun k hk => by simp [Value.ownBlock] at hk; subst hk; exact hn)
theorem ORow.chg {S : Nat → Prop} {w w' : World} {base g cp N k : Nat} {ρ γ : Nat → Nat} (h : ORow w base g cp N k ρ γ) (hc : Chg S w w') (hn : ¬ S g) : ORow w' base g cp N k ρ γ := own_chg h hc (fun k hk => by simp [Value.ownBlock] at hk; subst hk; exact hn)
theorem BRow.off {w : World} {base r c N base' g cp N' k : Nat} {f : Nat → Bool} {ρ γ : Nat → Nat} (h : BRow w base r c N f) (h' : ORow w base' g cp N' k ρ γ) : r ≠ g := fun q => own_apart h h' (by decide) r rfl (by rw [q]; rfl)
theorem BRow.caps {w : World} {base r c N : Nat} {f : Nat → Bool} (h : BRow w base r c N f) : N ≤ c ∧ c ≤ maxLen := by
  rcases h.2 with ⟨h0, _⟩ | ⟨g', cap', cur, hv, _, _, hn, hcap, _, _⟩
  · cases h0
  · simp only [Value.slice.injEq, Option.some.injEq, Addr.mk.injEq, and_true, true_and] at hv
    obtain ⟨rfl, rfl⟩ := hv
    exact ⟨hn, hcap⟩
theorem ORow.caps {w : World} {base g cp N k : Nat} {ρ γ : Nat → Nat} (h : ORow w base g cp N k ρ γ) : k ≤ cp ∧ cp ≤ maxLen := by
  rcases h.2 with ⟨h0, _⟩ | ⟨g', cap', cur, hv, _, _, hn, hcap, _, _⟩
  · cases h0
  · simp only [Value.slice.injEq, Option.some.injEq, Addr.mk.injEq, and_true, true_and] at hv
    obtain ⟨rfl, rfl⟩ := hv
    exact ⟨hn, hcap⟩
/-- k rows of N bools each. -/
structure MatO (w : World) (base g cp N k : Nat) (ρ γ : Nat → Nat) (f : Nat → Nat → Bool) : Prop where
  out : ORow w base g cp N k ρ γ
  row : ∀ i, i < k → BRow w base (ρ i) (γ i) N (f i)
  inj : ∀ i j, i < k → j < k → i ≠ j → ρ i ≠ ρ j
theorem MatO.chg {S : Nat → Prop} {w w' : World} {base g cp N k : Nat} {ρ γ : Nat → Nat} {f : Nat → Nat → Bool} (h : MatO w base g cp N k ρ γ f) (hc : Chg S w w') (h1 : ¬ S g) (h2 : ∀ i, i < k → ¬ S (ρ i)) : MatO w' base g cp N k ρ γ f :=
  ⟨h.out.chg hc h1, fun i hi => (h.row i hi).chg hc (h2 i hi), h.inj⟩
theorem MatO.below {w w' : World} {base g cp N k : Nat} {ρ γ : Nat → Nat} {f : Nat → Nat → Bool} (h : MatO w base g cp N k ρ γ f) (hb : Below w.heap.size w w') : MatO w' base g cp N k ρ γ f := h.chg (S := fun _ => False) (Chg.of_below hb) (fun q => q) (fun _ _ q => q)
theorem MatO.cell {w : World} {base g cp N k : Nat} {ρ γ : Nat → Nat} {f : Nat → Nat → Bool} (h : MatO w base g cp N k ρ γ f) {i : Nat} (hi : i < k) : w.cell? ⟨g, i, none⟩ = some (slV (ρ i) N (γ i)) := by
  rw [World.ownsRow.cellAt h.out i (by omega)]
  simp [rowsV, hi]
theorem BRow.cell {w : World} {base r c N : Nat} {f : Nat → Bool} (h : BRow w base r c N f) {j : Nat} (hj : j < N) : w.cell? ⟨r, j, none⟩ = some (.bool (f j)) := by
  rw [World.ownsRow.cellAt h j (by omega), bsV_get hj]
theorem BRow.set {w : World} {base r c N : Nat} {f : Nat → Bool} (h : BRow w base r c N f) {j : Nat} (hj : j < N) (b : Bool) : BRow (w.setCell ⟨r, j, none⟩ (.bool b)) base r c N (upd1 f j b) := by
  have := (World.ownsRow.stored h j (.bool b)).1
  rw [bsV_set hj] at this
  exact this
theorem MatO.set {w : World} {base g cp N k : Nat} {ρ γ : Nat → Nat} {f : Nat → Nat → Bool} (h : MatO w base g cp N k ρ γ f) {i j : Nat} (hi : i < k) (hj : j < N) (b : Bool) : MatO (w.setCell ⟨ρ i, j, none⟩ (.bool b)) base g cp N k ρ γ (upd2 f i j b) := by
  have hset : Chg (fun x => x = ρ i) w (w.setCell ⟨ρ i, j, none⟩ (.bool b)) := Chg.of_set _ _ _ _ rfl
  refine ⟨h.out.chg hset (fun q => (h.row i hi).off h.out q.symm), fun x hx => ?_, h.inj⟩
  by_cases e : x = i
  · subst e
    have h9 := (h.row x hx).set hj b
    have e2 : upd1 (f x) j b = upd2 f x j b x := by funext y; simp [upd1, upd2]
    rw [e2] at h9
    exact h9
  · have h9 := (h.row x hx).chg hset (h.inj x i hx hi e)
    have e2 : f x = upd2 f i j b x := by funext y; simp [upd2, e]
    rw [e2] at h9
    exact h9
/-- A matrix that is only read. -/
structure MatR (w : World) (g N : Nat) (ρ γ : Nat → Nat) (f : Nat → Nat → Bool) : Prop where
  lt : g < w.heap.size
  out : ∀ i, i < N → w.cell? ⟨g, i, none⟩ = some (slV (ρ i) N (γ i))
  rlt : ∀ i, i < N → ρ i < w.heap.size
  row : ∀ i j, i < N → j < N → w.cell? ⟨ρ i, j, none⟩ = some (.bool (f i j))
  cap : ∀ i, i < N → N ≤ γ i ∧ γ i ≤ maxLen
theorem MatO.read {w : World} {base g cp N : Nat} {ρ γ : Nat → Nat} {f : Nat → Nat → Bool} (h : MatO w base g cp N N ρ γ f) : MatR w g N ρ γ f :=
  ⟨h.out.lt.2, fun i hi => h.cell hi, fun i hi => (h.row i hi).lt.2, fun i j hi hj => (h.row i hi).cell hj, fun i hi => (h.row i hi).caps⟩
theorem MatR.below {B : Nat} {w w' : World} {g N : Nat} {ρ γ : Nat → Nat} {f : Nat → Nat → Bool} (h : MatR w g N ρ γ f) (hb : Below B w w') (hB : w.heap.size ≤ B) : MatR w' g N ρ γ f :=
  ⟨Nat.lt_of_lt_of_le h.lt hb.size, fun i hi => by rw [hb.cell (p := ⟨g, i, none⟩) (Nat.lt_of_lt_of_le h.lt hB)]; exact h.out i hi, fun i hi => Nat.lt_of_lt_of_le (h.rlt i hi) hb.size, fun i j hi hj => by rw [hb.cell (p := ⟨ρ i, j, none⟩) (Nat.lt_of_lt_of_le (h.rlt i hi) hB)]; exact h.row i j hi hj, h.cap⟩
/-- What a function over relations hands out: rows of its own. -/
def MaP (N : Nat) (f : Nat → Nat → Bool) (w : World) (r : Ending) (w' : World) : Prop := ∃ g cp ρ γ, r = .returned (slV g N cp) ∧ Hid (MatO w' w.heap.size g cp N N ρ γ f) ∧ Below w.heap.size w w'
theorem Tryd.infoBo : (Tryd.prog.info? 4).map (fun i => (i.zero, i.size, i.bytes)) = some (some (.bool false), 1, 1) := by kernel_rfl
theorem Tryd.infoBoS : (Tryd.prog.info? 42).map (fun i => (i.zero, i.size, i.bytes)) = some (some (.slice none 0 0), 1, 24) := by kernel_rfl
/-- One bool appended to a row. -/
theorem wpList_append_bo {ops : Array Oper} {rest : List Oper} {o : Oper} {a : Act} {Q : Exit → Act → World → Prop} (w : World) (hgd : o.guard = none) (s x : Operand)
    (ho : o.op = .call { callee := .builtin .append, args := #[s, x], argTypes := #[42, 42] })
    (base r c k b cx : Nat) (f : Nat → Bool) (v : Bool) (hs : a.eval s = slV r k c) (hx : a.eval x = .slice (some ⟨b, 0, none⟩) 1 cx) (hO : BRow w base r c k f)
    (hc : w.cell? ⟨b, 0, none⟩ = some (.bool v)) (hf : f k = v) (hlen : k ≤ 2 ^ 20) (hbase : base ≤ w.heap.size)
    (h : ∀ r' c' w', BRow w' base r' c' (k + 1) f → w.grownBy w' (some r) → (r' = r ∨ r' = w.heap.size) → wpList Tryd.prog ops Q rest (a.put o.dst (slV r' (k + 1) c')) w') : wpList Tryd.prog ops Q (o :: rest) a w := by
  obtain ⟨i, hi, hz0, hz1, hz2⟩ := info_parts Tryd.infoBo
  refine wpList_append_own_at w hgd s x 42 ho base 4 i _ 1 1 Tryd.underlying42 hi hz0 hz1 hz2 rfl (by decide) (slV r k c) k (bsV k f) hs hO ⟨b, 0, none⟩ 1 cx [.bool v] hx rfl (fun j u hu => ?_) (fun u hu => by simp at hu; subst hu; rfl) ?_ ?_ hbase ?_
  · match j, hu with
    | 0, hu => cases hu; exact hc
  · unfold maxLen; omega
  · omega
  · intro v' w' hO' hgr hnil hat
    rcases hO'.2 with ⟨h0, _⟩ | ⟨g', cap', cur, hv, _, _, hn, hcap, _, _⟩
    · have := (hnil.1 h0).1
      cases this
    · subst hv
      refine h g' cap' w' ?_ hgr ?_
      · have e : bsV k f ++ [.bool v] = bsV (k + 1) f := by simp [bsV, List.range_succ, hf]
        rw [e] at hO'
        exact hO'
      · simp [Value.ownBlock] at hat
        exact hat
/-- One row appended. -/
theorem wpList_append_row {ops : Array Oper} {rest : List Oper} {o : Oper} {a : Act} {Q : Exit → Act → World → Prop} (w : World) (hgd : o.guard = none) (s x : Operand)
    (ho : o.op = .call { callee := .builtin .append, args := #[s, x], argTypes := #[43, 43] })
    (base g cp N k b cx r c : Nat) (ρ γ : Nat → Nat) (hs : a.eval s = slV g k cp) (hx : a.eval x = .slice (some ⟨b, 0, none⟩) 1 cx) (hO : ORow w base g cp N k ρ γ)
    (hc : w.cell? ⟨b, 0, none⟩ = some (slV r N c)) (hr : ρ k = r) (hg : γ k = c) (hlen : k ≤ 2 ^ 20) (hbase : base ≤ w.heap.size)
    (h : ∀ g' cp' w', ORow w' base g' cp' N (k + 1) ρ γ → w.grownBy w' (some g) → (g' = g ∨ g' = w.heap.size) → wpList Tryd.prog ops Q rest (a.put o.dst (slV g' (k + 1) cp')) w') : wpList Tryd.prog ops Q (o :: rest) a w := by
  obtain ⟨i, hi, hz0, hz1, hz2⟩ := info_parts Tryd.infoBoS
  refine wpList_append_own_at w hgd s x 43 ho base 42 i _ 1 24 Tryd.underlying43 hi hz0 hz1 hz2 rfl (by decide) (slV g k cp) k (rowsV N k ρ γ) hs hO ⟨b, 0, none⟩ 1 cx [slV r N c] hx rfl (fun j u hu => ?_) (fun u hu => by simp at hu; subst hu; rfl) ?_ ?_ hbase ?_
  · match j, hu with
    | 0, hu => cases hu; exact hc
  · unfold maxLen; omega
  · omega
  · intro v' w' hO' hgr hnil hat
    rcases hO'.2 with ⟨h0, _⟩ | ⟨g', cap', cur, hv, _, _, hn, hcap, _, _⟩
    · have := (hnil.1 h0).1
      cases this
    · subst hv
      refine h g' cap' w' ?_ hgr ?_
      · have e : rowsV N k ρ γ ++ [slV r N c] = rowsV N (k + 1) ρ γ := by simp [rowsV, List.range_succ, hr, hg]
        rw [e] at hO'
        exact hO'
      · simp [Value.ownBlock] at hat
        exact hat
end Go.Proofs.YtgiigiegjaagbaaDoor

/-
  Sets of positions: with.
-/
namespace Go.Proofs.YtgiigiegjaagbaaDoor
open Go.ChangeShapes Go.WideShapes Go.ChangeAt Go.RowKit Go.Deep
set_option linter.unusedVariables false
set_option linter.unusedSimpArgs false
set_option maxRecDepth 100000

theorem shl_u64 (n : Nat) (h : n < 64) : IntKind.u64.wrap (2 ^ n) = ((2 ^ n : Nat) : Int) := by
  have hp : 2 ^ n < 18446744073709551616 := Nat.pow_lt_pow_right (a := 2) (by decide) h
  rw [IntKind.wrap_u64]
  have e : ((2 : Int) ^ n) = ((2 ^ n : Nat) : Int) := by simp
  rw [e]; exact Int.emod_eq_of_lt (Int.natCast_nonneg _) (Int.ofNat_lt.2 hp)
set_option maxHeartbeats 4000000 in
theorem with_0 (S : PS) (a : Nat) (ha : a / 64 = 0) (w : World) : Calls Tryd.prog 40 #[psV S, .int .i64 (a : Int)] w fun e w' => e = .returned (psV (sOr S (sOne a))) ∧ Below w.heap.size w w' := by
  have za : a < 256 := by omega
  have zq : (a : Int).tdiv 64 = 0 := by rw [Int.tdiv_eq_ediv_of_nonneg (by omega)]; omega
  have zr : (a : Int).tmod 64 = ((a % 64 : Nat) : Int) := by rw [Int.tmod_eq_emod_of_nonneg (by omega)]; omega
  obtain ⟨n, hn⟩ : ∃ n, n = a % 64 := ⟨_, rfl⟩
  rw [← hn] at zr
  have zn : n < 64 := by omega
  have zs := shl_u64 n zn
  have zn0 : ¬ (n : Int) < 0 := by omega
  have zwi : IntKind.i64.wrap (0 : Int) = 0 := by rfl
  have zwn : IntKind.i64.wrap (n : Int) = n := by simp [IntKind.wrap, IntKind.bits, IntKind.signed]; omega
  have wo := wd_with S a 0 ha.symm
  rw [← hn, show ((2 ^ n : Nat) : Int) = (2 : Int) ^ n by simp] at wo
  have w1 := wd_other S a 1 (by omega)
  have w2 := wd_other S a 2 (by omega)
  have w3 := wd_other S a 3 (by omega)
  have HW : Hid (bits .or .u64 (wdN S 0 : Int) ((2 : Int) ^ n) = ((wdN (sOr S (sOne a)) 0 : Nat) : Int) ∧ (∀ j, ¬ j = 0 → wdN (sOr S (sOne a)) j = wdN S j)) := ⟨wo, fun j hj => wd_other S a j (by omega)⟩
  clear hn ha wo w1 w2 w3
  go_enter Tryd.func40, Tryd.ntmps40
  go_upto_region 1 with fail
  refine wp_region_T 9 (fun wz => wz.cell? ⟨w.heap.size, 0, none⟩ = some (.int .u64 (wdN S 0 : Int))) (by kernel_rfl) ?_
  refine anyT_take (i := 0) (v := ?va0) rfl (by kernel_rfl) (by kernel_rfl) (by kernel_rfl) (by kernel_rfl) (by decide) (fun _ _ _ h => h) (Or.inl ⟨by rfl, ?ya0⟩) (by simp) ?_
  case ya0 => (intro wz hSw; go_simp; (try simp only [zq, zr, zs, zwi, zwn, HW.out.1]); (try with_reducible rfl))
  try simp only [Act.put, List.getElem_toArray, List.getElem_cons_zero, List.getElem_cons_succ, List.setIfInBounds_toArray, List.set_cons_zero, List.set_cons_succ]
  refine anyT_take (i := 1) (v := .int .i64 0) rfl (by kernel_rfl) (by kernel_rfl) (by kernel_rfl) (by kernel_rfl) (by decide) (fun _ _ _ h => h) (Or.inl ⟨by rfl, ?ya1⟩) (by simp) ?_
  case ya1 => (intro wz hSw; go_simp; (try simp only [zq, zr, zs, zwi, zwn, HW.out.1]); (try with_reducible rfl))
  try simp only [Act.put, List.getElem_toArray, List.getElem_cons_zero, List.getElem_cons_succ, List.setIfInBounds_toArray, List.set_cons_zero, List.set_cons_succ]
  refine anyT_take (i := 2) (v := ?va2) rfl (by kernel_rfl) (by kernel_rfl) (by kernel_rfl) (by kernel_rfl) (by decide) (fun _ _ _ h => h) (Or.inl ⟨by rfl, ?ya2⟩) (by simp) ?_
  case ya2 => (intro wz hSw; go_simp; (try simp only [zq, zr, zs, zwi, zwn, HW.out.1]); (try with_reducible rfl))
  try simp only [Act.put, List.getElem_toArray, List.getElem_cons_zero, List.getElem_cons_succ, List.setIfInBounds_toArray, List.set_cons_zero, List.set_cons_succ]
  refine anyT_take (i := 3) (v := ?va3) rfl (by kernel_rfl) (by kernel_rfl) (by kernel_rfl) (by kernel_rfl) (by decide) (fun _ _ _ h => h) (Or.inl ⟨by rfl, ?ya3⟩) (by simp) ?_
  case ya3 => (intro wz hSw; go_simp; (try simp only [zq, zr, zs, zwi, zwn, HW.out.1]); (try with_reducible rfl))
  try simp only [Act.put, List.getElem_toArray, List.getElem_cons_zero, List.getElem_cons_succ, List.setIfInBounds_toArray, List.set_cons_zero, List.set_cons_succ]
  refine anyT_take (i := 4) (v := ?va4) rfl (by kernel_rfl) (by kernel_rfl) (by kernel_rfl) (by kernel_rfl) (by decide) (fun _ _ _ h => h) (Or.inl ⟨by rfl, ?ya4⟩) (by simp) ?_
  case ya4 => (intro wz hSw; go_simp; (try simp only [zq, zr, zs, zwi, zwn, HW.out.1]); (try with_reducible rfl))
  try simp only [Act.put, List.getElem_toArray, List.getElem_cons_zero, List.getElem_cons_succ, List.setIfInBounds_toArray, List.set_cons_zero, List.set_cons_succ]
  refine anyT_take (i := 5) (v := .int .i64 (n : Int)) rfl (by kernel_rfl) (by kernel_rfl) (by kernel_rfl) (by kernel_rfl) (by decide) (fun _ _ _ h => h) (Or.inl ⟨by rfl, ?ya5⟩) (by simp) ?_
  case ya5 => (intro wz hSw; go_simp; (try simp only [zq, zr, zs, zwi, zwn, HW.out.1]); (try with_reducible rfl))
  try simp only [Act.put, List.getElem_toArray, List.getElem_cons_zero, List.getElem_cons_succ, List.setIfInBounds_toArray, List.set_cons_zero, List.set_cons_succ]
  refine anyT_take (i := 6) (v := ?va6) rfl (by kernel_rfl) (by kernel_rfl) (by kernel_rfl) (by kernel_rfl) (by decide) (fun _ _ _ h => h) (Or.inl ⟨by rfl, ?ya6⟩) (by simp) ?_
  case ya6 => (intro wz hSw; go_simp; (try simp only [zq, zr, zs, zwi, zwn, HW.out.1]); (try with_reducible rfl))
  try simp only [Act.put, List.getElem_toArray, List.getElem_cons_zero, List.getElem_cons_succ, List.setIfInBounds_toArray, List.set_cons_zero, List.set_cons_succ]
  refine anyT_take (i := 7) (v := ?va7) rfl (by kernel_rfl) (by kernel_rfl) (by kernel_rfl) (by kernel_rfl) (by decide) (fun _ _ _ h => h) (Or.inl ⟨by rfl, ?ya7⟩) (by simp) ?_
  case ya7 => (intro wz hSw; go_simp; (try simp only [zq, zr, zs, zwi, zwn, HW.out.1]); (try with_reducible rfl))
  try simp only [Act.put, List.getElem_toArray, List.getElem_cons_zero, List.getElem_cons_succ, List.setIfInBounds_toArray, List.set_cons_zero, List.set_cons_succ]
  refine anyT_take (i := 8) (v := ?va8) rfl (by kernel_rfl) (by kernel_rfl) (by kernel_rfl) (by kernel_rfl) (by decide) (fun _ _ _ h => h) (Or.inl ⟨by rfl, ?ya8⟩) (by simp) ?_
  case ya8 => (intro wz hSw; go_simp; (try with_reducible rfl))
  try simp only [Act.put, List.getElem_toArray, List.getElem_cons_zero, List.getElem_cons_succ, List.setIfInBounds_toArray, List.set_cons_zero, List.set_cons_succ]
  refine anyT_one (i := 9) (by kernel_rfl) rfl (fun K hK => ?_)
  go_simp
  refine hK.out _ _ (.inl rfl) ?_
  clear hK
  try simp only [Act.put, List.getElem_toArray, List.getElem_cons_zero, List.getElem_cons_succ, List.setIfInBounds_toArray, List.set_cons_zero, List.set_cons_succ]
  refine anyT_done (by kernel_rfl) ?_

  go_wp2_with fail
  refine bodyPost_ret (v := psV (sOr S (sOne a))) (by simp [results, Tryd.results40, go_sem, HW.out.2]) rfl ⟨rfl, ?_⟩
  repeat (first | exact Below.refl _ _ | refine Below.drew ?_ | refine Below.alloc ?_ (by simp; done) _ | refine Below.alloc ?_ (Nat.le_refl _) _ | refine Below.alloc ?_ (by simp; omega) _)
set_option maxHeartbeats 4000000 in
theorem with_1 (S : PS) (a : Nat) (ha : a / 64 = 1) (w : World) : Calls Tryd.prog 40 #[psV S, .int .i64 (a : Int)] w fun e w' => e = .returned (psV (sOr S (sOne a))) ∧ Below w.heap.size w w' := by
  have za : a < 256 := by omega
  have zq : (a : Int).tdiv 64 = 1 := by rw [Int.tdiv_eq_ediv_of_nonneg (by omega)]; omega
  have zr : (a : Int).tmod 64 = ((a % 64 : Nat) : Int) := by rw [Int.tmod_eq_emod_of_nonneg (by omega)]; omega
  obtain ⟨n, hn⟩ : ∃ n, n = a % 64 := ⟨_, rfl⟩
  rw [← hn] at zr
  have zn : n < 64 := by omega
  have zs := shl_u64 n zn
  have zn0 : ¬ (n : Int) < 0 := by omega
  have zwi : IntKind.i64.wrap (1 : Int) = 1 := by rfl
  have zwn : IntKind.i64.wrap (n : Int) = n := by simp [IntKind.wrap, IntKind.bits, IntKind.signed]; omega
  have wo := wd_with S a 1 ha.symm
  rw [← hn, show ((2 ^ n : Nat) : Int) = (2 : Int) ^ n by simp] at wo
  have w0 := wd_other S a 0 (by omega)
  have w2 := wd_other S a 2 (by omega)
  have w3 := wd_other S a 3 (by omega)
  have HW : Hid (bits .or .u64 (wdN S 1 : Int) ((2 : Int) ^ n) = ((wdN (sOr S (sOne a)) 1 : Nat) : Int) ∧ (∀ j, ¬ j = 1 → wdN (sOr S (sOne a)) j = wdN S j)) := ⟨wo, fun j hj => wd_other S a j (by omega)⟩
  clear hn ha wo w0 w2 w3
  go_enter Tryd.func40, Tryd.ntmps40
  go_upto_region 1 with fail
  refine wp_region_T 9 (fun wz => wz.cell? ⟨w.heap.size, 1, none⟩ = some (.int .u64 (wdN S 1 : Int))) (by kernel_rfl) ?_
  refine anyT_take (i := 0) (v := ?va0) rfl (by kernel_rfl) (by kernel_rfl) (by kernel_rfl) (by kernel_rfl) (by decide) (fun _ _ _ h => h) (Or.inl ⟨by rfl, ?ya0⟩) (by simp) ?_
  case ya0 => (intro wz hSw; go_simp; (try simp only [zq, zr, zs, zwi, zwn, HW.out.1]); (try with_reducible rfl))
  try simp only [Act.put, List.getElem_toArray, List.getElem_cons_zero, List.getElem_cons_succ, List.setIfInBounds_toArray, List.set_cons_zero, List.set_cons_succ]
  refine anyT_take (i := 1) (v := .int .i64 1) rfl (by kernel_rfl) (by kernel_rfl) (by kernel_rfl) (by kernel_rfl) (by decide) (fun _ _ _ h => h) (Or.inl ⟨by rfl, ?ya1⟩) (by simp) ?_
  case ya1 => (intro wz hSw; go_simp; (try simp only [zq, zr, zs, zwi, zwn, HW.out.1]); (try with_reducible rfl))
  try simp only [Act.put, List.getElem_toArray, List.getElem_cons_zero, List.getElem_cons_succ, List.setIfInBounds_toArray, List.set_cons_zero, List.set_cons_succ]
  refine anyT_take (i := 2) (v := ?va2) rfl (by kernel_rfl) (by kernel_rfl) (by kernel_rfl) (by kernel_rfl) (by decide) (fun _ _ _ h => h) (Or.inl ⟨by rfl, ?ya2⟩) (by simp) ?_
  case ya2 => (intro wz hSw; go_simp; (try simp only [zq, zr, zs, zwi, zwn, HW.out.1]); (try with_reducible rfl))
  try simp only [Act.put, List.getElem_toArray, List.getElem_cons_zero, List.getElem_cons_succ, List.setIfInBounds_toArray, List.set_cons_zero, List.set_cons_succ]
  refine anyT_take (i := 3) (v := ?va3) rfl (by kernel_rfl) (by kernel_rfl) (by kernel_rfl) (by kernel_rfl) (by decide) (fun _ _ _ h => h) (Or.inl ⟨by rfl, ?ya3⟩) (by simp) ?_
  case ya3 => (intro wz hSw; go_simp; (try simp only [zq, zr, zs, zwi, zwn, HW.out.1]); (try with_reducible rfl))
  try simp only [Act.put, List.getElem_toArray, List.getElem_cons_zero, List.getElem_cons_succ, List.setIfInBounds_toArray, List.set_cons_zero, List.set_cons_succ]
  refine anyT_take (i := 4) (v := ?va4) rfl (by kernel_rfl) (by kernel_rfl) (by kernel_rfl) (by kernel_rfl) (by decide) (fun _ _ _ h => h) (Or.inl ⟨by rfl, ?ya4⟩) (by simp) ?_
  case ya4 => (intro wz hSw; go_simp; (try simp only [zq, zr, zs, zwi, zwn, HW.out.1]); (try with_reducible rfl))
  try simp only [Act.put, List.getElem_toArray, List.getElem_cons_zero, List.getElem_cons_succ, List.setIfInBounds_toArray, List.set_cons_zero, List.set_cons_succ]
  refine anyT_take (i := 5) (v := .int .i64 (n : Int)) rfl (by kernel_rfl) (by kernel_rfl) (by kernel_rfl) (by kernel_rfl) (by decide) (fun _ _ _ h => h) (Or.inl ⟨by rfl, ?ya5⟩) (by simp) ?_
  case ya5 => (intro wz hSw; go_simp; (try simp only [zq, zr, zs, zwi, zwn, HW.out.1]); (try with_reducible rfl))
  try simp only [Act.put, List.getElem_toArray, List.getElem_cons_zero, List.getElem_cons_succ, List.setIfInBounds_toArray, List.set_cons_zero, List.set_cons_succ]
  refine anyT_take (i := 6) (v := ?va6) rfl (by kernel_rfl) (by kernel_rfl) (by kernel_rfl) (by kernel_rfl) (by decide) (fun _ _ _ h => h) (Or.inl ⟨by rfl, ?ya6⟩) (by simp) ?_
  case ya6 => (intro wz hSw; go_simp; (try simp only [zq, zr, zs, zwi, zwn, HW.out.1]); (try with_reducible rfl))
  try simp only [Act.put, List.getElem_toArray, List.getElem_cons_zero, List.getElem_cons_succ, List.setIfInBounds_toArray, List.set_cons_zero, List.set_cons_succ]
  refine anyT_take (i := 7) (v := ?va7) rfl (by kernel_rfl) (by kernel_rfl) (by kernel_rfl) (by kernel_rfl) (by decide) (fun _ _ _ h => h) (Or.inl ⟨by rfl, ?ya7⟩) (by simp) ?_
  case ya7 => (intro wz hSw; go_simp; (try simp only [zq, zr, zs, zwi, zwn, HW.out.1]); (try with_reducible rfl))
  try simp only [Act.put, List.getElem_toArray, List.getElem_cons_zero, List.getElem_cons_succ, List.setIfInBounds_toArray, List.set_cons_zero, List.set_cons_succ]
  refine anyT_take (i := 8) (v := ?va8) rfl (by kernel_rfl) (by kernel_rfl) (by kernel_rfl) (by kernel_rfl) (by decide) (fun _ _ _ h => h) (Or.inl ⟨by rfl, ?ya8⟩) (by simp) ?_
  case ya8 => (intro wz hSw; go_simp; (try with_reducible rfl))
  try simp only [Act.put, List.getElem_toArray, List.getElem_cons_zero, List.getElem_cons_succ, List.setIfInBounds_toArray, List.set_cons_zero, List.set_cons_succ]
  refine anyT_one (i := 9) (by kernel_rfl) rfl (fun K hK => ?_)
  go_simp
  refine hK.out _ _ (.inl rfl) ?_
  clear hK
  try simp only [Act.put, List.getElem_toArray, List.getElem_cons_zero, List.getElem_cons_succ, List.setIfInBounds_toArray, List.set_cons_zero, List.set_cons_succ]
  refine anyT_done (by kernel_rfl) ?_

  go_wp2_with fail
  refine bodyPost_ret (v := psV (sOr S (sOne a))) (by simp [results, Tryd.results40, go_sem, HW.out.2]) rfl ⟨rfl, ?_⟩
  repeat (first | exact Below.refl _ _ | refine Below.drew ?_ | refine Below.alloc ?_ (by simp; done) _ | refine Below.alloc ?_ (Nat.le_refl _) _ | refine Below.alloc ?_ (by simp; omega) _)
set_option maxHeartbeats 4000000 in
theorem with_2 (S : PS) (a : Nat) (ha : a / 64 = 2) (w : World) : Calls Tryd.prog 40 #[psV S, .int .i64 (a : Int)] w fun e w' => e = .returned (psV (sOr S (sOne a))) ∧ Below w.heap.size w w' := by
  have za : a < 256 := by omega
  have zq : (a : Int).tdiv 64 = 2 := by rw [Int.tdiv_eq_ediv_of_nonneg (by omega)]; omega
  have zr : (a : Int).tmod 64 = ((a % 64 : Nat) : Int) := by rw [Int.tmod_eq_emod_of_nonneg (by omega)]; omega
  obtain ⟨n, hn⟩ : ∃ n, n = a % 64 := ⟨_, rfl⟩
  rw [← hn] at zr
  have zn : n < 64 := by omega
  have zs := shl_u64 n zn
  have zn0 : ¬ (n : Int) < 0 := by omega
  have zwi : IntKind.i64.wrap (2 : Int) = 2 := by rfl
  have zwn : IntKind.i64.wrap (n : Int) = n := by simp [IntKind.wrap, IntKind.bits, IntKind.signed]; omega
  have wo := wd_with S a 2 ha.symm
  rw [← hn, show ((2 ^ n : Nat) : Int) = (2 : Int) ^ n by simp] at wo
  have w0 := wd_other S a 0 (by omega)
  have w1 := wd_other S a 1 (by omega)
  have w3 := wd_other S a 3 (by omega)
  have HW : Hid (bits .or .u64 (wdN S 2 : Int) ((2 : Int) ^ n) = ((wdN (sOr S (sOne a)) 2 : Nat) : Int) ∧ (∀ j, ¬ j = 2 → wdN (sOr S (sOne a)) j = wdN S j)) := ⟨wo, fun j hj => wd_other S a j (by omega)⟩
  clear hn ha wo w0 w1 w3
  go_enter Tryd.func40, Tryd.ntmps40
  go_upto_region 1 with fail
  refine wp_region_T 9 (fun wz => wz.cell? ⟨w.heap.size, 2, none⟩ = some (.int .u64 (wdN S 2 : Int))) (by kernel_rfl) ?_
  refine anyT_take (i := 0) (v := ?va0) rfl (by kernel_rfl) (by kernel_rfl) (by kernel_rfl) (by kernel_rfl) (by decide) (fun _ _ _ h => h) (Or.inl ⟨by rfl, ?ya0⟩) (by simp) ?_
  case ya0 => (intro wz hSw; go_simp; (try simp only [zq, zr, zs, zwi, zwn, HW.out.1]); (try with_reducible rfl))
  try simp only [Act.put, List.getElem_toArray, List.getElem_cons_zero, List.getElem_cons_succ, List.setIfInBounds_toArray, List.set_cons_zero, List.set_cons_succ]
  refine anyT_take (i := 1) (v := .int .i64 2) rfl (by kernel_rfl) (by kernel_rfl) (by kernel_rfl) (by kernel_rfl) (by decide) (fun _ _ _ h => h) (Or.inl ⟨by rfl, ?ya1⟩) (by simp) ?_
  case ya1 => (intro wz hSw; go_simp; (try simp only [zq, zr, zs, zwi, zwn, HW.out.1]); (try with_reducible rfl))
  try simp only [Act.put, List.getElem_toArray, List.getElem_cons_zero, List.getElem_cons_succ, List.setIfInBounds_toArray, List.set_cons_zero, List.set_cons_succ]
  refine anyT_take (i := 2) (v := ?va2) rfl (by kernel_rfl) (by kernel_rfl) (by kernel_rfl) (by kernel_rfl) (by decide) (fun _ _ _ h => h) (Or.inl ⟨by rfl, ?ya2⟩) (by simp) ?_
  case ya2 => (intro wz hSw; go_simp; (try simp only [zq, zr, zs, zwi, zwn, HW.out.1]); (try with_reducible rfl))
  try simp only [Act.put, List.getElem_toArray, List.getElem_cons_zero, List.getElem_cons_succ, List.setIfInBounds_toArray, List.set_cons_zero, List.set_cons_succ]
  refine anyT_take (i := 3) (v := ?va3) rfl (by kernel_rfl) (by kernel_rfl) (by kernel_rfl) (by kernel_rfl) (by decide) (fun _ _ _ h => h) (Or.inl ⟨by rfl, ?ya3⟩) (by simp) ?_
  case ya3 => (intro wz hSw; go_simp; (try simp only [zq, zr, zs, zwi, zwn, HW.out.1]); (try with_reducible rfl))
  try simp only [Act.put, List.getElem_toArray, List.getElem_cons_zero, List.getElem_cons_succ, List.setIfInBounds_toArray, List.set_cons_zero, List.set_cons_succ]
  refine anyT_take (i := 4) (v := ?va4) rfl (by kernel_rfl) (by kernel_rfl) (by kernel_rfl) (by kernel_rfl) (by decide) (fun _ _ _ h => h) (Or.inl ⟨by rfl, ?ya4⟩) (by simp) ?_
  case ya4 => (intro wz hSw; go_simp; (try simp only [zq, zr, zs, zwi, zwn, HW.out.1]); (try with_reducible rfl))
  try simp only [Act.put, List.getElem_toArray, List.getElem_cons_zero, List.getElem_cons_succ, List.setIfInBounds_toArray, List.set_cons_zero, List.set_cons_succ]
  refine anyT_take (i := 5) (v := .int .i64 (n : Int)) rfl (by kernel_rfl) (by kernel_rfl) (by kernel_rfl) (by kernel_rfl) (by decide) (fun _ _ _ h => h) (Or.inl ⟨by rfl, ?ya5⟩) (by simp) ?_
  case ya5 => (intro wz hSw; go_simp; (try simp only [zq, zr, zs, zwi, zwn, HW.out.1]); (try with_reducible rfl))
  try simp only [Act.put, List.getElem_toArray, List.getElem_cons_zero, List.getElem_cons_succ, List.setIfInBounds_toArray, List.set_cons_zero, List.set_cons_succ]
  refine anyT_take (i := 6) (v := ?va6) rfl (by kernel_rfl) (by kernel_rfl) (by kernel_rfl) (by kernel_rfl) (by decide) (fun _ _ _ h => h) (Or.inl ⟨by rfl, ?ya6⟩) (by simp) ?_
  case ya6 => (intro wz hSw; go_simp; (try simp only [zq, zr, zs, zwi, zwn, HW.out.1]); (try with_reducible rfl))
  try simp only [Act.put, List.getElem_toArray, List.getElem_cons_zero, List.getElem_cons_succ, List.setIfInBounds_toArray, List.set_cons_zero, List.set_cons_succ]
  refine anyT_take (i := 7) (v := ?va7) rfl (by kernel_rfl) (by kernel_rfl) (by kernel_rfl) (by kernel_rfl) (by decide) (fun _ _ _ h => h) (Or.inl ⟨by rfl, ?ya7⟩) (by simp) ?_
  case ya7 => (intro wz hSw; go_simp; (try simp only [zq, zr, zs, zwi, zwn, HW.out.1]); (try with_reducible rfl))
  try simp only [Act.put, List.getElem_toArray, List.getElem_cons_zero, List.getElem_cons_succ, List.setIfInBounds_toArray, List.set_cons_zero, List.set_cons_succ]
  refine anyT_take (i := 8) (v := ?va8) rfl (by kernel_rfl) (by kernel_rfl) (by kernel_rfl) (by kernel_rfl) (by decide) (fun _ _ _ h => h) (Or.inl ⟨by rfl, ?ya8⟩) (by simp) ?_
  case ya8 => (intro wz hSw; go_simp; (try with_reducible rfl))
  try simp only [Act.put, List.getElem_toArray, List.getElem_cons_zero, List.getElem_cons_succ, List.setIfInBounds_toArray, List.set_cons_zero, List.set_cons_succ]
  refine anyT_one (i := 9) (by kernel_rfl) rfl (fun K hK => ?_)
  go_simp
  refine hK.out _ _ (.inl rfl) ?_
  clear hK
  try simp only [Act.put, List.getElem_toArray, List.getElem_cons_zero, List.getElem_cons_succ, List.setIfInBounds_toArray, List.set_cons_zero, List.set_cons_succ]
  refine anyT_done (by kernel_rfl) ?_

  go_wp2_with fail
  refine bodyPost_ret (v := psV (sOr S (sOne a))) (by simp [results, Tryd.results40, go_sem, HW.out.2]) rfl ⟨rfl, ?_⟩
  repeat (first | exact Below.refl _ _ | refine Below.drew ?_ | refine Below.alloc ?_ (by simp; done) _ | refine Below.alloc ?_ (Nat.le_refl _) _ | refine Below.alloc ?_ (by simp; omega) _)
set_option maxHeartbeats 4000000 in
theorem with_3 (S : PS) (a : Nat) (ha : a / 64 = 3) (w : World) : Calls Tryd.prog 40 #[psV S, .int .i64 (a : Int)] w fun e w' => e = .returned (psV (sOr S (sOne a))) ∧ Below w.heap.size w w' := by
  have za : a < 256 := by omega
  have zq : (a : Int).tdiv 64 = 3 := by rw [Int.tdiv_eq_ediv_of_nonneg (by omega)]; omega
  have zr : (a : Int).tmod 64 = ((a % 64 : Nat) : Int) := by rw [Int.tmod_eq_emod_of_nonneg (by omega)]; omega
  obtain ⟨n, hn⟩ : ∃ n, n = a % 64 := ⟨_, rfl⟩
  rw [← hn] at zr
  have zn : n < 64 := by omega
  have zs := shl_u64 n zn
  have zn0 : ¬ (n : Int) < 0 := by omega
  have zwi : IntKind.i64.wrap (3 : Int) = 3 := by rfl
  have zwn : IntKind.i64.wrap (n : Int) = n := by simp [IntKind.wrap, IntKind.bits, IntKind.signed]; omega
  have wo := wd_with S a 3 ha.symm
  rw [← hn, show ((2 ^ n : Nat) : Int) = (2 : Int) ^ n by simp] at wo
  have w0 := wd_other S a 0 (by omega)
  have w1 := wd_other S a 1 (by omega)
  have w2 := wd_other S a 2 (by omega)
  have HW : Hid (bits .or .u64 (wdN S 3 : Int) ((2 : Int) ^ n) = ((wdN (sOr S (sOne a)) 3 : Nat) : Int) ∧ (∀ j, ¬ j = 3 → wdN (sOr S (sOne a)) j = wdN S j)) := ⟨wo, fun j hj => wd_other S a j (by omega)⟩
  clear hn ha wo w0 w1 w2
  go_enter Tryd.func40, Tryd.ntmps40
  go_upto_region 1 with fail
  refine wp_region_T 9 (fun wz => wz.cell? ⟨w.heap.size, 3, none⟩ = some (.int .u64 (wdN S 3 : Int))) (by kernel_rfl) ?_
  refine anyT_take (i := 0) (v := ?va0) rfl (by kernel_rfl) (by kernel_rfl) (by kernel_rfl) (by kernel_rfl) (by decide) (fun _ _ _ h => h) (Or.inl ⟨by rfl, ?ya0⟩) (by simp) ?_
  case ya0 => (intro wz hSw; go_simp; (try simp only [zq, zr, zs, zwi, zwn, HW.out.1]); (try with_reducible rfl))
  try simp only [Act.put, List.getElem_toArray, List.getElem_cons_zero, List.getElem_cons_succ, List.setIfInBounds_toArray, List.set_cons_zero, List.set_cons_succ]
  refine anyT_take (i := 1) (v := .int .i64 3) rfl (by kernel_rfl) (by kernel_rfl) (by kernel_rfl) (by kernel_rfl) (by decide) (fun _ _ _ h => h) (Or.inl ⟨by rfl, ?ya1⟩) (by simp) ?_
  case ya1 => (intro wz hSw; go_simp; (try simp only [zq, zr, zs, zwi, zwn, HW.out.1]); (try with_reducible rfl))
  try simp only [Act.put, List.getElem_toArray, List.getElem_cons_zero, List.getElem_cons_succ, List.setIfInBounds_toArray, List.set_cons_zero, List.set_cons_succ]
  refine anyT_take (i := 2) (v := ?va2) rfl (by kernel_rfl) (by kernel_rfl) (by kernel_rfl) (by kernel_rfl) (by decide) (fun _ _ _ h => h) (Or.inl ⟨by rfl, ?ya2⟩) (by simp) ?_
  case ya2 => (intro wz hSw; go_simp; (try simp only [zq, zr, zs, zwi, zwn, HW.out.1]); (try with_reducible rfl))
  try simp only [Act.put, List.getElem_toArray, List.getElem_cons_zero, List.getElem_cons_succ, List.setIfInBounds_toArray, List.set_cons_zero, List.set_cons_succ]
  refine anyT_take (i := 3) (v := ?va3) rfl (by kernel_rfl) (by kernel_rfl) (by kernel_rfl) (by kernel_rfl) (by decide) (fun _ _ _ h => h) (Or.inl ⟨by rfl, ?ya3⟩) (by simp) ?_
  case ya3 => (intro wz hSw; go_simp; (try simp only [zq, zr, zs, zwi, zwn, HW.out.1]); (try with_reducible rfl))
  try simp only [Act.put, List.getElem_toArray, List.getElem_cons_zero, List.getElem_cons_succ, List.setIfInBounds_toArray, List.set_cons_zero, List.set_cons_succ]
  refine anyT_take (i := 4) (v := ?va4) rfl (by kernel_rfl) (by kernel_rfl) (by kernel_rfl) (by kernel_rfl) (by decide) (fun _ _ _ h => h) (Or.inl ⟨by rfl, ?ya4⟩) (by simp) ?_
  case ya4 => (intro wz hSw; go_simp; (try simp only [zq, zr, zs, zwi, zwn, HW.out.1]); (try with_reducible rfl))
  try simp only [Act.put, List.getElem_toArray, List.getElem_cons_zero, List.getElem_cons_succ, List.setIfInBounds_toArray, List.set_cons_zero, List.set_cons_succ]
  refine anyT_take (i := 5) (v := .int .i64 (n : Int)) rfl (by kernel_rfl) (by kernel_rfl) (by kernel_rfl) (by kernel_rfl) (by decide) (fun _ _ _ h => h) (Or.inl ⟨by rfl, ?ya5⟩) (by simp) ?_
  case ya5 => (intro wz hSw; go_simp; (try simp only [zq, zr, zs, zwi, zwn, HW.out.1]); (try with_reducible rfl))
  try simp only [Act.put, List.getElem_toArray, List.getElem_cons_zero, List.getElem_cons_succ, List.setIfInBounds_toArray, List.set_cons_zero, List.set_cons_succ]
  refine anyT_take (i := 6) (v := ?va6) rfl (by kernel_rfl) (by kernel_rfl) (by kernel_rfl) (by kernel_rfl) (by decide) (fun _ _ _ h => h) (Or.inl ⟨by rfl, ?ya6⟩) (by simp) ?_
  case ya6 => (intro wz hSw; go_simp; (try simp only [zq, zr, zs, zwi, zwn, HW.out.1]); (try with_reducible rfl))
  try simp only [Act.put, List.getElem_toArray, List.getElem_cons_zero, List.getElem_cons_succ, List.setIfInBounds_toArray, List.set_cons_zero, List.set_cons_succ]
  refine anyT_take (i := 7) (v := ?va7) rfl (by kernel_rfl) (by kernel_rfl) (by kernel_rfl) (by kernel_rfl) (by decide) (fun _ _ _ h => h) (Or.inl ⟨by rfl, ?ya7⟩) (by simp) ?_
  case ya7 => (intro wz hSw; go_simp; (try simp only [zq, zr, zs, zwi, zwn, HW.out.1]); (try with_reducible rfl))
  try simp only [Act.put, List.getElem_toArray, List.getElem_cons_zero, List.getElem_cons_succ, List.setIfInBounds_toArray, List.set_cons_zero, List.set_cons_succ]
  refine anyT_take (i := 8) (v := ?va8) rfl (by kernel_rfl) (by kernel_rfl) (by kernel_rfl) (by kernel_rfl) (by decide) (fun _ _ _ h => h) (Or.inl ⟨by rfl, ?ya8⟩) (by simp) ?_
  case ya8 => (intro wz hSw; go_simp; (try with_reducible rfl))
  try simp only [Act.put, List.getElem_toArray, List.getElem_cons_zero, List.getElem_cons_succ, List.setIfInBounds_toArray, List.set_cons_zero, List.set_cons_succ]
  refine anyT_one (i := 9) (by kernel_rfl) rfl (fun K hK => ?_)
  go_simp
  refine hK.out _ _ (.inl rfl) ?_
  clear hK
  try simp only [Act.put, List.getElem_toArray, List.getElem_cons_zero, List.getElem_cons_succ, List.setIfInBounds_toArray, List.set_cons_zero, List.set_cons_succ]
  refine anyT_done (by kernel_rfl) ?_

  go_wp2_with fail
  refine bodyPost_ret (v := psV (sOr S (sOne a))) (by simp [results, Tryd.results40, go_sem, HW.out.2]) rfl ⟨rfl, ?_⟩
  repeat (first | exact Below.refl _ _ | refine Below.drew ?_ | refine Below.alloc ?_ (by simp; done) _ | refine Below.alloc ?_ (Nat.le_refl _) _ | refine Below.alloc ?_ (by simp; omega) _)
theorem with_core (S : PS) (a : Nat) (ha : a < 256) (w : World) : Calls Tryd.prog 40 #[psV S, .int .i64 (a : Int)] w fun e w' => e = .returned (psV (sOr S (sOne a))) ∧ Below w.heap.size w w' := by
  rcases (by omega : a / 64 = 0 ∨ a / 64 = 1 ∨ a / 64 = 2 ∨ a / 64 = 3) with h | h | h | h
  · exact with_0 S a h w
  · exact with_1 S a h w
  · exact with_2 S a h w
  · exact with_3 S a h w
end Go.Proofs.YtgiigiegjaagbaaDoor

/-
  Sets of positions: union and common.
-/
namespace Go.Proofs.YtgiigiegjaagbaaDoor
open Go.ChangeShapes Go.WideShapes Go.ChangeAt Go.RowKit Go.Deep
set_option linter.unusedVariables false
set_option linter.unusedSimpArgs false
set_option maxRecDepth 100000

/-- The words of R below k, those of S from there on. -/
def mixL (R S : PS) (k : Nat) : List Value := [.int .u64 (if 0 < k then (wdN R 0 : Int) else (wdN S 0 : Int)), .int .u64 (if 1 < k then (wdN R 1 : Int) else (wdN S 1 : Int)), .int .u64 (if 2 < k then (wdN R 2 : Int) else (wdN S 2 : Int)), .int .u64 (if 3 < k then (wdN R 3 : Int) else (wdN S 3 : Int))]
theorem mixL_zero (R S : PS) : mixL R S 0 = psL S := by simp [mixL, psL]
theorem mixL_all (R S : PS) : mixL R S 4 = psL R := by simp [mixL, psL]
theorem mixL_at (R S : PS) {k : Nat} (hk : k < 4) : (mixL R S k)[k]? = some (.int .u64 (wdN S k : Int)) := by
  rcases (by omega : k = 0 ∨ k = 1 ∨ k = 2 ∨ k = 3) with rfl | rfl | rfl | rfl <;> simp [mixL]
theorem mixL_set (R S : PS) {k : Nat} (hk : k < 4) : (mixL R S k).set k (.int .u64 (wdN R k : Int)) = mixL R S (k + 1) := by
  rcases (by omega : k = 0 ∨ k = 1 ∨ k = 2 ∨ k = 3) with rfl | rfl | rfl | rfl <;> simp [mixL]
theorem psL_at (S : PS) {k : Nat} (hk : k < 4) : (psL S)[k]? = some (.int .u64 (wdN S k : Int)) := by
  rcases (by omega : k = 0 ∨ k = 1 ∨ k = 2 ∨ k = 3) with rfl | rfl | rfl | rfl <;> simp [psL]
abbrev z4 : Array Value := #[.int .u64 0, .int .u64 0, .int .u64 0, .int .u64 0]
set_option maxHeartbeats 4000000 in
theorem union_core (S T : PS) (w : World) : Calls Tryd.prog 58 #[psV S, psV T] w fun e w' => e = .returned (psV (sOr S T)) ∧ Below w.heap.size w w' := by
  have HI : Hid (BoxAt (((w.alloc (.cells (psL S).toArray 84)).alloc (.cells (psL T).toArray 84)).alloc (.cells z4 84)) w.heap.size 84 4 w.heap.size (psL S) ∧ BoxAt (((w.alloc (.cells (psL S).toArray 84)).alloc (.cells (psL T).toArray 84)).alloc (.cells z4 84)) w.heap.size 84 4 (w.heap.size + 1) (psL T) ∧ BoxAt (((w.alloc (.cells (psL S).toArray 84)).alloc (.cells (psL T).toArray 84)).alloc (.cells z4 84)) w.heap.size 84 4 (w.heap.size + 1 + 1) z4.toList ∧ Below w.heap.size w (((w.alloc (.cells (psL S).toArray 84)).alloc (.cells (psL T).toArray 84)).alloc (.cells z4 84))) := by
    have b1 := boxAt_new w (base := w.heap.size) (t := 84) (sz := 4) (psL S).toArray (Nat.le_refl _) rfl
    have k1 : ∀ (x : World) (o : Obj), Below x.heap.size x (x.alloc o) := fun x o => (Below.refl _ _).alloc (Nat.le_refl _) _
    have b2 := boxAt_new (w.alloc (.cells (psL S).toArray 84)) (base := w.heap.size) (t := 84) (sz := 4) (psL T).toArray (by simp) rfl
    have b3 := boxAt_new ((w.alloc (.cells (psL S).toArray 84)).alloc (.cells (psL T).toArray 84)) (base := w.heap.size) (t := 84) (sz := 4) z4 (by simp; omega) rfl
    rw [World.size_alloc] at b2
    rw [World.size_alloc, World.size_alloc] at b3
    exact ⟨(b1.below (k1 _ _)).below (k1 _ _), b2.below (k1 _ _), b3, (((Below.refl _ _).alloc (Nat.le_refl _) _).alloc (by simp) _).alloc (by simp; omega) _⟩
  go_enter Tryd.func58, Tryd.ntmps58
  go_wp2_with fail
  go_loopw [6] (fun iv wr => ∃ k : Nat, k ≤ 4 ∧ iv = .int .i64 k ∧ Hid (BoxAt wr w.heap.size 84 4 w.heap.size (mixL (sOr S T) S k) ∧ BoxAt wr w.heap.size 84 4 (w.heap.size + 1) (psL T) ∧ BoxAt wr w.heap.size 84 4 (w.heap.size + 1 + 1) z4.toList ∧ Below w.heap.size w wr)) (fun iv _ => 4 - (intOf iv).toNat)
  case atStart => exact ⟨0, by omega, rfl, by rw [mixL_zero]; exact HI.out⟩
  case round =>
    clear HI
    obtain ⟨k, hk, rfl, HJ⟩ := hrel
    by_cases hlt : k < 4
    · have zk : (k : Int) < 4 := by omega
      have c0 := HJ.out.1.cell (mixL_at (sOr S T) S hlt)
      have c1 := HJ.out.2.1.cell (psL_at T hlt)
      have f0 := HJ.out.1.frozen k
      have wo := wd_or S T k
      go_upto_region 4 with fail
      refine wp_region_T 8 (fun wz => wz.cell? ⟨w.heap.size, k, none⟩ = some (.int .u64 (wdN S k : Int)) ∧ wz.cell? ⟨w.heap.size + 1, k, none⟩ = some (.int .u64 (wdN T k : Int))) (by kernel_rfl) ?_
      refine anyT_take (i := 0) (v := ?vua0) rfl (by kernel_rfl) (by kernel_rfl) (by kernel_rfl) (by kernel_rfl) (by decide) (fun _ _ _ h => h) (Or.inl ⟨by rfl, ?yua0⟩) ⟨by simpa using c0, by simpa using c1⟩ ?_
      case yua0 => (intro wz hSw; obtain ⟨d0, d1⟩ := hSw; go_simp; (try simp only [wo]); (try with_reducible rfl))
      try simp only [Act.put, List.getElem_toArray, List.getElem_cons_zero, List.getElem_cons_succ, List.setIfInBounds_toArray, List.set_cons_zero, List.set_cons_succ]
      refine anyT_take (i := 1) (v := ?vua1) rfl (by kernel_rfl) (by kernel_rfl) (by kernel_rfl) (by kernel_rfl) (by decide) (fun _ _ _ h => h) (Or.inl ⟨by rfl, ?yua1⟩) ⟨by simpa using c0, by simpa using c1⟩ ?_
      case yua1 => (intro wz hSw; obtain ⟨d0, d1⟩ := hSw; go_simp; (try simp only [wo]); (try with_reducible rfl))
      try simp only [Act.put, List.getElem_toArray, List.getElem_cons_zero, List.getElem_cons_succ, List.setIfInBounds_toArray, List.set_cons_zero, List.set_cons_succ]
      refine anyT_take (i := 2) (v := ?vua2) rfl (by kernel_rfl) (by kernel_rfl) (by kernel_rfl) (by kernel_rfl) (by decide) (fun _ _ _ h => h) (Or.inl ⟨by rfl, ?yua2⟩) ⟨by simpa using c0, by simpa using c1⟩ ?_
      case yua2 => (intro wz hSw; obtain ⟨d0, d1⟩ := hSw; go_simp; (try simp only [wo]); (try with_reducible rfl))
      try simp only [Act.put, List.getElem_toArray, List.getElem_cons_zero, List.getElem_cons_succ, List.setIfInBounds_toArray, List.set_cons_zero, List.set_cons_succ]
      refine anyT_take (i := 3) (v := ?vua3) rfl (by kernel_rfl) (by kernel_rfl) (by kernel_rfl) (by kernel_rfl) (by decide) (fun _ _ _ h => h) (Or.inl ⟨by rfl, ?yua3⟩) ⟨by simpa using c0, by simpa using c1⟩ ?_
      case yua3 => (intro wz hSw; obtain ⟨d0, d1⟩ := hSw; go_simp; (try simp only [wo]); (try with_reducible rfl))
      try simp only [Act.put, List.getElem_toArray, List.getElem_cons_zero, List.getElem_cons_succ, List.setIfInBounds_toArray, List.set_cons_zero, List.set_cons_succ]
      refine anyT_take (i := 4) (v := ?vua4) rfl (by kernel_rfl) (by kernel_rfl) (by kernel_rfl) (by kernel_rfl) (by decide) (fun _ _ _ h => h) (Or.inl ⟨by rfl, ?yua4⟩) ⟨by simpa using c0, by simpa using c1⟩ ?_
      case yua4 => (intro wz hSw; obtain ⟨d0, d1⟩ := hSw; go_simp; (try simp only [wo]); (try with_reducible rfl))
      try simp only [Act.put, List.getElem_toArray, List.getElem_cons_zero, List.getElem_cons_succ, List.setIfInBounds_toArray, List.set_cons_zero, List.set_cons_succ]
      refine anyT_take (i := 5) (v := ?vua5) rfl (by kernel_rfl) (by kernel_rfl) (by kernel_rfl) (by kernel_rfl) (by decide) (fun _ _ _ h => h) (Or.inl ⟨by rfl, ?yua5⟩) ⟨by simpa using c0, by simpa using c1⟩ ?_
      case yua5 => (intro wz hSw; obtain ⟨d0, d1⟩ := hSw; go_simp; (try simp only [wo]); (try with_reducible rfl))
      try simp only [Act.put, List.getElem_toArray, List.getElem_cons_zero, List.getElem_cons_succ, List.setIfInBounds_toArray, List.set_cons_zero, List.set_cons_succ]
      refine anyT_take (i := 6) (v := ?vua6) rfl (by kernel_rfl) (by kernel_rfl) (by kernel_rfl) (by kernel_rfl) (by decide) (fun _ _ _ h => h) (Or.inl ⟨by rfl, ?yua6⟩) ⟨by simpa using c0, by simpa using c1⟩ ?_
      case yua6 => (intro wz hSw; obtain ⟨d0, d1⟩ := hSw; go_simp; (try simp only [wo]); (try with_reducible rfl))
      try simp only [Act.put, List.getElem_toArray, List.getElem_cons_zero, List.getElem_cons_succ, List.setIfInBounds_toArray, List.set_cons_zero, List.set_cons_succ]
      refine anyT_take (i := 7) (v := ?vua7) rfl (by kernel_rfl) (by kernel_rfl) (by kernel_rfl) (by kernel_rfl) (by decide) (fun _ _ _ h => h) (Or.inl ⟨by rfl, ?yua7⟩) ⟨by simpa using c0, by simpa using c1⟩ ?_
      case yua7 => (intro wz hSw; obtain ⟨d0, d1⟩ := hSw; go_simp; (try simp only [wo]); (try with_reducible rfl))
      try simp only [Act.put, List.getElem_toArray, List.getElem_cons_zero, List.getElem_cons_succ, List.setIfInBounds_toArray, List.set_cons_zero, List.set_cons_succ]
      refine anyT_one (i := 8) (by kernel_rfl) rfl (fun K hK => ?_)
      go_simp
      refine hK.out _ _ (.inl rfl) ?_
      clear hK
      try simp only [Act.put, List.getElem_toArray, List.getElem_cons_zero, List.getElem_cons_succ, List.setIfInBounds_toArray, List.set_cons_zero, List.set_cons_succ]
      refine anyT_done (by kernel_rfl) ?_
      have HJ2 : Hid (BoxAt (wr.drew.setCell ⟨w.heap.size, k, none⟩ (.int .u64 (wdN (sOr S T) k : Int))) w.heap.size 84 4 w.heap.size (mixL (sOr S T) S (k + 1)) ∧ BoxAt (wr.drew.setCell ⟨w.heap.size, k, none⟩ (.int .u64 (wdN (sOr S T) k : Int))) w.heap.size 84 4 (w.heap.size + 1) (psL T) ∧ BoxAt (wr.drew.setCell ⟨w.heap.size, k, none⟩ (.int .u64 (wdN (sOr S T) k : Int))) w.heap.size 84 4 (w.heap.size + 1 + 1) z4.toList ∧ Below w.heap.size w (wr.drew.setCell ⟨w.heap.size, k, none⟩ (.int .u64 (wdN (sOr S T) k : Int)))) := by
        have kd : Below wr.heap.size wr wr.drew := (Below.refl _ _).drew
        refine ⟨?_, (HJ.out.2.1.below kd).beside (by omega) _ _, (HJ.out.2.2.1.below kd).beside (by omega) _ _, below_set HJ.out.2.2.2.drew (Nat.le_refl _) _ _⟩
        rw [← mixL_set _ _ hlt]
        exact (HJ.out.1.below kd).set k _
      go_wp2_with fail
      refine ⟨⟨k + 1, by omega, by go_num, HJ2⟩, ?_⟩
      go_light
      simp [intOf]; omega
    · obtain rfl : k = 4 := by omega
      rw [mixL_all] at HJ
      have c0 := HJ.out.1.cell (j := 0) rfl
      have c1 := HJ.out.1.cell (j := 1) rfl
      have c2 := HJ.out.1.cell (j := 2) rfl
      have c3 := HJ.out.1.cell (j := 3) rfl
      have d0 := HJ.out.2.2.1.cell (j := 0) rfl
      have d1 := HJ.out.2.2.1.cell (j := 1) rfl
      have d2 := HJ.out.2.2.1.cell (j := 2) rfl
      have d3 := HJ.out.2.2.1.cell (j := 3) rfl
      have f0 := HJ.out.2.2.1.frozen 0
      have f1 := HJ.out.2.2.1.frozen 1
      have f2 := HJ.out.2.2.1.frozen 2
      have f3 := HJ.out.2.2.1.frozen 3
      have hlt2 : w.heap.size + 1 + 1 < wr.heap.size := HJ.out.2.2.1.lt.2
      go_wp2_with fail
      refine bodyPost_ret (v := psV (sOr S T)) (by simp [results, Tryd.results58, go_sem, d0, d1, d2, d3]) rfl ⟨rfl, ?_⟩
      repeat (first | exact HJ.out.2.2.2 | refine Below.drew ?_ | refine below_set ?_ (by omega) _ _)
set_option maxHeartbeats 4000000 in
theorem common_core (S T : PS) (w : World) : Calls Tryd.prog 42 #[psV S, psV T] w fun e w' => e = .returned (psV (sAnd S T)) ∧ Below w.heap.size w w' := by
  have HI : Hid (BoxAt (((w.alloc (.cells (psL S).toArray 84)).alloc (.cells (psL T).toArray 84)).alloc (.cells z4 84)) w.heap.size 84 4 w.heap.size (psL S) ∧ BoxAt (((w.alloc (.cells (psL S).toArray 84)).alloc (.cells (psL T).toArray 84)).alloc (.cells z4 84)) w.heap.size 84 4 (w.heap.size + 1) (psL T) ∧ BoxAt (((w.alloc (.cells (psL S).toArray 84)).alloc (.cells (psL T).toArray 84)).alloc (.cells z4 84)) w.heap.size 84 4 (w.heap.size + 1 + 1) z4.toList ∧ Below w.heap.size w (((w.alloc (.cells (psL S).toArray 84)).alloc (.cells (psL T).toArray 84)).alloc (.cells z4 84))) := by
    have b1 := boxAt_new w (base := w.heap.size) (t := 84) (sz := 4) (psL S).toArray (Nat.le_refl _) rfl
    have k1 : ∀ (x : World) (o : Obj), Below x.heap.size x (x.alloc o) := fun x o => (Below.refl _ _).alloc (Nat.le_refl _) _
    have b2 := boxAt_new (w.alloc (.cells (psL S).toArray 84)) (base := w.heap.size) (t := 84) (sz := 4) (psL T).toArray (by simp) rfl
    have b3 := boxAt_new ((w.alloc (.cells (psL S).toArray 84)).alloc (.cells (psL T).toArray 84)) (base := w.heap.size) (t := 84) (sz := 4) z4 (by simp; omega) rfl
    rw [World.size_alloc] at b2
    rw [World.size_alloc, World.size_alloc] at b3
    exact ⟨(b1.below (k1 _ _)).below (k1 _ _), b2.below (k1 _ _), b3, (((Below.refl _ _).alloc (Nat.le_refl _) _).alloc (by simp) _).alloc (by simp; omega) _⟩
  go_enter Tryd.func42, Tryd.ntmps42
  go_wp2_with fail
  go_loopw [6] (fun iv wr => ∃ k : Nat, k ≤ 4 ∧ iv = .int .i64 k ∧ Hid (BoxAt wr w.heap.size 84 4 w.heap.size (mixL (sAnd S T) S k) ∧ BoxAt wr w.heap.size 84 4 (w.heap.size + 1) (psL T) ∧ BoxAt wr w.heap.size 84 4 (w.heap.size + 1 + 1) z4.toList ∧ Below w.heap.size w wr)) (fun iv _ => 4 - (intOf iv).toNat)
  case atStart => exact ⟨0, by omega, rfl, by rw [mixL_zero]; exact HI.out⟩
  case round =>
    clear HI
    obtain ⟨k, hk, rfl, HJ⟩ := hrel
    by_cases hlt : k < 4
    · have zk : (k : Int) < 4 := by omega
      have c0 := HJ.out.1.cell (mixL_at (sAnd S T) S hlt)
      have c1 := HJ.out.2.1.cell (psL_at T hlt)
      have f0 := HJ.out.1.frozen k
      have wo := wd_and S T k
      go_upto_region 4 with fail
      refine wp_region_T 8 (fun wz => wz.cell? ⟨w.heap.size, k, none⟩ = some (.int .u64 (wdN S k : Int)) ∧ wz.cell? ⟨w.heap.size + 1, k, none⟩ = some (.int .u64 (wdN T k : Int))) (by kernel_rfl) ?_
      refine anyT_take (i := 0) (v := ?vca0) rfl (by kernel_rfl) (by kernel_rfl) (by kernel_rfl) (by kernel_rfl) (by decide) (fun _ _ _ h => h) (Or.inl ⟨by rfl, ?yca0⟩) ⟨by simpa using c0, by simpa using c1⟩ ?_
      case yca0 => (intro wz hSw; obtain ⟨d0, d1⟩ := hSw; go_simp; (try simp only [wo]); (try with_reducible rfl))
      try simp only [Act.put, List.getElem_toArray, List.getElem_cons_zero, List.getElem_cons_succ, List.setIfInBounds_toArray, List.set_cons_zero, List.set_cons_succ]
      refine anyT_take (i := 1) (v := ?vca1) rfl (by kernel_rfl) (by kernel_rfl) (by kernel_rfl) (by kernel_rfl) (by decide) (fun _ _ _ h => h) (Or.inl ⟨by rfl, ?yca1⟩) ⟨by simpa using c0, by simpa using c1⟩ ?_
      case yca1 => (intro wz hSw; obtain ⟨d0, d1⟩ := hSw; go_simp; (try simp only [wo]); (try with_reducible rfl))
      try simp only [Act.put, List.getElem_toArray, List.getElem_cons_zero, List.getElem_cons_succ, List.setIfInBounds_toArray, List.set_cons_zero, List.set_cons_succ]
      refine anyT_take (i := 2) (v := ?vca2) rfl (by kernel_rfl) (by kernel_rfl) (by kernel_rfl) (by kernel_rfl) (by decide) (fun _ _ _ h => h) (Or.inl ⟨by rfl, ?yca2⟩) ⟨by simpa using c0, by simpa using c1⟩ ?_
      case yca2 => (intro wz hSw; obtain ⟨d0, d1⟩ := hSw; go_simp; (try simp only [wo]); (try with_reducible rfl))
      try simp only [Act.put, List.getElem_toArray, List.getElem_cons_zero, List.getElem_cons_succ, List.setIfInBounds_toArray, List.set_cons_zero, List.set_cons_succ]
      refine anyT_take (i := 3) (v := ?vca3) rfl (by kernel_rfl) (by kernel_rfl) (by kernel_rfl) (by kernel_rfl) (by decide) (fun _ _ _ h => h) (Or.inl ⟨by rfl, ?yca3⟩) ⟨by simpa using c0, by simpa using c1⟩ ?_
      case yca3 => (intro wz hSw; obtain ⟨d0, d1⟩ := hSw; go_simp; (try simp only [wo]); (try with_reducible rfl))
      try simp only [Act.put, List.getElem_toArray, List.getElem_cons_zero, List.getElem_cons_succ, List.setIfInBounds_toArray, List.set_cons_zero, List.set_cons_succ]
      refine anyT_take (i := 4) (v := ?vca4) rfl (by kernel_rfl) (by kernel_rfl) (by kernel_rfl) (by kernel_rfl) (by decide) (fun _ _ _ h => h) (Or.inl ⟨by rfl, ?yca4⟩) ⟨by simpa using c0, by simpa using c1⟩ ?_
      case yca4 => (intro wz hSw; obtain ⟨d0, d1⟩ := hSw; go_simp; (try simp only [wo]); (try with_reducible rfl))
      try simp only [Act.put, List.getElem_toArray, List.getElem_cons_zero, List.getElem_cons_succ, List.setIfInBounds_toArray, List.set_cons_zero, List.set_cons_succ]
      refine anyT_take (i := 5) (v := ?vca5) rfl (by kernel_rfl) (by kernel_rfl) (by kernel_rfl) (by kernel_rfl) (by decide) (fun _ _ _ h => h) (Or.inl ⟨by rfl, ?yca5⟩) ⟨by simpa using c0, by simpa using c1⟩ ?_
      case yca5 => (intro wz hSw; obtain ⟨d0, d1⟩ := hSw; go_simp; (try simp only [wo]); (try with_reducible rfl))
      try simp only [Act.put, List.getElem_toArray, List.getElem_cons_zero, List.getElem_cons_succ, List.setIfInBounds_toArray, List.set_cons_zero, List.set_cons_succ]
      refine anyT_take (i := 6) (v := ?vca6) rfl (by kernel_rfl) (by kernel_rfl) (by kernel_rfl) (by kernel_rfl) (by decide) (fun _ _ _ h => h) (Or.inl ⟨by rfl, ?yca6⟩) ⟨by simpa using c0, by simpa using c1⟩ ?_
      case yca6 => (intro wz hSw; obtain ⟨d0, d1⟩ := hSw; go_simp; (try simp only [wo]); (try with_reducible rfl))
      try simp only [Act.put, List.getElem_toArray, List.getElem_cons_zero, List.getElem_cons_succ, List.setIfInBounds_toArray, List.set_cons_zero, List.set_cons_succ]
      refine anyT_take (i := 7) (v := ?vca7) rfl (by kernel_rfl) (by kernel_rfl) (by kernel_rfl) (by kernel_rfl) (by decide) (fun _ _ _ h => h) (Or.inl ⟨by rfl, ?yca7⟩) ⟨by simpa using c0, by simpa using c1⟩ ?_
      case yca7 => (intro wz hSw; obtain ⟨d0, d1⟩ := hSw; go_simp; (try simp only [wo]); (try with_reducible rfl))
      try simp only [Act.put, List.getElem_toArray, List.getElem_cons_zero, List.getElem_cons_succ, List.setIfInBounds_toArray, List.set_cons_zero, List.set_cons_succ]
      refine anyT_one (i := 8) (by kernel_rfl) rfl (fun K hK => ?_)
      go_simp
      refine hK.out _ _ (.inl rfl) ?_
      clear hK
      try simp only [Act.put, List.getElem_toArray, List.getElem_cons_zero, List.getElem_cons_succ, List.setIfInBounds_toArray, List.set_cons_zero, List.set_cons_succ]
      refine anyT_done (by kernel_rfl) ?_
      have HJ2 : Hid (BoxAt (wr.drew.setCell ⟨w.heap.size, k, none⟩ (.int .u64 (wdN (sAnd S T) k : Int))) w.heap.size 84 4 w.heap.size (mixL (sAnd S T) S (k + 1)) ∧ BoxAt (wr.drew.setCell ⟨w.heap.size, k, none⟩ (.int .u64 (wdN (sAnd S T) k : Int))) w.heap.size 84 4 (w.heap.size + 1) (psL T) ∧ BoxAt (wr.drew.setCell ⟨w.heap.size, k, none⟩ (.int .u64 (wdN (sAnd S T) k : Int))) w.heap.size 84 4 (w.heap.size + 1 + 1) z4.toList ∧ Below w.heap.size w (wr.drew.setCell ⟨w.heap.size, k, none⟩ (.int .u64 (wdN (sAnd S T) k : Int)))) := by
        have kd : Below wr.heap.size wr wr.drew := (Below.refl _ _).drew
        refine ⟨?_, (HJ.out.2.1.below kd).beside (by omega) _ _, (HJ.out.2.2.1.below kd).beside (by omega) _ _, below_set HJ.out.2.2.2.drew (Nat.le_refl _) _ _⟩
        rw [← mixL_set _ _ hlt]
        exact (HJ.out.1.below kd).set k _
      go_wp2_with fail
      refine ⟨⟨k + 1, by omega, by go_num, HJ2⟩, ?_⟩
      go_light
      simp [intOf]; omega
    · obtain rfl : k = 4 := by omega
      rw [mixL_all] at HJ
      have c0 := HJ.out.1.cell (j := 0) rfl
      have c1 := HJ.out.1.cell (j := 1) rfl
      have c2 := HJ.out.1.cell (j := 2) rfl
      have c3 := HJ.out.1.cell (j := 3) rfl
      have d0 := HJ.out.2.2.1.cell (j := 0) rfl
      have d1 := HJ.out.2.2.1.cell (j := 1) rfl
      have d2 := HJ.out.2.2.1.cell (j := 2) rfl
      have d3 := HJ.out.2.2.1.cell (j := 3) rfl
      have f0 := HJ.out.2.2.1.frozen 0
      have f1 := HJ.out.2.2.1.frozen 1
      have f2 := HJ.out.2.2.1.frozen 2
      have f3 := HJ.out.2.2.1.frozen 3
      have hlt2 : w.heap.size + 1 + 1 < wr.heap.size := HJ.out.2.2.1.lt.2
      go_wp2_with fail
      refine bodyPost_ret (v := psV (sAnd S T)) (by simp [results, Tryd.results42, go_sem, d0, d1, d2, d3]) rfl ⟨rfl, ?_⟩
      repeat (first | exact HJ.out.2.2.2 | refine Below.drew ?_ | refine below_set ?_ (by omega) _ _)
end Go.Proofs.YtgiigiegjaagbaaDoor

/-
  A matcher in memory.
-/
namespace Go.Proofs.YtgiigiegjaagbaaDoor
open Go.ChangeShapes Go.WideShapes Go.ChangeAt Go.RowKit Go.Deep
set_option linter.unusedVariables false
set_option linter.unusedSimpArgs false
set_option maxRecDepth 100000

/-- N values, told by a function. -/
def rngV (N : Nat) (f : Nat → Value) : List Value := (List.range N).map f
theorem rngV_len (N : Nat) (f : Nat → Value) : (rngV N f).length = N := by simp [rngV]
theorem rngV_get {N : Nat} {f : Nat → Value} {j : Nat} (h : j < N) : (rngV N f)[j]? = some (f j) := by simp [rngV, h]
theorem rngV_congr {N : Nat} {f g : Nat → Value} (h : ∀ i, i < N → f i = g i) : rngV N f = rngV N g := by
  unfold rngV
  refine List.map_congr_left (fun i hi => h i (by simpa using hi))
theorem rngV_set {N : Nat} {f : Nat → Value} {j : Nat} {v : Value} (h : j < N) : (rngV N f).set j v = rngV N (fun i => if i = j then v else f i) := by
  refine List.ext_getElem? (fun i => ?_)
  by_cases hi : i < N
  · rw [rngV_get hi]
    by_cases e : i = j
    · subst e; rw [List.getElem?_set_self (by rw [rngV_len]; exact hi)]; simp
    · rw [List.getElem?_set_ne (fun q => e q.symm), rngV_get hi]; simp [e]
  · rw [List.getElem?_eq_none (by simp [rngV_len]; omega), List.getElem?_eq_none (by simp [rngV_len]; omega)]
/-- A set stored. -/
def set4 (w : World) (g o : Nat) (S : PS) : World := (((w.setCell ⟨g, o, none⟩ (.int .u64 (wdN S 0 : Int))).setCell ⟨g, o + 1, none⟩ (.int .u64 (wdN S 1 : Int))).setCell ⟨g, o + 2, none⟩ (.int .u64 (wdN S 2 : Int))).setCell ⟨g, o + 3, none⟩ (.int .u64 (wdN S 3 : Int))
def setL4 (vs : List Value) (o : Nat) (S : PS) : List Value := (((vs.set o (.int .u64 (wdN S 0 : Int))).set (o + 1) (.int .u64 (wdN S 1 : Int))).set (o + 2) (.int .u64 (wdN S 2 : Int))).set (o + 3) (.int .u64 (wdN S 3 : Int))
theorem setL4_rng {N : Nat} {f : Nat → Value} {o : Nat} (S : PS) (h : o + 4 ≤ N) : setL4 (rngV N f) o S = rngV N (fun i => if o ≤ i ∧ i < o + 4 then .int .u64 (wdN S (i - o) : Int) else f i) := by
  unfold setL4
  rw [rngV_set (by omega), rngV_set (by omega), rngV_set (by omega), rngV_set (by omega)]
  refine rngV_congr (fun i hi => ?_)
  by_cases h1 : o ≤ i ∧ i < o + 4
  · rw [if_pos h1]
    rcases (by omega : i = o ∨ i = o + 1 ∨ i = o + 2 ∨ i = o + 3) with rfl | rfl | rfl | rfl
    · simp
    · simp
    · simp
    · simp
  · rw [if_neg h1, if_neg (by omega), if_neg (by omega), if_neg (by omega), if_neg (by omega)]
theorem own_set4 {w : World} {base e size : Nat} {g n cp : Nat} {xs : List Value} (h : w.ownsRow base e size (.slice (some ⟨g, 0, none⟩) n cp) n xs) (o : Nat) (S : PS) : (set4 w g o S).ownsRow base e size (.slice (some ⟨g, 0, none⟩) n cp) n (setL4 xs o S) :=
  (World.ownsRow.stored (World.ownsRow.stored (World.ownsRow.stored (World.ownsRow.stored h o _).1 (o + 1) _).1 (o + 2) _).1 (o + 3) _).1
theorem chg_set4 {S : Nat → Prop} (w : World) (g o : Nat) (X : PS) (hs : S g) : Chg S w (set4 w g o X) :=
  (((Chg.of_set w g o _ hs).trans (Chg.of_set _ g (o + 1) _ hs)).trans (Chg.of_set _ g (o + 2) _ hs)).trans (Chg.of_set _ g (o + 3) _ hs)
theorem size_set4 (w : World) (g o : Nat) (S : PS) : (set4 w g o S).heap.size = w.heap.size := by
  unfold set4; rw [size_set, size_set, size_set, size_set]
def eV (E : Nat → PS) (i : Nat) : Value := .int .u64 (wdN (E (i / 4)) (i % 4) : Int)
def mV (T : Nat → PS) (fv : Value) (en : PS) (mp : Nat) (i : Nat) : Value := if i < 1024 then eV T i else if i = 1024 then fv else if i < 1029 then .int .u64 (wdN en (i - 1025) : Int) else .map (some mp)
def updE (E : Nat → PS) (p : Nat) (S : PS) : Nat → PS := fun q => if q = p then S else E q
theorem eV_upd (E : Nat → PS) (p : Nat) (S : PS) (i : Nat) : (if 4 * p ≤ i ∧ i < 4 * p + 4 then Value.int .u64 (wdN S (i - 4 * p) : Int) else eV E i) = eV (updE E p S) i := by
  unfold eV updE
  by_cases h : 4 * p ≤ i ∧ i < 4 * p + 4
  · rw [if_pos h, if_pos (by omega), show i - 4 * p = i % 4 by omega]
  · rw [if_neg h, if_neg (by omega)]
/-- The matcher in block M: byte b is taken at T b, position p is followed by E p; positions below a are given out. -/
structure MtrI (w : World) (base M : Nat) (T : Nat → PS) (G cp a : Nat) (E : Nat → PS) (en : PS) (mp : Nat) : Prop where
  box : BoxAt w base 87 1030 M (rngV 1030 (mV T (.slice (some ⟨G, 0, none⟩) a cp) en mp))
  row : w.ownsRow base 84 4 (.slice (some ⟨G, 0, none⟩) a cp) a (rngV (4 * a) (eV E))
  new : ∀ p, a ≤ p → ∀ q, E p q = false
  tab : TabD w
  low : 0 < base
section
variable {w w' : World} {base M : Nat} {T : Nat → PS} {G cp a : Nat} {E : Nat → PS} {en : PS} {mp : Nat}
theorem MtrI.ltM (h : MtrI w base M T G cp a E en mp) : base ≤ M ∧ M < w.heap.size := h.box.lt
theorem MtrI.ltG (h : MtrI w base M T G cp a E en mp) : base ≤ G ∧ G < w.heap.size := World.ownsRow.lt h.row G rfl
theorem MtrI.ne (h : MtrI w base M T G cp a E en mp) : ¬ G = M := fun q => own_apart h.row h.box (by decide) G rfl (by rw [q]; rfl)
theorem MtrI.caps (h : MtrI w base M T G cp a E en mp) : a ≤ cp ∧ cp ≤ maxLen := by
  rcases h.row.2 with ⟨h0, _⟩ | ⟨g', cap', cur, hv, _, _, hn, hcap, _, _⟩
  · cases h0
  · simp at hv
    obtain ⟨rfl, rfl⟩ := hv
    exact ⟨hn, hcap⟩
theorem TabD.chg {S : Nat → Prop} (h : TabD w) (hc : Chg S w w') (hn : ¬ S 0) : TabD w' := fun j hj => by
  rw [hc.cell (p := ⟨0, j, none⟩) h.lt hn]; exact h j hj
theorem MtrI.chg {S : Nat → Prop} (h : MtrI w base M T G cp a E en mp) (hc : Chg S w w') (hM : ¬ S M) (hG : ¬ S G) (h0 : ∀ k, S k → base ≤ k) : MtrI w' base M T G cp a E en mp :=
  ⟨h.box.chg hc hM, own_chg h.row hc (fun k q => by simp [Value.ownBlock] at q; subst q; exact hG), h.new, h.tab.chg hc (fun q => by have := h0 _ q; have := h.low; omega), h.low⟩
theorem MtrI.below (h : MtrI w base M T G cp a E en mp) (hb : Below w.heap.size w w') : MtrI w' base M T G cp a E en mp := h.chg (S := fun _ => False) (Chg.of_below hb) (fun q => q) (fun q => q) (fun _ q => q.elim)
theorem MtrI.tk (h : MtrI w base M T G cp a E en mp) {b j : Nat} (hb : b < 256) (hj : j < 4) : w.cell? ⟨M, 4 * b + j, none⟩ = some (.int .u64 (wdN (T b) j : Int)) := by
  rw [h.box.cell (rngV_get (by omega))]
  unfold mV eV
  rw [if_pos (by omega), show (4 * b + j) / 4 = b by omega, show (4 * b + j) % 4 = j by omega]
theorem MtrI.fol (h : MtrI w base M T G cp a E en mp) : w.cell? ⟨M, 1024, none⟩ = some (.slice (some ⟨G, 0, none⟩) a cp) := by
  rw [h.box.cell (rngV_get (by omega))]; rfl
theorem MtrI.ends (h : MtrI w base M T G cp a E en mp) {j : Nat} (hj : j < 4) : w.cell? ⟨M, 1025 + j, none⟩ = some (.int .u64 (wdN en j : Int)) := by
  rw [h.box.cell (rngV_get (by omega))]
  unfold mV
  rw [if_neg (by omega), if_neg (by omega), if_pos (by omega), show 1025 + j - 1025 = j by omega]
theorem MtrI.map (h : MtrI w base M T G cp a E en mp) : w.cell? ⟨M, 1029, none⟩ = some (.map (some mp)) := by
  rw [h.box.cell (rngV_get (by omega))]; rfl
theorem MtrI.edge (h : MtrI w base M T G cp a E en mp) {p j : Nat} (hp : p < a) (hj : j < 4) : w.cell? ⟨G, 4 * p + j, none⟩ = some (.int .u64 (wdN (E p) j : Int)) := by
  rw [World.ownsRow.cellAt h.row (4 * p + j) (by omega), rngV_get (by omega)]
  unfold eV
  rw [show (4 * p + j) / 4 = p by omega, show (4 * p + j) % 4 = j by omega]
theorem MtrI.frzM (h : MtrI w base M T G cp a E en mp) (j : Nat) : w.frozen? ⟨M, j, none⟩ = false := h.box.frozen j
theorem MtrI.frzG (h : MtrI w base M T G cp a E en mp) (j : Nat) : w.frozen? ⟨G, j, none⟩ = false := World.ownsRow.frozenAt h.row j
theorem MtrI.setT (h : MtrI w base M T G cp a E en mp) {b : Nat} (hb : b < 256) (S : PS) : MtrI (set4 w M (4 * b) S) base M (updE T b S) G cp a E en mp := by
  have hc : Chg (fun k => k = M) w (set4 w M (4 * b) S) := chg_set4 w M (4 * b) S rfl
  refine ⟨?_, own_chg h.row hc (fun k q => by simp [Value.ownBlock] at q; subst q; exact h.ne), h.new, h.tab.chg hc (fun q => by have := h.ltM.1; have := h.low; omega), h.low⟩
  have h1 := own_set4 h.box (4 * b) S
  rw [setL4_rng S (by omega)] at h1
  have e : rngV 1030 (fun i => if 4 * b ≤ i ∧ i < 4 * b + 4 then .int .u64 (wdN S (i - 4 * b) : Int) else mV T (.slice (some ⟨G, 0, none⟩) a cp) en mp i) = rngV 1030 (mV (updE T b S) (.slice (some ⟨G, 0, none⟩) a cp) en mp) := by
    refine rngV_congr (fun i hi => ?_)
    unfold mV
    by_cases h1 : i < 1024
    · rw [if_pos h1, if_pos h1]; exact eV_upd T b S i
    · rw [if_neg h1, if_neg h1, if_neg (by omega)]
  rw [e] at h1
  exact h1
theorem MtrI.setE (h : MtrI w base M T G cp a E en mp) {p : Nat} (hp : p < a) (S : PS) : MtrI (set4 w G (4 * p) S) base M T G cp a (updE E p S) en mp := by
  have hc : Chg (fun k => k = G) w (set4 w G (4 * p) S) := chg_set4 w G (4 * p) S rfl
  refine ⟨h.box.chg hc (fun q => h.ne q.symm), ?_, fun q hq r => by unfold updE; rw [if_neg (by omega)]; exact h.new q hq r, h.tab.chg hc (fun q => by have := h.ltG.1; have := h.low; omega), h.low⟩
  have h1 := own_set4 h.row (4 * p) S
  rw [setL4_rng S (by omega), rngV_congr (fun i _ => eV_upd E p S i)] at h1
  exact h1
theorem MtrI.setEn (h : MtrI w base M T G cp a E en mp) (S : PS) : MtrI (set4 w M 1025 S) base M T G cp a E S mp := by
  have hc : Chg (fun k => k = M) w (set4 w M 1025 S) := chg_set4 w M 1025 S rfl
  refine ⟨?_, own_chg h.row hc (fun k q => by simp [Value.ownBlock] at q; subst q; exact h.ne), h.new, h.tab.chg hc (fun q => by have := h.ltM.1; have := h.low; omega), h.low⟩
  have h1 := own_set4 h.box 1025 S
  rw [setL4_rng S (by omega)] at h1
  have e : rngV 1030 (fun i => if 1025 ≤ i ∧ i < 1025 + 4 then .int .u64 (wdN S (i - 1025) : Int) else mV T (.slice (some ⟨G, 0, none⟩) a cp) en mp i) = rngV 1030 (mV T (.slice (some ⟨G, 0, none⟩) a cp) S mp) := by
    refine rngV_congr (fun i hi => ?_)
    unfold mV
    by_cases h1 : i < 1024
    · rw [if_neg (by omega), if_pos h1, if_pos h1]
    · by_cases h2 : i = 1024
      · rw [if_neg (by omega), if_neg h1, if_neg h1, if_pos h2, if_pos h2]
      · by_cases h3 : i < 1029
        · rw [if_pos (by omega), if_neg h1, if_neg h2, if_pos h3]
        · rw [if_neg (by omega), if_neg h1, if_neg h1, if_neg h2, if_neg h2, if_neg h3, if_neg h3]
  rw [e] at h1
  exact h1
/-- The row of follow grown, and its place stored anew. -/
theorem MtrI.grow (h : MtrI w base M T G cp a E en mp) {w1 : World} {G' cp' a' : Nat} (hg : w.grownBy w1 (some G)) (hr : w1.ownsRow base 84 4 (.slice (some ⟨G', 0, none⟩) a' cp') a' (rngV (4 * a') (eV E))) (ha : a ≤ a') : MtrI (w1.setCell ⟨M, 1024, none⟩ (.slice (some ⟨G', 0, none⟩) a' cp')) base M T G' cp' a' E en mp := by
  have hc : Chg (fun k => k = G) w w1 := Chg.of_grown hg (fun k q => by cases q; rfl)
  have hb := h.box.chg hc (fun q => h.ne q.symm)
  have hne : ¬ G' = M := fun q => own_apart hr hb (by decide) G' rfl (by rw [q]; rfl)
  have hc2 : Chg (fun k => k = M) w1 (w1.setCell ⟨M, 1024, none⟩ (.slice (some ⟨G', 0, none⟩) a' cp')) := Chg.of_set w1 M 1024 _ rfl
  refine ⟨?_, own_chg hr hc2 (fun k q => by simp [Value.ownBlock] at q; subst q; exact hne), fun p hp => h.new p (by omega), (h.tab.chg hc (fun q => by have := h.ltG.1; have := h.low; omega)).chg hc2 (fun q => by have := h.ltM.1; have := h.low; omega), h.low⟩
  have h1 := hb.set 1024 (.slice (some ⟨G', 0, none⟩) a' cp')
  rw [rngV_set (by omega)] at h1
  have e : rngV 1030 (fun i => if i = 1024 then .slice (some ⟨G', 0, none⟩) a' cp' else mV T (.slice (some ⟨G, 0, none⟩) a cp) en mp i) = rngV 1030 (mV T (.slice (some ⟨G', 0, none⟩) a' cp') en mp) := by
    refine rngV_congr (fun i hi => ?_)
    unfold mV
    by_cases h1 : i < 1024
    · rw [if_neg (by omega), if_pos h1, if_pos h1]
    · by_cases h2 : i = 1024
      · rw [if_pos h2, if_neg h1, if_pos h2]
      · rw [if_neg h2, if_neg h1, if_neg h1, if_neg h2, if_neg h2]
  rw [e] at h1
  exact h1
theorem MtrI.iff (h : MtrI w base M T G cp a E en mp) {T' E' : Nat → PS} (hT : ∀ b p, b < 256 → p < 256 → T' b p = T b p) (hE : ∀ q p, q < a → p < 256 → E' q p = E q p) (hn : ∀ p, a ≤ p → ∀ q, E' p q = false) : MtrI w base M T' G cp a E' en mp := by
  refine ⟨?_, ?_, hn, h.tab, h.low⟩
  · have e : rngV 1030 (mV T' (.slice (some ⟨G, 0, none⟩) a cp) en mp) = rngV 1030 (mV T (.slice (some ⟨G, 0, none⟩) a cp) en mp) := by
      refine rngV_congr (fun i hi => ?_)
      unfold mV
      by_cases h1 : i < 1024
      · rw [if_pos h1, if_pos h1]; unfold eV; rw [wdN_congr (fun p hp => hT (i / 4) p (by omega) hp) (by omega)]
      · rw [if_neg h1, if_neg h1]
    rw [e]; exact h.box
  · have e : rngV (4 * a) (eV E') = rngV (4 * a) (eV E) := by
      refine rngV_congr (fun i hi => ?_)
      unfold eV; rw [wdN_congr (fun p hp => hE (i / 4) p (by omega) hp) (by omega)]
    rw [e]; exact h.row
theorem MtrI.iffEn (h : MtrI w base M T G cp a E en mp) {en' : PS} (he : ∀ p, p < 256 → en' p = en p) : MtrI w base M T G cp a E en' mp := by
  refine ⟨?_, h.row, h.new, h.tab, h.low⟩
  have e : rngV 1030 (mV T (.slice (some ⟨G, 0, none⟩) a cp) en' mp) = rngV 1030 (mV T (.slice (some ⟨G, 0, none⟩) a cp) en mp) := by
    refine rngV_congr (fun i hi => ?_)
    unfold mV
    by_cases h1 : i < 1024
    · rw [if_pos h1, if_pos h1]
    · by_cases h2 : i = 1024
      · rw [if_neg h1, if_pos h2, if_neg h1, if_pos h2]
      · by_cases h3 : i < 1029
        · rw [if_neg h1, if_neg h2, if_pos h3, if_neg h1, if_neg h2, if_pos h3, wdN_congr he (by omega)]
        · rw [if_neg h1, if_neg h2, if_neg h3, if_neg h1, if_neg h2, if_neg h3]
  rw [e]; exact h.box
end
theorem Tryd.infoPs : (Tryd.prog.info? 84).map (fun i => (i.zero, i.size, i.bytes)) = some (some (.agg #[.int .u64 0, .int .u64 0, .int .u64 0, .int .u64 0]), 4, 32) := by kernel_rfl
theorem eV_snoc {E : Nat → PS} {a : Nat} (hE : ∀ q, E a q = false) : rngV (4 * a) (eV E) ++ z4.toList = rngV (4 * (a + 1)) (eV E) := by
  have hw : ∀ i, wdN (E a) i = 0 := fun i => by
    have : wdN (E a) i = wdN sNo i := ofB_congr (fun j _ => hE _)
    rw [this, wdN_no]
  have e : ∀ j, j < 4 → eV E (4 * a + j) = .int .u64 0 := fun j hj => by
    unfold eV; rw [show (4 * a + j) / 4 = a by omega, hw]; rfl
  have h4 : 4 * (a + 1) = 4 * a + 1 + 1 + 1 + 1 := by omega
  unfold rngV
  rw [h4, List.range_succ, List.range_succ, List.range_succ, List.range_succ]
  simp [e 0 (by omega), e 1 (by omega), e 2 (by omega), e 3 (by omega), show 4 * a + 1 + 1 = 4 * a + 2 by omega, show 4 * a + 1 + 1 + 1 = 4 * a + 3 by omega]
  have := e 0 (by omega)
  simpa using this.symm
/-- A set without members appended. -/
theorem wpList_append_ps {ops : Array Oper} {rest : List Oper} {o : Oper} {a : Act} {Q : Exit → Act → World → Prop} (w : World) (hgd : o.guard = none) (s x : Operand)
    (ho : o.op = .call { callee := .builtin .append, args := #[s, x], argTypes := #[80, 80] })
    (base r c k b cx : Nat) (E : Nat → PS) (hs : a.eval s = .slice (some ⟨r, 0, none⟩) k c) (hx : a.eval x = .slice (some ⟨b, 0, none⟩) 1 cx) (hO : w.ownsRow base 84 4 (.slice (some ⟨r, 0, none⟩) k c) k (rngV (4 * k) (eV E)))
    (hc : ∀ j, j < 4 → w.cell? ⟨b, j, none⟩ = some (.int .u64 0)) (hE : ∀ q, E k q = false) (hlen : k ≤ 2 ^ 20) (hbase : base ≤ w.heap.size)
    (h : ∀ r' c' w', w'.ownsRow base 84 4 (.slice (some ⟨r', 0, none⟩) (k + 1) c') (k + 1) (rngV (4 * (k + 1)) (eV E)) → w.grownBy w' (some r) → (r' = r ∨ r' = w.heap.size) → wpList Tryd.prog ops Q rest (a.put o.dst (.slice (some ⟨r', 0, none⟩) (k + 1) c')) w') : wpList Tryd.prog ops Q (o :: rest) a w := by
  obtain ⟨i, hi, hz0, hz1, hz2⟩ := info_parts Tryd.infoPs
  refine wpList_append_own_at w hgd s x 80 ho base 84 i _ 4 32 Tryd.underlying80 hi hz0 hz1 hz2 rfl (by decide) (.slice (some ⟨r, 0, none⟩) k c) k (rngV (4 * k) (eV E)) hs hO ⟨b, 0, none⟩ 1 cx z4.toList hx rfl (fun j u hu => ?_) (fun u hu => by simp at hu; subst hu; rfl) ?_ ?_ hbase ?_
  · have hj := (List.getElem?_eq_some_iff.1 hu).1
    have hj4 : j < 4 := by simpa using hj
    rcases (by omega : j = 0 ∨ j = 1 ∨ j = 2 ∨ j = 3) with rfl | rfl | rfl | rfl <;> (simp at hu; subst hu; exact hc _ hj4)
  · unfold maxLen; omega
  · omega
  · intro v' w' hO' hgr hnil hat
    rcases hO'.2 with ⟨h0, _⟩ | ⟨g', cap', cur, hv, _, _, hn, hcap, _, _⟩
    · have := (hnil.1 h0).1
      cases this
    · subst hv
      refine h g' cap' w' ?_ hgr ?_
      · rw [eV_snoc hE] at hO'
        exact hO'
      · simp [Value.ownBlock] at hat
        exact hat
end Go.Proofs.YtgiigiegjaagbaaDoor

