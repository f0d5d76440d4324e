/-
  slices.SortFunc over entries, by impl's compare.
-/
import Derived.Test.YtjphalbjimggcaePkAT
namespace Go.Proofs.Ytjphalbjimggcae
open Go.Shelf Go.RowKit Go.Lib Go.Sort
set_option linter.unusedVariables false

abbrev inhE : Inhabited Ent := ⟨⟨⟨#[]⟩, ⟨#[]⟩, ⟨#[]⟩, 0, 0, ⟨#[]⟩⟩⟩
theorem ltOf_key (x y : Ent) : ltOf keyCmp x y = true ↔ keyCmp x y = -1 := by
  unfold ltOf
  rcases keyCmp_vals x y with h | h | h <;> simp [h]
theorem ltOf_key_f (x y : Ent) : ltOf keyCmp x y = false ↔ ¬ keyCmp x y = -1 := by
  rw [← ltOf_key]; cases ltOf keyCmp x y <;> simp
theorem swoKey_ntrans (x y z : Ent) (h1 : ltOf keyCmp x y = false) (h2 : ltOf keyCmp y z = false) : ltOf keyCmp x z = false := by
  rw [ltOf_key_f] at *
  intro h3
  rcases keyCmp_vals x y with h | h | h
  · exact h1 h
  · rw [keyCmp_congr h] at h3; exact h2 h3
  · have h4 : keyCmp y x = -1 := by have := keyCmp_neg x y; omega
    exact h2 (keyCmp_trans h4 h3)
theorem swoKey : SWO (ltOf keyCmp) :=
  { irrefl := fun x => by rw [ltOf_key_f, keyCmp_self]; omega,
    trans := fun x y z h1 h2 => by rw [ltOf_key] at *; exact keyCmp_trans h1 h2,
    ntrans := swoKey_ntrans }

theorem cmpLaysE (blk off size : Nat) (w : World) : @CmpLays Ent inhE Try.prog 54 #[] Ent.cells 6 keyCmp blk off size w := by
  intro m os dk hs x y
  refine (compare_lays x y _).mono ?_
  rintro e w' ⟨he, os', hw⟩
  exact ⟨he, 0, os', by rw [hw]; rfl⟩

theorem flat_cells (R : List Ent) : (@flatK Ent inhE Ent.cells 6 R.toArray).toList = cellsE R := by
  apply List.ext_getElem?
  intro j
  by_cases hj : j < R.length * 6
  · have hq : j / 6 < R.length := by omega
    have h := cellsE_get R (j / 6) R[j / 6] (List.getElem?_eq_getElem hq) (j % 6) (Nat.mod_lt _ (by omega))
    rw [show j / 6 * 6 + j % 6 = j by omega] at h
    rw [h]
    have h6 : j % 6 < 6 := Nat.mod_lt _ (by omega)
    simp [flatK, hj, hq]
    generalize j % 6 = m at *
    match m, h6 with
    | 0, _ => rfl
    | 1, _ => rfl
    | 2, _ => rfl
    | 3, _ => rfl
    | 4, _ => rfl
    | 5, _ => rfl
  · have h1 : (cellsE R).length ≤ j := by rw [length_cellsE]; omega
    rw [List.getElem?_eq_none h1]
    simp [flatK]; omega
theorem holdsE {w : World} {base g cp : Nat} {R : List Ent} (h : OwnE w base g cp R) : @HoldsK Ent inhE Ent.cells 6 w g 0 R.toArray := by
  intro j hj
  have hj' : j < R.length * 6 := by simpa using hj
  rw [Nat.zero_add]
  refine ⟨?_, World.ownsRow.frozenAt h j⟩
  rw [World.ownsRow.cellAt h j hj', ← flat_cells]
  rw [Array.getElem?_toList]
  simp [hj']
theorem heap_sortedE {w : World} {g n : Nat} {os : Array Obj} {cur : Array Value} {e : TypeId} {fr : Nat × Nat} (S : List Ent) (hb : w.heap[g]? = some (.cells cur e fr)) :
    (@sortWorldK Ent inhE Ent.cells 6 w g 0 n S.toArray os).heap[g]? = some (.cells (putCells id 0 (@flatK Ent inhE Ent.cells 6 S.toArray) cur) e fr) := by
  have hg : g < w.heap.size := (Array.getElem?_eq_some_iff.1 hb).1
  unfold sortWorldK putRowK
  rw [heap_grow_old _ _ (by simpa [Sort.ahead] using hg)]
  simp [putRow, mapBlock, Sort.ahead, Array.getElem?_modify, hb, onCells]
theorem grownBy_sortedE (w : World) (g n : Nat) (os : Array Obj) (S : List Ent) : w.grownBy (@sortWorldK Ent inhE Ent.cells 6 w g 0 n S.toArray os) (some g) := by
  refine ⟨rfl, rfl, rfl, by simp [sortWorldK, putRowK, Sort.ahead], fun k hk hne => ?_⟩
  unfold sortWorldK putRowK
  rw [heap_grow_old _ _ (by simpa [Sort.ahead] using hk)]
  have : g ≠ k := fun e => hne (by rw [e])
  simp [putRow, mapBlock, Sort.ahead, Array.getElem?_modify, this]
theorem take_putE (cur : Array Value) (S : List Ent) (h : S.length * 6 ≤ cur.size) : (putCells id 0 (@flatK Ent inhE Ent.cells 6 S.toArray) cur).toList.take (S.length * 6) = cellsE S := by
  rw [← flat_cells]
  apply List.ext_getElem?
  intro j
  by_cases hj : j < S.length * 6
  · rw [List.getElem?_take_of_lt hj, Array.getElem?_toList, Array.getElem?_toList]
    simp [putCells, hj, show j < cur.size by omega]
  · rw [List.getElem?_take_eq_none (by omega), List.getElem?_eq_none (by simp; omega)]
theorem ownE_sorted {w : World} {base g cp n : Nat} {os : Array Obj} {R S : List Ent} (h : OwnE w base g cp R) (hl : S.length = R.length) : OwnE (@sortWorldK Ent inhE Ent.cells 6 w g 0 n S.toArray os) base g cp S := by
  rcases h.2 with ⟨h0, _⟩ | ⟨g', cap', cur, hv, hg, hb, hn, hcap, hsz, htk⟩
  · cases h0
  · simp only [Value.slice.injEq, Option.some.injEq, Addr.mk.injEq, and_true, true_and] at hv
    obtain ⟨rfl, rfl⟩ := hv
    refine ⟨length_cellsE S, .inr ⟨g, cp, _, rfl, hg, heap_sortedE S hb, by omega, hcap, by simp [putCells, hsz], take_putE cur S (by rw [hsz, hl]; exact Nat.mul_le_mul_right _ hn)⟩⟩

theorem sort_core (base g cp : Nat) (R : List Ent) (w : World) (hO : OwnE w base g cp R) (hlen : R.length ≤ 2 ^ 40) :
    Calls Try.prog 53 #[.slice (some ⟨g, 0, none⟩) R.length cp, .func (.func 54) #[] #[]] w fun e w' =>
      e = .returned (.tuple #[]) ∧ ∃ S : List Ent, S.Perm R ∧ S.Pairwise (fun a b => ¬ keyCmp b a = -1) ∧ OwnE w' base g cp S ∧ w.grownBy w' (some g) := by
  have eg : ∀ args w, (callFunc 54 args).run Try.prog w = .ok (.enter 54 args) w := enters_of Try.func54 (by kernel_rfl) rfl
  have hcon := @AnyQ.slices_SortFunc _ _ Ent inhE Try.sortE 6 Try.isAgg73 Try.sizeOf73 Ent.cells (fun _ => rfl) (fun x v hv => by
    simp at hv
    rcases hv with rfl | rfl | rfl | rfl | rfl | rfl <;> rfl) keyCmp swoKey 54 #[] g 0 cp R.toArray w eg (cmpLaysE g 0 _ w) (holdsE hO) hO.lt.2 (by simp; omega)
  change Calls Try.prog 53 _ _ _ at hcon
  refine hcon.mono ?_
  rintro e w' ⟨he, d, n, os, hp, hs, rfl⟩
  refine ⟨he, d.toList, ?_, ?_, ?_, ?_⟩
  · have h1 := hp.2.2
    have h2 := hp.1
    simpa [Array.extract_eq_self_of_le, h2] using h1
  · rw [List.pairwise_iff_getElem]
    intro i j hi hj hij
    have hi' : i < d.size := by simpa using hi
    have hj' : j < d.size := by simpa using hj
    have h := hs i j (Nat.zero_le _) hij (by rw [hp.1] at hj'; exact hj')
    have e1 := @getElem!_pos (Array Ent) Nat Ent _ _ _ inhE d j hj'
    have e2 := @getElem!_pos (Array Ent) Nat Ent _ _ _ inhE d i hi'
    rw [ltOf_key_f, e1, e2] at h
    simpa using h
  · exact ownE_sorted hO (by simpa using hp.1)
  · exact grownBy_sortedE w g n os d.toList
end Go.Proofs.Ytjphalbjimggcae
