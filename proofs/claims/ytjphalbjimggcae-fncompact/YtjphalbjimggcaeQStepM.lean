/-
  The step of the heap, without memory.
-/
import Derived.Test.YtjphalbjimggcaePkH
namespace Go.Proofs.Ytjphalbjimggcae
set_option linter.unusedVariables false
set_option linter.unusedSimpArgs false
open Go.Sort (siftDown heapBuild swp PermIn)

theorem perm_of_permIn {d d' : Array Cu} (h : PermIn 0 d.size d d') : d'.toList.Perm d.toList := by
  have h2 := h.2.2
  have e1 : d.extract 0 d.size = d := by simp
  have e2 : d'.extract 0 d.size = d' := by rw [← h.1]; simp
  rw [e1, e2] at h2
  exact h2
abbrev fl (c : Cu) : Nat × List Ent := (c.age, c.rest)
/-- A heap: no node is greater than its children. -/
def Heap (d : Array Cu) : Prop := ∀ i, i < d.size → Go.Sort.Ok gtC 0 d.size d i
theorem heap_min {d : Array Cu} (h : Heap d) {c : Cu} (hc : c ∈ d) : lessC c d[0]! = false := by
  obtain ⟨i, hi, rfl⟩ := Array.getElem_of_mem hc
  have := Go.Sort.root_max swo_gtC h i i (Nat.le_refl _) hi
  simp only [Nat.zero_add] at this
  rw [getElem!_pos d i hi] at this
  exact this
theorem heap_build {d : Array Cu} : Heap (heapBuild gtC d.size 0 (d.size / 2) d) ∧ (heapBuild gtC d.size 0 (d.size / 2) d).toList.Perm d.toList := by
  have h := Go.Sort.build swo_gtC d.size 0 (d.size / 2) d (by omega) (fun i h1 h2 k hk hlt => by omega)
  rw [Nat.zero_add] at h
  refine ⟨?_, perm_of_permIn h.2⟩
  intro i hi
  rw [h.2.1] at hi ⊢
  exact h.1 i hi
/-- Another one at the top, put right. -/
theorem heap_fix {c c' : Cu} {t : List Cu} (h : Heap ⟨c :: t⟩) : Heap (siftDown gtC (t.length + 1) 0 0 ⟨c' :: t⟩) ∧ (siftDown gtC (t.length + 1) 0 0 ⟨c' :: t⟩).toList.Perm (c' :: t) := by
  have g : ∀ i, i ≠ 0 → (⟨c' :: t⟩ : Array Cu)[i]! = (⟨c :: t⟩ : Array Cu)[i]! := fun i hi => by
    obtain ⟨j, rfl⟩ : ∃ j, i = j + 1 := ⟨i - 1, by omega⟩
    simp [getElem!_def]
  have hs : (⟨c' :: t⟩ : Array Cu).size = t.length + 1 := rfl
  have hs0 : (⟨c :: t⟩ : Array Cu).size = t.length + 1 := rfl
  have h1 := Go.Sort.sift swo_gtC (t.length + 1) 0 0 (t.length + 1) 0 ⟨c' :: t⟩ (by omega) (by rw [hs]; omega) (Nat.le_refl _) (fun i _ hi hne k hk hlt => by
      have := h i (by rw [hs0]; exact hi) k hk (by rw [hs0]; exact hlt)
      rw [Nat.zero_add, Nat.zero_add] at this ⊢
      rw [g i hne, g k (by omega)]
      exact this) (fun p _ hp => by omega)
  rw [Nat.zero_add] at h1
  have hp : PermIn 0 (⟨c' :: t⟩ : Array Cu).size ⟨c' :: t⟩ (siftDown gtC (t.length + 1) 0 0 ⟨c' :: t⟩) := h1.2
  refine ⟨?_, perm_of_permIn hp⟩
  intro i hi
  rw [hp.1] at hi ⊢
  exact h1.1 i (Nat.zero_le _) hi
/-- The top taken off. -/
theorem heap_pop {c : Cu} {t : List Cu} (h : Heap ⟨c :: t⟩) : Heap (siftDown gtC t.length 0 0 (swp ⟨c :: t⟩ 0 t.length)).pop ∧ (siftDown gtC t.length 0 0 (swp ⟨c :: t⟩ 0 t.length)).pop.toList.Perm t := by
  obtain ⟨d, hd⟩ : ∃ d : Array Cu, d = ⟨c :: t⟩ := ⟨_, rfl⟩
  have hs0 : d.size = t.length + 1 := by rw [hd]; rfl
  have hc0 : d[0]! = c := by rw [hd]; rfl
  rw [← hd] at h ⊢
  obtain ⟨e, he⟩ : ∃ e : Array Cu, e = swp d 0 t.length := ⟨_, rfl⟩
  have hes : e.size = t.length + 1 := by rw [he, Go.Sort.size_swp]; exact hs0
  have hel : e[t.length]! = c := by rw [he, Go.Sort.swp_right d 0 t.length (by omega)]; exact hc0
  have g : ∀ i, i ≠ 0 → i < t.length → e[i]! = d[i]! := fun i h1 h2 => by rw [he]; exact Go.Sort.swp_other d 0 t.length i h1 (by omega)
  have hpe : PermIn 0 d.size d e := by rw [he]; exact Go.Sort.swp_permIn d 0 d.size 0 t.length (Nat.le_refl _) (by omega) (Nat.zero_le _) (by omega) (Nat.le_refl _)
  rw [← he]
  have h1 := Go.Sort.sift swo_gtC t.length 0 0 t.length 0 e (by omega) (by omega) (Nat.le_refl _) (fun i _ hi hne k hk hlt => by
      have := h i (by omega) k hk (by omega)
      rw [Nat.zero_add, Nat.zero_add] at this ⊢
      rw [g i hne hi, g k (by omega) hlt]
      exact this) (fun p _ hp => by omega)
  rw [Nat.zero_add] at h1
  obtain ⟨f, hf⟩ : ∃ f : Array Cu, f = siftDown gtC t.length 0 0 e := ⟨_, rfl⟩
  rw [← hf] at h1 ⊢
  have hfs : f.size = t.length + 1 := by rw [h1.2.1]; exact hes
  have hfl : f[t.length]! = c := by rw [h1.2.2.1 t.length (.inr (Nat.le_refl _))]; exact hel
  have hpf : PermIn 0 d.size d f := by
    refine Go.Sort.permIn_trans d e f 0 d.size hpe ?_
    exact Go.Sort.permIn_mono e f 0 t.length 0 d.size (Nat.le_refl _) (by omega) (by omega) h1.2
  have hps : f.pop.size = t.length := by simp [hfs]
  refine ⟨?_, ?_⟩
  · intro i hi k hk hlt
    rw [hps] at hi hlt
    have := h1.1 i (Nat.zero_le _) hi k hk hlt
    rw [Nat.zero_add, Nat.zero_add] at this ⊢
    have q : ∀ j, j < t.length → f.pop[j]! = f[j]! := fun j hj => by
      rw [getElem!_pos f.pop j (by omega), getElem!_pos f j (by omega)]; simp
    rw [q i hi, q k hlt]
    exact this
  · have hP := perm_of_permIn hpf
    rw [hd] at hP
    have hdl : f.toList = f.pop.toList ++ [c] := by
      rw [Array.toList_pop]
      have hlen : f.toList.length = t.length + 1 := by rw [Array.length_toList]; exact hfs
      have hne : f.toList ≠ [] := by intro q; rw [q] at hlen; simp at hlen
      have hgl : f.toList.getLast hne = c := by
        rw [List.getLast_eq_getElem]
        have : f[t.length]! = f[t.length]'(by omega) := getElem!_pos f t.length (by omega)
        rw [this] at hfl
        rw [← hfl]
        simp [hfs]
      have := List.dropLast_concat_getLast hne
      rw [hgl] at this
      exact this.symm
    rw [hdl] at hP
    have hP2 : (c :: f.pop.toList).Perm (c :: t) := (List.perm_append_singleton c f.pop.toList).symm.trans hP
    exact hP2.cons_inv

/-- The heap's least one gives the next of all. -/
theorem flow_min {A : Nat → Ent → Prop} {N : Nat} {P : List (Nat × Ent)} {c : Cu} {t : List Cu} (hh : Heap ⟨c :: t⟩) (hpos : ∀ x ∈ c :: t, x.pos < x.r.es.length) (h : Flow A N P ((c :: t).map fl)) :
    (∀ p ∈ P, Lt2 p (c.age, c.head)) ∧ Flow A N (P ++ [(c.age, c.head)]) ((c.age, c.r.es.drop (c.pos + 1)) :: t.map fl) := by
  have e : (c :: t).map fl = (c.age, c.head :: c.r.es.drop (c.pos + 1)) :: t.map fl := by
    rw [List.map_cons]
    simp only [fl, Cu.rest_cons (hpos c (by simp))]
  rw [e] at h
  refine ⟨h.next, h.step (fun p hp => ?_)⟩
  obtain ⟨x, hx, rfl⟩ := List.mem_map.1 hp
  refine ⟨x.head, x.r.es.drop (x.pos + 1), Cu.rest_cons (hpos x (List.mem_cons_of_mem _ hx)), ?_⟩
  have := heap_min hh (c := x) (by simp [hx])
  exact lessC_false.1 this
end Go.Proofs.Ytjphalbjimggcae
