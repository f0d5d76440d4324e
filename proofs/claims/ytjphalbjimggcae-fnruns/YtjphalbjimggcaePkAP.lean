import Derived.Test.YtjphalbjimggcaeQHeapD
/-
  container/heap over the cursors: Init, Fix at the top, Pop; the step.
-/
namespace Go.Proofs.Ytjphalbjimggcae
open Go.ChangeShapes Go.WideShapes Go.ChangeAt Go.RowKit Go.Deep Go.Sort
set_option linter.unusedVariables false
set_option linter.unusedSimpArgs false
set_option maxRecDepth 100000

set_option maxHeartbeats 1000000 in
theorem up_zero (v : Value) (w : World) : Calls Try.prog 92 #[v, .int .i64 0] w fun e w' => e = .returned (.tuple #[]) ∧ w' = w := by
  go_enter Try.func92, Try.ntmps92
  go_wp2_with fail
  go_loopw [1] (fun c wr => c = .int .i64 0 ∧ wr = w) (fun _ _ => 0)
  case atStart => exact ⟨rfl, rfl⟩
  case round =>
    obtain ⟨rfl, rfl⟩ := hrel
    go_wp2_with fail
    go_end0
    exact ⟨rfl, rfl⟩

set_option maxHeartbeats 1000000 in
theorem fix_core (hp base g cap : Nat) (d : Array Cu) (w : World) (h : HeapW w hp base g cap d) (hsz : d.size ≤ 1048576) :
    Calls Try.prog 73 #[.iface 128 (.pointer (some ⟨hp, 0, none⟩)), .int .i64 0] w fun e w' =>
      e = .returned (.tuple #[]) ∧ HeapW w' hp base g cap (siftDown gtC d.size 0 0 d) ∧ Chg (fun k => k = g) w w' := by
  have H0 : Hid (HeapW w hp base g cap d) := h
  have m1 := meth_len h.hdr
  clear h
  go_enter Try.func73, Try.ntmps73
  go_wp2_with fail
  refine (len_core _ _ _ _).mono ?_
  rintro e w1 ⟨rfl, rfl⟩
  go_wp2_with fail
  refine (down_core hp base g cap d.size 0 d _ H0.out (Nat.le_refl _) hsz (by omega)).mono ?_
  rintro e w2 ⟨b, rfl, hH, hC⟩
  have H2 : Hid (HeapW w2 hp base g cap (siftDown gtC d.size 0 0 d) ∧ Chg (fun k => k = g) w1 w2) := ⟨hH, hC⟩
  clear hH hC m1
  cases b
  · go_wp2_with fail
    refine (up_zero _ _).mono ?_
    rintro e w3 ⟨rfl, rfl⟩
    go_wp2_with fail
    go_end0
    exact ⟨rfl, H2.out.1, H2.out.2⟩
  · go_wp2_with fail
    go_end0
    exact ⟨rfl, H2.out.1, H2.out.2⟩

/-- How the building stands. -/
structure BuildAt (hp base g cap : Nat) (d : Array Cu) (w : World) (k : Nat) (d' : Array Cu) (w' : World) : Prop where
  heap : HeapW w' hp base g cap d'
  same : heapBuild gtC d.size 0 k d' = heapBuild gtC d.size 0 (d.size / 2) d
  size : d'.size = d.size
  chg : Chg (fun k => k = g) w w'
theorem size_sift0 (n : Nat) : ∀ (m i : Nat) (d : Array Cu), n - i ≤ m → (siftDown gtC n 0 i d).size = d.size
  | 0, i, d, h => by rw [sift_none (by omega)]
  | m + 1, i, d, h => by
    by_cases h1 : n ≤ 2 * i + 1
    · rw [sift_none h1]
    · have hl : ∀ q : 2 * i + 2 < n → lessC d[2 * i + 2]! d[2 * i + 1]! = false, (siftDown gtC n 0 i d).size = d.size := fun q => by
        cases hM : lessC d[2 * i + 1]! d[i]!
        · rw [sift_l_stop (by omega) q hM]
        · rw [sift_l_go (by omega) q hM, size_sift0 n m _ _ (by omega), size_swp]
      by_cases h2 : 2 * i + 2 < n
      · cases hL : lessC d[2 * i + 2]! d[2 * i + 1]!
        · exact hl (fun _ => hL)
        · cases hM : lessC d[2 * i + 2]! d[i]!
          · rw [sift_r_stop h2 hL hM]
          · rw [sift_r_go h2 hL hM, size_sift0 n m _ _ (by omega), size_swp]
      · exact hl (fun q => absurd q h2)
theorem size_sift (n i : Nat) (d : Array Cu) : (siftDown gtC n 0 i d).size = d.size := size_sift0 n _ i d (Nat.le_refl _)

set_option maxHeartbeats 1000000 in
theorem init_core (hp base g cap : Nat) (d : Array Cu) (w : World) (h : HeapW w hp base g cap d) (hsz : d.size ≤ 1048576) :
    Calls Try.prog 70 #[.iface 128 (.pointer (some ⟨hp, 0, none⟩))] w fun e w' =>
      e = .returned (.tuple #[]) ∧ HeapW w' hp base g cap (heapBuild gtC d.size 0 (d.size / 2) d) ∧ Chg (fun k => k = g) w w' := by
  have H0 : Hid (HeapW w hp base g cap d) := h
  have m1 := meth_len h.hdr
  clear h
  go_enter Try.func70, Try.ntmps70
  go_wp2_with fail
  refine (len_core _ _ _ _).mono ?_
  rintro e w1 ⟨rfl, rfl⟩
  go_wp2_with fail
  go_loopw [3] (fun c wr => ∃ (k : Nat) (d' : Array Cu), k ≤ d.size / 2 ∧ c = .int .i64 ((k : Int) - 1) ∧ BuildAt hp base g cap d w1 k d' wr) (fun c _ => (intOf c + 1).toNat)
  case atStart => exact ⟨d.size / 2, d, Nat.le_refl _, by go_num, H0.out, rfl, rfl, Chg.refl _ _⟩
  case round =>
    obtain ⟨k, d', hk, rfl, hD⟩ := hrel
    have HD : Hid (BuildAt hp base g cap d w1 k d' wr) := hD
    have hs1 : d.size ≤ d'.size := by rw [hD.size]; omega
    have hs2 : d'.size ≤ 1048576 := by rw [hD.size]; exact hsz
    clear hD
    by_cases h0 : k = 0
    · subst h0
      go_wp2_with fail
      go_end0
      refine ⟨rfl, ?_, HD.out.chg⟩
      rw [← HD.out.same]; exact HD.out.heap
    · obtain ⟨j, rfl⟩ : ∃ j, k = j + 1 := ⟨k - 1, by omega⟩
      have e1 : (((j + 1 : Nat) : Int) - 1) = (j : Int) := by omega
      rw [e1]
      have zj : (0 : Int) ≤ (j : Int) := by omega
      clear e1
      go_wp2_with fail
      refine (down_core hp base g cap d.size j d' _ HD.out.heap hs1 hs2 (by omega)).mono ?_
      rintro e w2 ⟨b, rfl, hH, hC⟩
      have H2 : Hid (BuildAt hp base g cap d w1 j (siftDown gtC d.size 0 j d') w2) := ⟨hH, by rw [← HD.out.same]; rfl, by rw [size_sift]; exact HD.out.size, HD.out.chg.trans hC⟩
      clear hH hC
      go_wp2_with fail
      go_roundw
      case rel => exact ⟨j, _, by omega, by go_num, H2.out⟩
      case measure => go_light; simp [intOf]

theorem OwnH.popped {w : World} {base g cap : Nat} {d : Array Cu} (h : OwnH w base g cap d) : OwnH w base g cap d.pop := by
  rcases h.2 with ⟨hv, _⟩ | ⟨g', cap', cur, hv, h1, h2, h3, h4, h5, h6⟩
  · cases hv
  · simp only [Value.slice.injEq, Option.some.injEq, Addr.mk.injEq, and_true, true_and] at hv
    obtain ⟨rfl, rfl⟩ := hv
    refine ⟨by simp, .inr ⟨g, cap, cur, rfl, h1, h2, by simp; omega, h4, h5, ?_⟩⟩
    have e : (d.pop.toList.map ifc) = (d.toList.map ifc).take (d.size - 1) := by
      rw [Array.toList_pop, List.dropLast_eq_take, List.map_take]; simp
    rw [e, ← h6, List.take_take]
    congr 1
    simp
theorem mem_pop {d : Array Cu} {c : Cu} (h : c ∈ d.pop) : c ∈ d := by
  rw [← Array.mem_toList_iff, Array.toList_pop] at h
  have := List.dropLast_subset _ h
  simpa using this
theorem HeapW.pop {w : World} {hp base g cap : Nat} {d : Array Cu} (h : HeapW w hp base g cap d) : HeapW (w.setCell ⟨hp, 0, none⟩ (.slice (some ⟨g, 0, none⟩) (d.size - 1) cap)) hp base g cap d.pop := by
  have hg : Chg (fun k => k = hp) w (w.setCell ⟨hp, 0, none⟩ (.slice (some ⟨g, 0, none⟩) (d.size - 1) cap)) := Chg.of_set _ _ _ _ rfl
  exact {
    hdr := by rw [World.cell?_setCell_same _ _ _ h.hdr]; simp
    free := fun j => by rw [World.frozen?_setCell]; exact h.free j
    lt := by have := hg.size; have := h.lt; omega
    ne := h.ne
    row := World.ownsRow.kept h.row.popped (grown_set w hp 0 _) (.inr (fun q => h.ne (Option.some.inj q).symm))
    own := h.own
    cur := fun c hc => (h.cur c (mem_pop hc)).chg hg (h.high c (mem_pop hc)).2.2 (fun q => by have h1 := h.low c (mem_pop hc); have h2 := h.own; omega)
    low := fun c hc => h.low c (mem_pop hc)
    high := fun c hc => h.high c (mem_pop hc) }

set_option maxHeartbeats 1000000 in
theorem popM_core (hp base g cap : Nat) (d : Array Cu) (w : World) (h : HeapW w hp base g cap d) (h0 : 0 < d.size) (hsz : d.size ≤ 1048576) :
    Calls Try.prog 162 #[.pointer (some ⟨hp, 0, none⟩)] w fun e w' => (∃ v, e = .returned v) ∧ HeapW w' hp base g cap d.pop ∧ Chg (fun k => k = hp) w w' := by
  have hP : Hid (HeapW (w.setCell ⟨hp, 0, none⟩ (.slice (some ⟨g, 0, none⟩) (d.size - 1) cap)) hp base g cap d.pop) := h.pop
  have c0 := h.hdr
  have c1 := h.row.cell (i := d.size - 1) (by omega)
  have f0 := h.free 0
  have hcap : d.size ≤ cap := by
    rcases h.row.2 with ⟨hv, _⟩ | ⟨g', cap', cur, hv, h1, h2, h3, h4, h5, h6⟩
    · cases hv
    · simp only [Value.slice.injEq, Option.some.injEq, Addr.mk.injEq, and_true, true_and] at hv
      obtain ⟨rfl, rfl⟩ := hv
      exact h3
  generalize d[d.size - 1]! = c at c1
  clear h
  have hC : Hid (Chg (fun k => k = hp) w (w.setCell ⟨hp, 0, none⟩ (.slice (some ⟨g, 0, none⟩) (d.size - 1) cap))) := Chg.of_set _ _ _ _ rfl
  generalize hn : d.size = n at *
  obtain ⟨m, rfl⟩ : ∃ m, n = m + 1 := ⟨n - 1, by omega⟩
  have HN : Hid (d.size = m + 1) := hn
  clear hn
  simp only [Nat.add_sub_cancel] at *
  go_enter Try.func162, Try.ntmps162
  go_wp2
  go_ret
  exact ⟨⟨_, rfl⟩, hP.out, hC.out⟩

set_option maxHeartbeats 1000000 in
theorem pop_core (hp base g cap : Nat) (d : Array Cu) (w : World) (h : HeapW w hp base g cap d) (h0 : 0 < d.size) (hsz : d.size ≤ 1048576) :
    Calls Try.prog 74 #[.iface 128 (.pointer (some ⟨hp, 0, none⟩))] w fun e w' =>
      (∃ v, e = .returned v) ∧ HeapW w' hp base g cap (siftDown gtC (d.size - 1) 0 0 (swp d 0 (d.size - 1))).pop ∧ Chg (fun k => k = g ∨ k = hp) w w' := by
  have H0 : Hid (HeapW w hp base g cap d) := h
  have m1 := meth_len h.hdr
  have m2 := meth_swap h.hdr
  clear h
  have mP := fun w => meth_pop ⟨hp, 0, none⟩ w
  go_enter Try.func74, Try.ntmps74
  go_wp2_with fail
  refine (len_core _ _ _ _).mono ?_
  rintro e w1 ⟨rfl, rfl⟩
  go_wp2_with fail
  refine (swap_at hp base g cap d _ _ 0 (d.size - 1) _ H0.out rfl (by omega) h0 (by omega)).mono ?_
  rintro e w2 ⟨rfl, hH2, hC2⟩
  have H2 : Hid (HeapW w2 hp base g cap (swp d 0 (d.size - 1)) ∧ Chg (fun k => k = g) w1 w2) := ⟨hH2, hC2⟩
  clear hH2 hC2 m1 m2
  have e1 : (d.size : Int) - 1 = ((d.size - 1 : Nat) : Int) := by omega
  rw [e1]
  clear e1
  go_wp2_with fail
  refine (down_core hp base g cap (d.size - 1) 0 (swp d 0 (d.size - 1)) _ H2.out.1 (by rw [size_swp]; omega) (by rw [size_swp]; exact hsz) (by omega)).mono ?_
  rintro e w3 ⟨b, rfl, hH3, hC3⟩
  have H3 : Hid (HeapW w3 hp base g cap (siftDown gtC (d.size - 1) 0 0 (swp d 0 (d.size - 1))) ∧ Chg (fun k => k = g) w1 w3) := ⟨hH3, H2.out.2.trans hC3⟩
  clear hH3 hC3
  go_wp2_with fail
  refine (popM_core hp base g cap _ _ H3.out.1 (by rw [size_sift, size_swp]; exact h0) (by rw [size_sift, size_swp]; exact hsz)).mono ?_
  rintro e w4 ⟨⟨v, rfl⟩, hH4, hC4⟩
  have H4 : Hid (HeapW w4 hp base g cap (siftDown gtC (d.size - 1) 0 0 (swp d 0 (d.size - 1))).pop ∧ Chg (fun k => k = g ∨ k = hp) w1 w4) := ⟨hH4, (H3.out.2.mono (fun k q => .inl q)).trans (hC4.mono (fun k q => .inr q))⟩
  clear hH4 hC4
  go_wp2_with fail
  go_ret
  exact ⟨⟨_, rfl⟩, H4.out.1, H4.out.2⟩
end Go.Proofs.Ytjphalbjimggcae

/-
  The step of the heap, without memory.
-/
namespace Go.Proofs.Ytjphalbjimggcae
set_option linter.unusedVariables false
set_option linter.unusedSimpArgs false
open Go.Sort (siftDown heapBuild swp PermIn)

theorem perm_of_permIn {d d' : Array Cu} (h : PermIn 0 d.size d d') : d'.toList.Perm d.toList := by
  have h2 := h.2.2
  have e1 : d.extract 0 d.size = d := by simp
  have e2 : d'.extract 0 d.size = d' := by rw [← h.1]; simp
  rw [e1, e2] at h2
  exact h2
abbrev fl (c : Cu) : Nat × List Ent := (c.age, c.rest)
/-- A heap: no node is greater than its children. -/
def Heap (d : Array Cu) : Prop := ∀ i, i < d.size → Go.Sort.Ok gtC 0 d.size d i
theorem heap_min {d : Array Cu} (h : Heap d) {c : Cu} (hc : c ∈ d) : lessC c d[0]! = false := by
  obtain ⟨i, hi, rfl⟩ := Array.getElem_of_mem hc
  have := Go.Sort.root_max swo_gtC h i i (Nat.le_refl _) hi
  simp only [Nat.zero_add] at this
  rw [getElem!_pos d i hi] at this
  exact this
theorem heap_build {d : Array Cu} : Heap (heapBuild gtC d.size 0 (d.size / 2) d) ∧ (heapBuild gtC d.size 0 (d.size / 2) d).toList.Perm d.toList := by
  have h := Go.Sort.build swo_gtC d.size 0 (d.size / 2) d (by omega) (fun i h1 h2 k hk hlt => by omega)
  rw [Nat.zero_add] at h
  refine ⟨?_, perm_of_permIn h.2⟩
  intro i hi
  rw [h.2.1] at hi ⊢
  exact h.1 i hi
/-- Another one at the top, put right. -/
theorem heap_fix {c c' : Cu} {t : List Cu} (h : Heap ⟨c :: t⟩) : Heap (siftDown gtC (t.length + 1) 0 0 ⟨c' :: t⟩) ∧ (siftDown gtC (t.length + 1) 0 0 ⟨c' :: t⟩).toList.Perm (c' :: t) := by
  have g : ∀ i, i ≠ 0 → (⟨c' :: t⟩ : Array Cu)[i]! = (⟨c :: t⟩ : Array Cu)[i]! := fun i hi => by
    obtain ⟨j, rfl⟩ : ∃ j, i = j + 1 := ⟨i - 1, by omega⟩
    simp [getElem!_def]
  have hs : (⟨c' :: t⟩ : Array Cu).size = t.length + 1 := rfl
  have hs0 : (⟨c :: t⟩ : Array Cu).size = t.length + 1 := rfl
  have h1 := Go.Sort.sift swo_gtC (t.length + 1) 0 0 (t.length + 1) 0 ⟨c' :: t⟩ (by omega) (by rw [hs]; omega) (Nat.le_refl _) (fun i _ hi hne k hk hlt => by
      have := h i (by rw [hs0]; exact hi) k hk (by rw [hs0]; exact hlt)
      rw [Nat.zero_add, Nat.zero_add] at this ⊢
      rw [g i hne, g k (by omega)]
      exact this) (fun p _ hp => by omega)
  rw [Nat.zero_add] at h1
  have hp : PermIn 0 (⟨c' :: t⟩ : Array Cu).size ⟨c' :: t⟩ (siftDown gtC (t.length + 1) 0 0 ⟨c' :: t⟩) := h1.2
  refine ⟨?_, perm_of_permIn hp⟩
  intro i hi
  rw [hp.1] at hi ⊢
  exact h1.1 i (Nat.zero_le _) hi
/-- The top taken off. -/
theorem heap_pop {c : Cu} {t : List Cu} (h : Heap ⟨c :: t⟩) : Heap (siftDown gtC t.length 0 0 (swp ⟨c :: t⟩ 0 t.length)).pop ∧ (siftDown gtC t.length 0 0 (swp ⟨c :: t⟩ 0 t.length)).pop.toList.Perm t := by
  obtain ⟨d, hd⟩ : ∃ d : Array Cu, d = ⟨c :: t⟩ := ⟨_, rfl⟩
  have hs0 : d.size = t.length + 1 := by rw [hd]; rfl
  have hc0 : d[0]! = c := by rw [hd]; rfl
  rw [← hd] at h ⊢
  obtain ⟨e, he⟩ : ∃ e : Array Cu, e = swp d 0 t.length := ⟨_, rfl⟩
  have hes : e.size = t.length + 1 := by rw [he, Go.Sort.size_swp]; exact hs0
  have hel : e[t.length]! = c := by rw [he, Go.Sort.swp_right d 0 t.length (by omega)]; exact hc0
  have g : ∀ i, i ≠ 0 → i < t.length → e[i]! = d[i]! := fun i h1 h2 => by rw [he]; exact Go.Sort.swp_other d 0 t.length i h1 (by omega)
  have hpe : PermIn 0 d.size d e := by rw [he]; exact Go.Sort.swp_permIn d 0 d.size 0 t.length (Nat.le_refl _) (by omega) (Nat.zero_le _) (by omega) (Nat.le_refl _)
  rw [← he]
  have h1 := Go.Sort.sift swo_gtC t.length 0 0 t.length 0 e (by omega) (by omega) (Nat.le_refl _) (fun i _ hi hne k hk hlt => by
      have := h i (by omega) k hk (by omega)
      rw [Nat.zero_add, Nat.zero_add] at this ⊢
      rw [g i hne hi, g k (by omega) hlt]
      exact this) (fun p _ hp => by omega)
  rw [Nat.zero_add] at h1
  obtain ⟨f, hf⟩ : ∃ f : Array Cu, f = siftDown gtC t.length 0 0 e := ⟨_, rfl⟩
  rw [← hf] at h1 ⊢
  have hfs : f.size = t.length + 1 := by rw [h1.2.1]; exact hes
  have hfl : f[t.length]! = c := by rw [h1.2.2.1 t.length (.inr (Nat.le_refl _))]; exact hel
  have hpf : PermIn 0 d.size d f := by
    refine Go.Sort.permIn_trans d e f 0 d.size hpe ?_
    exact Go.Sort.permIn_mono e f 0 t.length 0 d.size (Nat.le_refl _) (by omega) (by omega) h1.2
  have hps : f.pop.size = t.length := by simp [hfs]
  refine ⟨?_, ?_⟩
  · intro i hi k hk hlt
    rw [hps] at hi hlt
    have := h1.1 i (Nat.zero_le _) hi k hk hlt
    rw [Nat.zero_add, Nat.zero_add] at this ⊢
    have q : ∀ j, j < t.length → f.pop[j]! = f[j]! := fun j hj => by
      rw [getElem!_pos f.pop j (by omega), getElem!_pos f j (by omega)]; simp
    rw [q i hi, q k hlt]
    exact this
  · have hP := perm_of_permIn hpf
    rw [hd] at hP
    have hdl : f.toList = f.pop.toList ++ [c] := by
      rw [Array.toList_pop]
      have hlen : f.toList.length = t.length + 1 := by rw [Array.length_toList]; exact hfs
      have hne : f.toList ≠ [] := by intro q; rw [q] at hlen; simp at hlen
      have hgl : f.toList.getLast hne = c := by
        rw [List.getLast_eq_getElem]
        have : f[t.length]! = f[t.length]'(by omega) := getElem!_pos f t.length (by omega)
        rw [this] at hfl
        rw [← hfl]
        simp [hfs]
      have := List.dropLast_concat_getLast hne
      rw [hgl] at this
      exact this.symm
    rw [hdl] at hP
    have hP2 : (c :: f.pop.toList).Perm (c :: t) := (List.perm_append_singleton c f.pop.toList).symm.trans hP
    exact hP2.cons_inv

/-- The heap's least one gives the next of all. -/
theorem flow_min {A : Nat → Ent → Prop} {N : Nat} {P : List (Nat × Ent)} {c : Cu} {t : List Cu} (hh : Heap ⟨c :: t⟩) (hpos : ∀ x ∈ c :: t, x.pos < x.r.es.length) (h : Flow A N P ((c :: t).map fl)) :
    (∀ p ∈ P, Lt2 p (c.age, c.head)) ∧ Flow A N (P ++ [(c.age, c.head)]) ((c.age, c.r.es.drop (c.pos + 1)) :: t.map fl) := by
  have e : (c :: t).map fl = (c.age, c.head :: c.r.es.drop (c.pos + 1)) :: t.map fl := by
    rw [List.map_cons]
    simp only [fl, Cu.rest_cons (hpos c (by simp))]
  rw [e] at h
  refine ⟨h.next, h.step (fun p hp => ?_)⟩
  obtain ⟨x, hx, rfl⟩ := List.mem_map.1 hp
  refine ⟨x.head, x.r.es.drop (x.pos + 1), Cu.rest_cons (hpos x (List.mem_cons_of_mem _ hx)), ?_⟩
  have := heap_min hh (c := x) (by simp [hx])
  exact lessC_false.1 this
end Go.Proofs.Ytjphalbjimggcae

/-
  The step of the heap in memory.
-/
namespace Go.Proofs.Ytjphalbjimggcae
open Go.ChangeShapes Go.WideShapes Go.ChangeAt Go.RowKit Go.Deep
set_option linter.unusedVariables false
set_option linter.unusedSimpArgs false
set_option maxRecDepth 100000
open Go.Sort (siftDown heapBuild swp PermIn)

/-- The heap, ordered, and what is still to come of it. -/
structure HeapOk (A : Nat → Ent → Prop) (N : Nat) (S : Nat → Prop) (hp base g cap : Nat) (w : World) (P : List (Nat × Ent)) (d : Array Cu) : Prop where
  mem : HeapW w hp base g cap d
  heap : Heap d
  flow : Flow A N P (d.toList.map fl)
  blks : d.toList.Pairwise fun a b => a.blk ≠ b.blk
  inG : S g
  inH : S hp
  inC : ∀ c ∈ d, S c.blk
  few : d.size ≤ 1048576

theorem meth_adv (a : Addr) (w : World) : (method 337 124 (.pointer (some a)) "loop.example/s01854/impl.advance").run Try.prog w = .ok (159, .pointer (some a)) w := by kernel_rfl

theorem HeapW.onTop {w : World} {hp base g cap : Nat} {c : Cu} {t : List Cu} (h : HeapW w hp base g cap ⟨c :: t⟩) (hb : (c :: t).Pairwise fun a b => a.blk ≠ b.blk) (hn : c.pos + 1 < c.r.es.length) :
    HeapW (w.setCell ⟨c.blk, 1, none⟩ (.int .i64 (c.pos + 1 : Nat))) hp base g cap ⟨c.on :: t⟩ := by
  have hc : c ∈ (⟨c :: t⟩ : Array Cu) := by simp
  have hg : Chg (fun k => k = c.blk) w (w.setCell ⟨c.blk, 1, none⟩ (.int .i64 (c.pos + 1 : Nat))) := Chg.of_set _ _ _ _ rfl
  have hhi := h.high c hc
  have hlo := h.low c hc
  have hm : ∀ x ∈ (⟨c.on :: t⟩ : Array Cu), x = c.on ∨ x ∈ t := fun x hx => by simpa using hx
  have ht : ∀ x ∈ t, x ∈ (⟨c :: t⟩ : Array Cu) := fun x hx => by simp [hx]
  exact {
    hdr := by rw [World.cell?_setCell_other _ _ _ _ (fun q => hhi.2.2 (congrArg Addr.block q))]; exact h.hdr
    free := fun j => by rw [World.frozen?_setCell]; exact h.free j
    lt := by have := hg.size; have := h.lt; omega
    ne := h.ne
    row := World.ownsRow.kept (show OwnH w base g cap ⟨c.on :: t⟩ from h.row) (grown_set w c.blk 1 _) (.inr (fun q => hhi.2.1 (Option.some.inj q).symm))
    own := h.own
    cur := fun x hx => by
      rcases hm x hx with rfl | hx
      · exact (h.cur c hc).on (by omega) hn
      · have hne := (List.pairwise_cons.1 hb).1 x hx
        exact (h.cur x (ht x hx)).chg hg (fun q => hne q.symm) (fun q => by have := h.low x (ht x hx); omega)
    low := fun x hx => by
      rcases hm x hx with rfl | hx
      · exact hlo
      · exact h.low x (ht x hx)
    high := fun x hx => by
      rcases hm x hx with rfl | hx
      · exact hhi
      · exact h.high x (ht x hx) }

set_option maxHeartbeats 2000000 in
theorem step_core (A : Nat → Ent → Prop) (N : Nat) (S : Nat → Prop) (hp base g cap : Nat) (w : World) (P : List (Nat × Ent)) (c : Cu) (t : List Cu) (h : HeapOk A N S hp base g cap w P ⟨c :: t⟩) :
    Calls Try.prog 45 #[.pointer (some ⟨hp, 0, none⟩)] w fun e w' => e = .returned (.tuple #[]) ∧ ∃ d', HeapOk A N S hp base g cap w' (P ++ [(c.age, c.head)]) d' ∧ Chg S w w' := by
  have H0 : Hid (HeapOk A N S hp base g cap w P ⟨c :: t⟩) := h
  have hc : c ∈ (⟨c :: t⟩ : Array Cu) := by simp
  have hfew : t.length + 1 ≤ 1048576 := h.few
  have hF : Hid ((∀ p ∈ P, Lt2 p (c.age, c.head)) ∧ Flow A N (P ++ [(c.age, c.head)]) ((c.age, c.r.es.drop (c.pos + 1)) :: t.map fl)) := flow_min h.heap (fun x hx => (h.mem.cur x (by simpa using hx)).here) h.flow
  have c0 : w.cell? ⟨hp, 0, none⟩ = some (.slice (some ⟨g, 0, none⟩) (t.length + 1) cap) := h.mem.hdr
  have c1 : w.cell? ⟨g, 0, none⟩ = some (ifc c) := h.mem.row.cell (i := 0) (by simp)
  have mA := meth_adv
  have HC : Hid (CuAt w c) := h.mem.cur c hc
  have hz : (0 : Int) < ((t.length + 1 : Nat) : Int) := by omega
  clear h
  by_cases hn : c.pos + 1 < c.r.es.length
  · go_enter Try.func45, Try.ntmps45
    go_wp2_with fail
    refine (advance_more c _ HC.out hn).mono ?_
    rintro e w1 ⟨rfl, w0, hb0, rfl⟩
    have H1 : Hid (HeapW (w0.setCell ⟨c.blk, 1, none⟩ (.int .i64 (c.pos + 1 : Nat))) hp base g cap ⟨c.on :: t⟩) := (H0.out.mem.below hb0).onTop H0.out.blks hn
    have hC1 : Chg S w (w0.setCell ⟨c.blk, 1, none⟩ (.int .i64 (c.pos + 1 : Nat))) := (Chg.of_below hb0).trans (Chg.of_set _ _ _ _ (H0.out.inC c hc))
    generalize w0.setCell ⟨c.blk, 1, none⟩ (.int .i64 (c.pos + 1 : Nat)) = W1 at *
    have HC1 : Hid (Chg S w W1) := hC1
    clear hC1 c0 c1
    go_wp2_with fail
    refine (fix_core hp base g cap ⟨c.on :: t⟩ _ H1.out hfew).mono ?_
    rintro e w2 ⟨rfl, hH2, hC2⟩
    have hx := heap_fix (c' := c.on) H0.out.heap
    have H2 : Hid (HeapOk A N S hp base g cap w2 (P ++ [(c.age, c.head)]) (siftDown gtC (t.length + 1) 0 0 ⟨c.on :: t⟩) ∧ Chg S w w2) := by
      refine ⟨⟨hH2, hx.1, ?_, ?_, H0.out.inG, H0.out.inH, ?_, ?_⟩, HC1.out.trans (hC2.mono (fun k q => by rw [q]; exact H0.out.inG))⟩
      · exact (hF.out.2 : Flow A N _ ((c.on :: t).map fl)).perm (hx.2.map fl).symm
      · exact (hx.2.pairwise_iff (fun h => Ne.symm h)).2 (List.pairwise_cons.2 ⟨fun a ha => (List.pairwise_cons.1 H0.out.blks).1 a ha, (List.pairwise_cons.1 H0.out.blks).2⟩)
      · intro x hx'
        have := hx.2.mem_iff.1 (Array.mem_toList_iff.2 hx')
        rcases List.mem_cons.1 this with rfl | q
        · exact H0.out.inC c hc
        · exact H0.out.inC x (by simp [q])
      · rw [size_sift]; exact hfew
    clear hH2 hC2 hx
    go_wp2_with fail
    (try simp only [Exit.inBlock, Exit.then])
    refine bodyPost_ret (results_none rfl _ _ _) rfl ?_
    exact ⟨rfl, _, H2.out.1, H2.out.2⟩
  · go_enter Try.func45, Try.ntmps45
    go_wp2_with fail
    refine (advance_last c _ HC.out hn).mono ?_
    rintro e w1 ⟨rfl, hb1⟩
    have H1 : Hid (HeapW w1 hp base g cap ⟨c :: t⟩ ∧ Chg S w w1) := ⟨H0.out.mem.below hb1, Chg.of_below hb1⟩
    clear hb1 c0 c1
    go_wp2_with fail
    refine (pop_core hp base g cap ⟨c :: t⟩ _ H1.out.1 (by simp) hfew).mono ?_
    rintro e w2 ⟨⟨v, rfl⟩, hH2, hC2⟩
    have hx := heap_pop H0.out.heap
    have hH2' : HeapW w2 hp base g cap (siftDown gtC t.length 0 0 (swp ⟨c :: t⟩ 0 t.length)).pop := hH2
    have H2 : Hid (HeapOk A N S hp base g cap w2 (P ++ [(c.age, c.head)]) (siftDown gtC t.length 0 0 (swp ⟨c :: t⟩ 0 t.length)).pop ∧ Chg S w w2) := by
      refine ⟨⟨hH2', hx.1, ?_, ?_, H0.out.inG, H0.out.inH, ?_, ?_⟩, H1.out.2.trans (hC2.mono (fun k q => q.elim (fun q => q ▸ H0.out.inG) (fun q => q ▸ H0.out.inH)))⟩
      · have hf := hF.out.2
        rw [List.drop_of_length_le (by omega)] at hf
        exact hf.drop.perm (hx.2.map fl).symm
      · exact (hx.2.pairwise_iff (fun h => Ne.symm h)).2 (List.pairwise_cons.1 H0.out.blks).2
      · intro x hx'
        have := hx.2.mem_iff.1 (Array.mem_toList_iff.2 hx')
        exact H0.out.inC x (by simp [this])
      · have := hx.2.length_eq
        rw [Array.length_toList] at this
        omega
    clear hH2 hH2' hC2 hx
    go_wp2_with fail
    go_end0
    exact ⟨rfl, _, H2.out.1, H2.out.2⟩
end Go.Proofs.Ytjphalbjimggcae

