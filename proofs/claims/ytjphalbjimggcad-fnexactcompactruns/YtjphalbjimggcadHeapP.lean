/-
  container/heap over the cursors: Init, Fix at the top, Pop; the step.
-/
import Derived.Test.YtjphalbjimggcadHeapD
namespace Go.Proofs.Ytjphalbjimggcad
open Go.ChangeShapes Go.WideShapes Go.ChangeAt Go.RowKit Go.Deep Go.Sort
set_option linter.unusedVariables false
set_option linter.unusedSimpArgs false
set_option maxRecDepth 100000

set_option maxHeartbeats 1000000 in
theorem up_zero (v : Value) (w : World) : Calls Try.prog 90 #[v, .int .i64 0] w fun e w' => e = .returned (.tuple #[]) ∧ w' = w := by
  go_enter Try.func90, Try.ntmps90
  go_wp2_with fail
  go_loopw [1] (fun c wr => c = .int .i64 0 ∧ wr = w) (fun _ _ => 0)
  case atStart => exact ⟨rfl, rfl⟩
  case round =>
    obtain ⟨rfl, rfl⟩ := hrel
    go_wp2_with fail
    go_end0
    exact ⟨rfl, rfl⟩

set_option maxHeartbeats 1000000 in
theorem fix_core (hp base g cap : Nat) (d : Array Cu) (w : World) (h : HeapW w hp base g cap d) (hsz : d.size ≤ 1048576) :
    Calls Try.prog 66 #[.iface 107 (.pointer (some ⟨hp, 0, none⟩)), .int .i64 0] w fun e w' =>
      e = .returned (.tuple #[]) ∧ HeapW w' hp base g cap (siftDown gtC d.size 0 0 d) ∧ Chg (fun k => k = g) w w' := by
  have H0 : Hid (HeapW w hp base g cap d) := h
  have m1 := meth_len h.hdr
  clear h
  go_enter Try.func66, Try.ntmps66
  go_wp2_with fail
  refine (len_core _ _ _ _).mono ?_
  rintro e w1 ⟨rfl, rfl⟩
  go_wp2_with fail
  refine (down_core hp base g cap d.size 0 d _ H0.out (Nat.le_refl _) hsz (by omega)).mono ?_
  rintro e w2 ⟨b, rfl, hH, hC⟩
  have H2 : Hid (HeapW w2 hp base g cap (siftDown gtC d.size 0 0 d) ∧ Chg (fun k => k = g) w1 w2) := ⟨hH, hC⟩
  clear hH hC m1
  cases b
  · go_wp2_with fail
    refine (up_zero _ _).mono ?_
    rintro e w3 ⟨rfl, rfl⟩
    go_wp2_with fail
    go_end0
    exact ⟨rfl, H2.out.1, H2.out.2⟩
  · go_wp2_with fail
    go_end0
    exact ⟨rfl, H2.out.1, H2.out.2⟩

/-- How the building stands. -/
structure BuildAt (hp base g cap : Nat) (d : Array Cu) (w : World) (k : Nat) (d' : Array Cu) (w' : World) : Prop where
  heap : HeapW w' hp base g cap d'
  same : heapBuild gtC d.size 0 k d' = heapBuild gtC d.size 0 (d.size / 2) d
  size : d'.size = d.size
  chg : Chg (fun k => k = g) w w'
theorem size_sift0 (n : Nat) : ∀ (m i : Nat) (d : Array Cu), n - i ≤ m → (siftDown gtC n 0 i d).size = d.size
  | 0, i, d, h => by rw [sift_none (by omega)]
  | m + 1, i, d, h => by
    by_cases h1 : n ≤ 2 * i + 1
    · rw [sift_none h1]
    · have hl : ∀ q : 2 * i + 2 < n → lessC d[2 * i + 2]! d[2 * i + 1]! = false, (siftDown gtC n 0 i d).size = d.size := fun q => by
        cases hM : lessC d[2 * i + 1]! d[i]!
        · rw [sift_l_stop (by omega) q hM]
        · rw [sift_l_go (by omega) q hM, size_sift0 n m _ _ (by omega), size_swp]
      by_cases h2 : 2 * i + 2 < n
      · cases hL : lessC d[2 * i + 2]! d[2 * i + 1]!
        · exact hl (fun _ => hL)
        · cases hM : lessC d[2 * i + 2]! d[i]!
          · rw [sift_r_stop h2 hL hM]
          · rw [sift_r_go h2 hL hM, size_sift0 n m _ _ (by omega), size_swp]
      · exact hl (fun q => absurd q h2)
theorem size_sift (n i : Nat) (d : Array Cu) : (siftDown gtC n 0 i d).size = d.size := size_sift0 n _ i d (Nat.le_refl _)

set_option maxHeartbeats 1000000 in
theorem init_core (hp base g cap : Nat) (d : Array Cu) (w : World) (h : HeapW w hp base g cap d) (hsz : d.size ≤ 1048576) :
    Calls Try.prog 62 #[.iface 107 (.pointer (some ⟨hp, 0, none⟩))] w fun e w' =>
      e = .returned (.tuple #[]) ∧ HeapW w' hp base g cap (heapBuild gtC d.size 0 (d.size / 2) d) ∧ Chg (fun k => k = g) w w' := by
  have H0 : Hid (HeapW w hp base g cap d) := h
  have m1 := meth_len h.hdr
  clear h
  go_enter Try.func62, Try.ntmps62
  go_wp2_with fail
  refine (len_core _ _ _ _).mono ?_
  rintro e w1 ⟨rfl, rfl⟩
  go_wp2_with fail
  go_loopw [3] (fun c wr => ∃ (k : Nat) (d' : Array Cu), k ≤ d.size / 2 ∧ c = .int .i64 ((k : Int) - 1) ∧ BuildAt hp base g cap d w1 k d' wr) (fun c _ => (intOf c + 1).toNat)
  case atStart => exact ⟨d.size / 2, d, Nat.le_refl _, by go_num, H0.out, rfl, rfl, Chg.refl _ _⟩
  case round =>
    obtain ⟨k, d', hk, rfl, hD⟩ := hrel
    have HD : Hid (BuildAt hp base g cap d w1 k d' wr) := hD
    have hs1 : d.size ≤ d'.size := by rw [hD.size]; omega
    have hs2 : d'.size ≤ 1048576 := by rw [hD.size]; exact hsz
    clear hD
    by_cases h0 : k = 0
    · subst h0
      go_wp2_with fail
      go_end0
      refine ⟨rfl, ?_, HD.out.chg⟩
      rw [← HD.out.same]; exact HD.out.heap
    · obtain ⟨j, rfl⟩ : ∃ j, k = j + 1 := ⟨k - 1, by omega⟩
      have e1 : (((j + 1 : Nat) : Int) - 1) = (j : Int) := by omega
      rw [e1]
      have zj : (0 : Int) ≤ (j : Int) := by omega
      clear e1
      go_wp2_with fail
      refine (down_core hp base g cap d.size j d' _ HD.out.heap hs1 hs2 (by omega)).mono ?_
      rintro e w2 ⟨b, rfl, hH, hC⟩
      have H2 : Hid (BuildAt hp base g cap d w1 j (siftDown gtC d.size 0 j d') w2) := ⟨hH, by rw [← HD.out.same]; rfl, by rw [size_sift]; exact HD.out.size, HD.out.chg.trans hC⟩
      clear hH hC
      go_wp2_with fail
      go_roundw
      case rel => exact ⟨j, _, by omega, by go_num, H2.out⟩
      case measure => go_light; simp [intOf]

theorem OwnH.popped {w : World} {base g cap : Nat} {d : Array Cu} (h : OwnH w base g cap d) : OwnH w base g cap d.pop := by
  rcases h.2 with ⟨hv, _⟩ | ⟨g', cap', cur, hv, h1, h2, h3, h4, h5, h6⟩
  · cases hv
  · simp only [Value.slice.injEq, Option.some.injEq, Addr.mk.injEq, and_true, true_and] at hv
    obtain ⟨rfl, rfl⟩ := hv
    refine ⟨by simp, .inr ⟨g, cap, cur, rfl, h1, h2, by simp; omega, h4, h5, ?_⟩⟩
    have e : (d.pop.toList.map ifc) = (d.toList.map ifc).take (d.size - 1) := by
      rw [Array.toList_pop, List.dropLast_eq_take, List.map_take]; simp
    rw [e, ← h6, List.take_take]
    congr 1
    simp
theorem mem_pop {d : Array Cu} {c : Cu} (h : c ∈ d.pop) : c ∈ d := by
  rw [← Array.mem_toList_iff, Array.toList_pop] at h
  have := List.dropLast_subset _ h
  simpa using this
theorem HeapW.pop {w : World} {hp base g cap : Nat} {d : Array Cu} (h : HeapW w hp base g cap d) : HeapW (w.setCell ⟨hp, 0, none⟩ (.slice (some ⟨g, 0, none⟩) (d.size - 1) cap)) hp base g cap d.pop := by
  have hg : Chg (fun k => k = hp) w (w.setCell ⟨hp, 0, none⟩ (.slice (some ⟨g, 0, none⟩) (d.size - 1) cap)) := Chg.of_set _ _ _ _ rfl
  exact {
    hdr := by rw [World.cell?_setCell_same _ _ _ h.hdr]; simp
    free := fun j => by rw [World.frozen?_setCell]; exact h.free j
    lt := by have := hg.size; have := h.lt; omega
    ne := h.ne
    row := World.ownsRow.kept h.row.popped (grown_set w hp 0 _) (.inr (fun q => h.ne (Option.some.inj q).symm))
    own := h.own
    cur := fun c hc => (h.cur c (mem_pop hc)).chg hg (h.high c (mem_pop hc)).2.2 (fun q => by have h1 := h.low c (mem_pop hc); have h2 := h.own; omega)
    low := fun c hc => h.low c (mem_pop hc)
    high := fun c hc => h.high c (mem_pop hc) }

set_option maxHeartbeats 1000000 in
theorem popM_core (hp base g cap : Nat) (d : Array Cu) (w : World) (h : HeapW w hp base g cap d) (h0 : 0 < d.size) (hsz : d.size ≤ 1048576) :
    Calls Try.prog 130 #[.pointer (some ⟨hp, 0, none⟩)] w fun e w' => (∃ v, e = .returned v) ∧ HeapW w' hp base g cap d.pop ∧ Chg (fun k => k = hp) w w' := by
  have hP : Hid (HeapW (w.setCell ⟨hp, 0, none⟩ (.slice (some ⟨g, 0, none⟩) (d.size - 1) cap)) hp base g cap d.pop) := h.pop
  have c0 := h.hdr
  have c1 := h.row.cell (i := d.size - 1) (by omega)
  have f0 := h.free 0
  have hcap : d.size ≤ cap := by
    rcases h.row.2 with ⟨hv, _⟩ | ⟨g', cap', cur, hv, h1, h2, h3, h4, h5, h6⟩
    · cases hv
    · simp only [Value.slice.injEq, Option.some.injEq, Addr.mk.injEq, and_true, true_and] at hv
      obtain ⟨rfl, rfl⟩ := hv
      exact h3
  generalize d[d.size - 1]! = c at c1
  clear h
  have hC : Hid (Chg (fun k => k = hp) w (w.setCell ⟨hp, 0, none⟩ (.slice (some ⟨g, 0, none⟩) (d.size - 1) cap))) := Chg.of_set _ _ _ _ rfl
  generalize hn : d.size = n at *
  obtain ⟨m, rfl⟩ : ∃ m, n = m + 1 := ⟨n - 1, by omega⟩
  have HN : Hid (d.size = m + 1) := hn
  clear hn
  simp only [Nat.add_sub_cancel] at *
  go_enter Try.func130, Try.ntmps130
  go_wp2
  go_ret
  exact ⟨⟨_, rfl⟩, hP.out, hC.out⟩

set_option maxHeartbeats 1000000 in
theorem pop_core (hp base g cap : Nat) (d : Array Cu) (w : World) (h : HeapW w hp base g cap d) (h0 : 0 < d.size) (hsz : d.size ≤ 1048576) :
    Calls Try.prog 67 #[.iface 107 (.pointer (some ⟨hp, 0, none⟩))] w fun e w' =>
      (∃ v, e = .returned v) ∧ HeapW w' hp base g cap (siftDown gtC (d.size - 1) 0 0 (swp d 0 (d.size - 1))).pop ∧ Chg (fun k => k = g ∨ k = hp) w w' := by
  have H0 : Hid (HeapW w hp base g cap d) := h
  have m1 := meth_len h.hdr
  have m2 := meth_swap h.hdr
  clear h
  have mP := fun w => meth_pop ⟨hp, 0, none⟩ w
  go_enter Try.func67, Try.ntmps67
  go_wp2_with fail
  refine (len_core _ _ _ _).mono ?_
  rintro e w1 ⟨rfl, rfl⟩
  go_wp2_with fail
  refine (swap_at hp base g cap d _ _ 0 (d.size - 1) _ H0.out rfl (by omega) h0 (by omega)).mono ?_
  rintro e w2 ⟨rfl, hH2, hC2⟩
  have H2 : Hid (HeapW w2 hp base g cap (swp d 0 (d.size - 1)) ∧ Chg (fun k => k = g) w1 w2) := ⟨hH2, hC2⟩
  clear hH2 hC2 m1 m2
  have e1 : (d.size : Int) - 1 = ((d.size - 1 : Nat) : Int) := by omega
  rw [e1]
  clear e1
  go_wp2_with fail
  refine (down_core hp base g cap (d.size - 1) 0 (swp d 0 (d.size - 1)) _ H2.out.1 (by rw [size_swp]; omega) (by rw [size_swp]; exact hsz) (by omega)).mono ?_
  rintro e w3 ⟨b, rfl, hH3, hC3⟩
  have H3 : Hid (HeapW w3 hp base g cap (siftDown gtC (d.size - 1) 0 0 (swp d 0 (d.size - 1))) ∧ Chg (fun k => k = g) w1 w3) := ⟨hH3, H2.out.2.trans hC3⟩
  clear hH3 hC3
  go_wp2_with fail
  refine (popM_core hp base g cap _ _ H3.out.1 (by rw [size_sift, size_swp]; exact h0) (by rw [size_sift, size_swp]; exact hsz)).mono ?_
  rintro e w4 ⟨⟨v, rfl⟩, hH4, hC4⟩
  have H4 : Hid (HeapW w4 hp base g cap (siftDown gtC (d.size - 1) 0 0 (swp d 0 (d.size - 1))).pop ∧ Chg (fun k => k = g ∨ k = hp) w1 w4) := ⟨hH4, (H3.out.2.mono (fun k q => .inl q)).trans (hC4.mono (fun k q => .inr q))⟩
  clear hH4 hC4
  go_wp2_with fail
  go_ret
  exact ⟨⟨_, rfl⟩, H4.out.1, H4.out.2⟩
end Go.Proofs.Ytjphalbjimggcad
