/-
  container/heap over the cursors: down.
-/
import Derived.Test.YtjphalbjimggcaePkAO
namespace Go.Proofs.Ytjphalbjimggcae
open Go.ChangeShapes Go.WideShapes Go.ChangeAt Go.RowKit Go.Deep Go.Sort
set_option linter.unusedVariables false
set_option linter.unusedSimpArgs false
set_option maxRecDepth 100000

theorem load_heap (g : Nat) (v : Value) (w : World) (h : w.cell? ⟨g, 0, none⟩ = some v) : (loadVar 90 ⟨g, 0, none⟩).run Try.prog w = .ok v w := by
  have a1 : ∀ w, (isAgg 90).run Try.prog w = .ok false w := fun w => by kernel_rfl
  unfold loadVar
  simp [go_sem, h, a1]
theorem meth_less0 (a : Addr) (w : World) : (method 337 128 (.pointer (some a)) "Less").run Try.prog w = ((do let v ← loadVar 90 a; pure (157, v)) : Sem (FuncId × Value)).run Try.prog w := by kernel_rfl
theorem meth_swap0 (a : Addr) (w : World) : (method 337 128 (.pointer (some a)) "Swap").run Try.prog w = ((do let v ← loadVar 90 a; pure (158, v)) : Sem (FuncId × Value)).run Try.prog w := by kernel_rfl
theorem meth_pop (a : Addr) (w : World) : (method 337 128 (.pointer (some a)) "Pop").run Try.prog w = .ok (162, .pointer (some a)) w := by kernel_rfl
theorem meth_len {g : Nat} {v : Value} {w : World} (h : w.cell? ⟨g, 0, none⟩ = some v) : (method 337 128 (.pointer (some ⟨g, 0, none⟩)) "Len").run Try.prog w = .ok (43, v) w := by
  rw [meth_len0, Sem.run_bind, load_heap g v w h]; rfl
theorem meth_less {g : Nat} {v : Value} {w : World} (h : w.cell? ⟨g, 0, none⟩ = some v) : (method 337 128 (.pointer (some ⟨g, 0, none⟩)) "Less").run Try.prog w = .ok (157, v) w := by
  rw [meth_less0, Sem.run_bind, load_heap g v w h]; rfl
theorem meth_swap {g : Nat} {v : Value} {w : World} (h : w.cell? ⟨g, 0, none⟩ = some v) : (method 337 128 (.pointer (some ⟨g, 0, none⟩)) "Swap").run Try.prog w = .ok (158, v) w := by
  rw [meth_swap0, Sem.run_bind, load_heap g v w h]; rfl

theorem len_core (g : Option Addr) (n cap : Nat) (w : World) : Calls Try.prog 43 #[.slice g n cap] w fun e w' => e = .returned (.int .i64 n) ∧ w' = w := by
  go_enter Try.func43, Try.ntmps43
  go_wp2
  go_ret
  exact ⟨rfl, rfl⟩

/-- The heap in memory: its variable, its row, its cursors. -/
structure HeapW (w : World) (hp base g cap : Nat) (d : Array Cu) : Prop where
  hdr : w.cell? ⟨hp, 0, none⟩ = some (.slice (some ⟨g, 0, none⟩) d.size cap)
  free : ∀ j, w.frozen? ⟨hp, j, none⟩ = false
  lt : hp < w.heap.size
  ne : ¬ hp = g
  row : OwnH w base g cap d
  own : base ≤ hp
  cur : ∀ c ∈ d, CuAt w c
  low : ∀ c ∈ d, c.r.b < base
  high : ∀ c ∈ d, base ≤ c.blk ∧ ¬ c.blk = g ∧ ¬ c.blk = hp
theorem HeapW.below {w w' : World} {hp base g cap : Nat} {d : Array Cu} (h : HeapW w hp base g cap d) (hb : Below w.heap.size w w') : HeapW w' hp base g cap d where
  hdr := by rw [hb.cell (p := ⟨hp, 0, none⟩) h.lt]; exact h.hdr
  free := fun j => by rw [hb.frozen (p := ⟨hp, j, none⟩) h.lt]; exact h.free j
  lt := by have := hb.size; have := h.lt; omega
  ne := h.ne
  row := h.row.below hb h.row.lt.2
  own := h.own
  cur := fun c hc => (h.cur c hc).below hb
  low := h.low
  high := h.high
theorem HeapW.turn {w w' : World} {hp base g cap : Nat} {d d' : Array Cu} (h : HeapW w hp base g cap d) (hb : Chg (fun k => k = g) w w') (hO : OwnH w' base g cap d') (hs : d'.size = d.size) (hm : ∀ c ∈ d', c ∈ d) : HeapW w' hp base g cap d' where
  hdr := by rw [hb.cell (p := ⟨hp, 0, none⟩) h.lt h.ne, hs]; exact h.hdr
  free := fun j => by rw [hb.frozen (p := ⟨hp, j, none⟩) h.lt h.ne]; exact h.free j
  lt := by have := hb.size; have := h.lt; omega
  ne := h.ne
  row := hO
  own := h.own
  cur := fun c hc => (h.cur c (hm c hc)).chg hb (h.high c (hm c hc)).2.1 (fun q => by have h1 := h.low c (hm c hc); have h2 := h.row.lt.1; omega)
  low := fun c hc => h.low c (hm c hc)
  high := fun c hc => h.high c (hm c hc)

theorem mem_get {d : Array Cu} {i : Nat} (hi : i < d.size) : d[i]! ∈ d := by rw [getElem!_pos d i hi]; simp
theorem mem_swp {d : Array Cu} {i j : Nat} (hi : i < d.size) (hj : j < d.size) {c : Cu} (h : c ∈ swp d i j) : c ∈ d := by
  unfold swp at h
  rw [← Array.mem_toList_iff, Array.toList_setIfInBounds] at h
  rcases List.mem_or_eq_of_mem_set h with h | rfl
  · rw [Array.toList_setIfInBounds] at h
    rcases List.mem_or_eq_of_mem_set h with h | rfl
    · simpa using h
    · exact mem_get hj
  · exact mem_get hi
theorem size_swp (d : Array Cu) (i j : Nat) : (swp d i j).size = d.size := by simp [swp]
theorem OwnH.swapped {w : World} {base g cap : Nat} {d : Array Cu} (h : OwnH w base g cap d) {i j : Nat} : OwnH ((w.setCell ⟨g, i, none⟩ (ifc d[j]!)).setCell ⟨g, j, none⟩ (ifc d[i]!)) base g cap (swp d i j) := by
  have h1 := (World.ownsRow.stored h i (ifc d[j]!)).1
  have h2 := (World.ownsRow.stored h1 j (ifc d[i]!)).1
  unfold OwnH
  rw [size_swp]
  have : ((swp d i j).toList.map ifc) = ((d.toList.map ifc).set i (ifc d[j]!)).set j (ifc d[i]!) := by
    unfold Go.Sort.swp
    rw [Array.toList_setIfInBounds, Array.toList_setIfInBounds, List.map_set, List.map_set]
  rw [this]
  exact h2
theorem swap_core (hp base g cap : Nat) (d : Array Cu) (i j : Nat) (w : World) (h : HeapW w hp base g cap d) (hi : i < d.size) (hj : j < d.size) :
    Calls Try.prog 158 #[.slice (some ⟨g, 0, none⟩) d.size cap, .int .i64 i, .int .i64 j] w fun e w' => e = .returned (.tuple #[]) ∧ HeapW w' hp base g cap (swp d i j) ∧ Chg (fun k => k = g) w w' := by
  refine (swap_cells g cap d.size i j _ _ w rfl rfl hi hj (h.row.cell hi) (h.row.cell hj) (World.ownsRow.frozenAt h.row i) (World.ownsRow.frozenAt h.row j)).mono ?_
  rintro e w' ⟨he, q, rfl⟩
  have c1 : Chg (fun k => k = g) w ((w.setCell ⟨g, i, none⟩ (ifc d[j]!)).setCell ⟨g, j, none⟩ (ifc d[i]!)) := (Chg.of_set (S := fun k => k = g) w g i _ rfl).trans (Chg.of_set (S := fun k => k = g) _ g j _ rfl)
  have hb := below_drewN (Below.refl ((w.setCell ⟨g, i, none⟩ (ifc d[j]!)).setCell ⟨g, j, none⟩ (ifc d[i]!)).heap.size ((w.setCell ⟨g, i, none⟩ (ifc d[j]!)).setCell ⟨g, j, none⟩ (ifc d[i]!))) q
  have c2 := c1.trans (Chg.of_below hb)
  have hO : OwnH ((w.setCell ⟨g, i, none⟩ (ifc d[j]!)).setCell ⟨g, j, none⟩ (ifc d[i]!)) base g cap (swp d i j) := h.row.swapped
  exact ⟨he, h.turn c2 (hO.below hb hO.lt.2) (size_swp _ _ _) (fun c hc => mem_swp hi hj hc), c2⟩

theorem sift_none {n i : Nat} {d : Array Cu} (h : n ≤ 2 * i + 1) : siftDown gtC n 0 i d = d := by rw [siftDown, dif_pos (by omega)]
theorem sift_r_stop {n i : Nat} {d : Array Cu} (h : 2 * i + 2 < n) (h1 : lessC d[2 * i + 2]! d[2 * i + 1]! = true) (h2 : lessC d[2 * i + 2]! d[i]! = false) : siftDown gtC n 0 i d = d := by
  rw [siftDown, dif_neg (by omega)]
  simp only [Nat.zero_add, gtC]
  rw [if_pos (by simp [h1]; omega), if_pos (by simp [h2])]
theorem sift_r_go {n i : Nat} {d : Array Cu} (h : 2 * i + 2 < n) (h1 : lessC d[2 * i + 2]! d[2 * i + 1]! = true) (h2 : lessC d[2 * i + 2]! d[i]! = true) : siftDown gtC n 0 i d = siftDown gtC n 0 (2 * i + 2) (swp d i (2 * i + 2)) := by
  rw [siftDown, dif_neg (by omega)]
  simp only [Nat.zero_add, gtC]
  rw [if_pos (by simp [h1]; omega), if_neg (by simp [h2]), dif_pos h]
theorem sift_l_stop {n i : Nat} {d : Array Cu} (h : 2 * i + 1 < n) (h1 : 2 * i + 2 < n → lessC d[2 * i + 2]! d[2 * i + 1]! = false) (h2 : lessC d[2 * i + 1]! d[i]! = false) : siftDown gtC n 0 i d = d := by
  rw [siftDown, dif_neg (by omega)]
  simp only [Nat.zero_add, gtC]
  rw [if_neg (by simp; exact fun q => h1 (by omega)), if_pos (by simp [h2])]
theorem sift_l_go {n i : Nat} {d : Array Cu} (h : 2 * i + 1 < n) (h1 : 2 * i + 2 < n → lessC d[2 * i + 2]! d[2 * i + 1]! = false) (h2 : lessC d[2 * i + 1]! d[i]! = true) : siftDown gtC n 0 i d = siftDown gtC n 0 (2 * i + 1) (swp d i (2 * i + 1)) := by
  rw [siftDown, dif_neg (by omega)]
  simp only [Nat.zero_add, gtC]
  rw [if_neg (by simp; exact fun q => h1 (by omega)), if_neg (by simp [h2])]

theorem less_at (hp base g cap : Nat) (d : Array Cu) (a b : Int) (i j : Nat) (w : World) (h : HeapW w hp base g cap d) (ha : a = i) (hb : b = j) (hi : i < d.size) (hj : j < d.size) :
    Calls Try.prog 157 #[.slice (some ⟨g, 0, none⟩) d.size cap, .int .i64 a, .int .i64 b] w fun e w' => e = .returned (.bool (lessC d[i]! d[j]!)) ∧ HeapW w' hp base g cap d ∧ Chg (fun k => k = g) w w' := by
  subst ha hb
  exact (less_core base g cap d i j w h.row (fun c hc => h.cur c hc) hi hj).mono fun e w' ⟨he, hb⟩ => ⟨he, h.below hb, Chg.of_below hb⟩
theorem swap_at (hp base g cap : Nat) (d : Array Cu) (a b : Int) (i j : Nat) (w : World) (h : HeapW w hp base g cap d) (ha : a = i) (hb : b = j) (hi : i < d.size) (hj : j < d.size) :
    Calls Try.prog 158 #[.slice (some ⟨g, 0, none⟩) d.size cap, .int .i64 a, .int .i64 b] w fun e w' => e = .returned (.tuple #[]) ∧ HeapW w' hp base g cap (swp d i j) ∧ Chg (fun k => k = g) w w' := by
  subst ha hb
  exact swap_core hp base g cap d i j w h hi hj

/-- How the loop stands. -/
structure DownAt (hp base g cap n i0 : Nat) (d : Array Cu) (w : World) (i : Nat) (d' : Array Cu) (w' : World) : Prop where
  heap : HeapW w' hp base g cap d'
  same : siftDown gtC n 0 i d' = siftDown gtC n 0 i0 d
  size : d'.size = d.size
  chg : Chg (fun k => k = g) w w'

set_option maxHeartbeats 4000000 in
theorem down_core (hp base g cap n i0 : Nat) (d : Array Cu) (w : World) (h : HeapW w hp base g cap d) (hn : n ≤ d.size) (hsz : d.size ≤ 1048576) (hi0 : i0 ≤ 1048576) :
    Calls Try.prog 91 #[.iface 128 (.pointer (some ⟨hp, 0, none⟩)), .int .i64 i0, .int .i64 n] w fun e w' =>
      ∃ b, e = .returned (.bool b) ∧ HeapW w' hp base g cap (siftDown gtC n 0 i0 d) ∧ Chg (fun k => k = g) w w' := by
  have H0 : Hid (HeapW w hp base g cap d) := h
  clear h
  go_enter Try.func91, Try.ntmps91
  go_wp2_with fail
  go_loopw [7] (fun c wr => ∃ (i : Nat) (d' : Array Cu), i ≤ 1048576 ∧ c = .int .i64 i ∧ DownAt hp base g cap n i0 d w i d' wr) (fun c _ => 1048577 - (intOf c).toNat)
  case atStart => exact ⟨i0, d, hi0, rfl, H0.out, rfl, rfl, Chg.refl _ _⟩
  case round =>
    obtain ⟨i, d', hi, rfl, hD⟩ := hrel
    have HD : Hid (DownAt hp base g cap n i0 d w i d' wr) := hD
    have hs1 : n ≤ d'.size := by rw [hD.size]; exact hn
    have hs2 : d'.size ≤ 1048576 := by rw [hD.size]; exact hsz
    clear hD
    by_cases hc1 : n ≤ 2 * i + 1
    · have z : (n : Int) ≤ 2 * (i : Int) + 1 := by omega
      go_wp2_with fail
      go_ret
      refine ⟨_, rfl, ?_, HD.out.chg⟩
      rw [← HD.out.same, sift_none hc1]; exact HD.out.heap
    · have z : ¬ (n : Int) ≤ 2 * (i : Int) + 1 := by omega
      have hiA : i < d'.size := by omega
      have hlA : 2 * i + 1 < d'.size := by omega
      have m1 := meth_less HD.out.heap.hdr
      by_cases hc2 : 2 * i + 2 < n
      · have z2 : 2 * (i : Int) + 1 + 1 < (n : Int) := by omega
        have hrA : 2 * i + 2 < d'.size := by omega
        go_wp2_with fail
        refine (less_at hp base g cap d' _ _ (2 * i + 2) (2 * i + 1) _ HD.out.heap (by omega) (by omega) hrA hlA).mono ?_
        rintro e w1 ⟨rfl, hH1, hC1⟩
        have H1 : Hid (HeapW w1 hp base g cap d' ∧ Chg (fun k => k = g) w w1) := ⟨hH1, HD.out.chg.trans hC1⟩
        have m2 := meth_less hH1.hdr
        clear hH1 hC1 m1
        cases hL : lessC d'[2 * i + 2]! d'[2 * i + 1]!
        · go_wp2_with fail
          refine (less_at hp base g cap d' _ _ (2 * i + 1) i _ H1.out.1 (by omega) rfl hlA hiA).mono ?_
          rintro e w2 ⟨rfl, hH2, hC2⟩
          have H2 : Hid (HeapW w2 hp base g cap d' ∧ Chg (fun k => k = g) w w2) := ⟨hH2, H1.out.2.trans hC2⟩
          have m3 := meth_swap hH2.hdr
          clear hH2 hC2 m2
          cases hM : lessC d'[2 * i + 1]! d'[i]!
          · go_wp2_with fail
            go_ret
            refine ⟨_, rfl, ?_, H2.out.2⟩
            rw [← HD.out.same, sift_l_stop (by omega) (fun _ => hL) hM]; exact H2.out.1
          · go_wp2_with fail
            refine (swap_at hp base g cap d' _ _ i (2 * i + 1) _ H2.out.1 rfl (by omega) hiA hlA).mono ?_
            rintro e w3 ⟨rfl, hH3, hC3⟩
            have H3 : Hid (DownAt hp base g cap n i0 d w (2 * i + 1) (swp d' i (2 * i + 1)) w3) := ⟨hH3, by rw [← HD.out.same, sift_l_go (by omega) (fun _ => hL) hM], by rw [size_swp]; exact HD.out.size, H2.out.2.trans hC3⟩
            clear hH3 hC3 m3
            go_wp2_with fail
            go_roundw
            case rel => exact ⟨2 * i + 1, _, by omega, by go_num, H3.out⟩
            case measure => go_light; simp [intOf]; omega
        · go_wp2_with fail
          refine (less_at hp base g cap d' _ _ (2 * i + 2) i _ H1.out.1 (by omega) rfl hrA hiA).mono ?_
          rintro e w2 ⟨rfl, hH2, hC2⟩
          have H2 : Hid (HeapW w2 hp base g cap d' ∧ Chg (fun k => k = g) w w2) := ⟨hH2, H1.out.2.trans hC2⟩
          have m3 := meth_swap hH2.hdr
          clear hH2 hC2 m2
          cases hM : lessC d'[2 * i + 2]! d'[i]!
          · go_wp2_with fail
            go_ret
            refine ⟨_, rfl, ?_, H2.out.2⟩
            rw [← HD.out.same, sift_r_stop hc2 hL hM]; exact H2.out.1
          · go_wp2_with fail
            refine (swap_at hp base g cap d' _ _ i (2 * i + 2) _ H2.out.1 rfl (by omega) hiA hrA).mono ?_
            rintro e w3 ⟨rfl, hH3, hC3⟩
            have H3 : Hid (DownAt hp base g cap n i0 d w (2 * i + 2) (swp d' i (2 * i + 2)) w3) := ⟨hH3, by rw [← HD.out.same, sift_r_go hc2 hL hM], by rw [size_swp]; exact HD.out.size, H2.out.2.trans hC3⟩
            clear hH3 hC3 m3
            go_wp2_with fail
            go_roundw
            case rel => exact ⟨2 * i + 2, _, by omega, by go_num, H3.out⟩
            case measure => go_light; simp [intOf]; omega
      · have z2 : ¬ 2 * (i : Int) + 1 + 1 < (n : Int) := by omega
        go_wp2_with fail
        refine (less_at hp base g cap d' _ _ (2 * i + 1) i _ HD.out.heap (by omega) rfl hlA hiA).mono ?_
        rintro e w2 ⟨rfl, hH2, hC2⟩
        have H2 : Hid (HeapW w2 hp base g cap d' ∧ Chg (fun k => k = g) w w2) := ⟨hH2, HD.out.chg.trans hC2⟩
        have m3 := meth_swap hH2.hdr
        clear hH2 hC2 m1
        cases hM : lessC d'[2 * i + 1]! d'[i]!
        · go_wp2_with fail
          go_ret
          refine ⟨_, rfl, ?_, H2.out.2⟩
          rw [← HD.out.same, sift_l_stop (by omega) (fun q => absurd q hc2) hM]; exact H2.out.1
        · go_wp2_with fail
          refine (swap_at hp base g cap d' _ _ i (2 * i + 1) _ H2.out.1 rfl (by omega) hiA hlA).mono ?_
          rintro e w3 ⟨rfl, hH3, hC3⟩
          have H3 : Hid (DownAt hp base g cap n i0 d w (2 * i + 1) (swp d' i (2 * i + 1)) w3) := ⟨hH3, by rw [← HD.out.same, sift_l_go (by omega) (fun q => absurd q hc2) hM], by rw [size_swp]; exact HD.out.size, H2.out.2.trans hC3⟩
          clear hH3 hC3 m3
          go_wp2_with fail
          go_roundw
          case rel => exact ⟨2 * i + 1, _, by omega, by go_num, H3.out⟩
          case measure => go_light; simp [intOf]; omega
end Go.Proofs.Ytjphalbjimggcae
