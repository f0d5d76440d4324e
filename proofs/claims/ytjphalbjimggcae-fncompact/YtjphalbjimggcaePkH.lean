import Derived.Test.YtjphalbjimggcaeQCur
import Derived.Test.YtjphalbjimggcaeQSub
/-
  The heap of cursors in memory: its order, its exchange.
-/
namespace Go.Proofs.Ytjphalbjimggcae
open Go.ChangeShapes Go.WideShapes Go.ChangeAt Go.RowKit Go.Deep
set_option linter.unusedVariables false
set_option linter.unusedSimpArgs false
set_option maxRecDepth 100000

abbrev ifc (c : Cu) : Value := .iface 124 (.pointer (some ⟨c.blk, 0, none⟩))
def OwnH (w : World) (base g cap : Nat) (d : Array Cu) : Prop := w.ownsRow base 95 1 (.slice (some ⟨g, 0, none⟩) d.size cap) d.size (d.toList.map ifc)
theorem OwnH.lt {w : World} {base g cap : Nat} {d : Array Cu} (h : OwnH w base g cap d) : base ≤ g ∧ g < w.heap.size := World.ownsRow.lt h g rfl
theorem OwnH.cell {w : World} {base g cap : Nat} {d : Array Cu} (h : OwnH w base g cap d) {i : Nat} (hi : i < d.size) : w.cell? ⟨g, i, none⟩ = some (ifc d[i]!) := by
  have := World.ownsRow.cellAt h i (by omega)
  rw [this, List.getElem?_map]
  simp [hi]
theorem OwnH.below {B : Nat} {w w' : World} {base g cap : Nat} {d : Array Cu} (h : OwnH w base g cap d) (hb : Below B w w') (hg : g < B) : OwnH w' base g cap d := by
  refine ⟨h.1, ?_⟩
  rcases h.2 with hn | ⟨g', cap', cur, hv, h1, h2, rest⟩
  · exact .inl hn
  · simp only [Value.slice.injEq, Option.some.injEq, Addr.mk.injEq, and_true, true_and] at hv
    obtain ⟨rfl, rfl⟩ := hv
    exact .inr ⟨g, cap, cur, rfl, h1, by rw [hb.block g hg]; exact h2, rest⟩

theorem Out.entry {w : World} {c : Cu} (h : CuAt w c) (n : Out w) : Calls Try.prog 161 #[.pointer (some ⟨c.blk, 0, none⟩)] n.u fun e w'' => e = .returned c.head.v ∧ ∃ m : Out w, w'' = m.u :=
  Calls.out_of (entry_core c n.u (h.below n.out))
theorem Out.age {w : World} {c : Cu} (h : CuAt w c) (n : Out w) : Calls Try.prog 160 #[.pointer (some ⟨c.blk, 0, none⟩)] n.u fun e w'' => e = .returned (.int .i64 c.age) ∧ ∃ m : Out w, w'' = m.u :=
  Calls.out_of (age_core c n.u (h.below n.out))
theorem meth_age (a : Addr) (w : World) : (method 337 124 (.pointer (some a)) "loop.example/s01854/impl.age").run Try.prog w = .ok (160, .pointer (some a)) w := by kernel_rfl
theorem meth_entry (a : Addr) (w : World) : (method 337 124 (.pointer (some a)) "loop.example/s01854/impl.entry").run Try.prog w = .ok (161, .pointer (some a)) w := by kernel_rfl

set_option maxHeartbeats 2000000 in
theorem less_core (base g cap : Nat) (d : Array Cu) (i j : Nat) (w : World) (hO : OwnH w base g cap d) (hC : ∀ c ∈ d, CuAt w c) (hi : i < d.size) (hj : j < d.size) :
    Calls Try.prog 157 #[.slice (some ⟨g, 0, none⟩) d.size cap, .int .i64 i, .int .i64 j] w fun e w' => e = .returned (.bool (lessC d[i]! d[j]!)) ∧ Below w.heap.size w w' := by
  have hg := hO.lt.2
  have HO : Hid (OwnH w base g cap d) := hO
  have HI : Hid (CuAt w d[i]!) := hC _ (by rw [getElem!_pos d i hi]; simp)
  have HJ : Hid (CuAt w d[j]!) := hC _ (by rw [getElem!_pos d j hj]; simp)
  have c1 : ∀ n : Out w, n.u.cell? ⟨g, i, none⟩ = some (ifc d[i]!) := fun n => (HO.out.below n.out hg).cell hi
  have c2 : ∀ n : Out w, n.u.cell? ⟨g, j, none⟩ = some (ifc d[j]!) := fun n => (HO.out.below n.out hg).cell hj
  clear hO hC
  obtain ⟨a, hai⟩ : ∃ a, Hid (d[i]! = a) := ⟨_, rfl⟩
  obtain ⟨b, hbj⟩ : ∃ b, Hid (d[j]! = b) := ⟨_, rfl⟩
  rw [hai.out] at HI c1 ⊢
  rw [hbj.out] at HJ c2 ⊢
  have z1 : (i : Int) < (d.size : Int) := by omega
  have z2 : (j : Int) < (d.size : Int) := by omega
  have inh : Nonempty (Out w) := ⟨⟨w, Below.refl _ _⟩⟩
  go_enter Try.func157, Try.ntmps157
  go_upto_region 1 with fail
  refine wp_region_out (by kernel_rfl) (by kernel_rfl) ?_
  have mE := meth_entry
  have mA := meth_age
  repeat (go_big_quiet_step ((first | (go_at_call 161; refine Out.entry ?_ _; first | exact HI.out | exact HJ.out) | (go_at_call 54; exact Calls.out_of (compare_any _ _ _)))))
  refine wpQuiet_nil ?_
  rintro wy ⟨⟨wx, hby⟩, rfl⟩
  have HI2 : Hid (CuAt wy a) := HI.out.below hby
  have HJ2 : Hid (CuAt wy b) := HJ.out.below hby
  have hsz := hby.size
  clear c1 c2
  by_cases hk : keyCmp a.head b.head = 0
  · have hl : lessC a b = decide (a.age < b.age) := by unfold lessC; rw [if_pos hk]
    have c1 : ∀ n : Out wy, n.u.cell? ⟨g, i, none⟩ = some (ifc d[i]!) := fun n => ((HO.out.below hby hg).below n.out (by omega)).cell hi
    have c2 : ∀ n : Out wy, n.u.cell? ⟨g, j, none⟩ = some (ifc d[j]!) := fun n => ((HO.out.below hby hg).below n.out (by omega)).cell hj
    rw [hai.out] at c1
    rw [hbj.out] at c2
    rw [hk]
    have inh2 : Nonempty (Out wy) := ⟨⟨wy, Below.refl _ _⟩⟩
    go_upto_region 4 with fail
    refine wp_region_out (by kernel_rfl) (by kernel_rfl) ?_
    repeat (go_big_quiet_step ((go_at_call 160; refine Out.age ?_ _; first | exact HI2.out | exact HJ2.out)))
    refine wpQuiet_nil ?_
    rintro wz ⟨⟨wv, hbz⟩, rfl⟩
    go_wp2_with fail
    go_ret
    exact ⟨by rw [hl]; simp, hby.trans (hbz.mono hsz)⟩
  · have hl : lessC a b = decide (keyCmp a.head b.head < 0) := by unfold lessC; rw [if_neg hk]
    go_wp2_with fail
    go_ret
    exact ⟨by rw [hl]; simp, hby⟩

theorem cell?_setCell_some {w : World} {p q : Addr} {x v : Value} (h : w.cell? q = some v) : ∃ v', (w.setCell p x).cell? q = some v' := by
  by_cases e : p = q
  · subst e; exact ⟨x, World.cell?_setCell_same w p x h⟩
  · exact ⟨v, (World.cell?_setCell_other w p q x e).trans h⟩

set_option maxHeartbeats 2000000 in
theorem swap_cells (g cap n i j : Nat) (x y : Value) (w : World) (hx : x.oneCell' = true) (hy : y.oneCell' = true) (hi : i < n) (hj : j < n) (ci : w.cell? ⟨g, i, none⟩ = some (.iface 124 x)) (cj : w.cell? ⟨g, j, none⟩ = some (.iface 124 y))
    (fi : w.frozen? ⟨g, i, none⟩ = false) (fj : w.frozen? ⟨g, j, none⟩ = false) :
    Calls Try.prog 158 #[.slice (some ⟨g, 0, none⟩) n cap, .int .i64 i, .int .i64 j] w fun e w' =>
      e = .returned (.tuple #[]) ∧ ∃ q, w' = ((w.setCell ⟨g, i, none⟩ (.iface 124 y)).setCell ⟨g, j, none⟩ (.iface 124 x)).drewN q := by
  obtain ⟨v', hy'⟩ := cell?_setCell_some (w := w) (p := ⟨g, i, none⟩) (x := .iface 124 y) (q := ⟨g, j, none⟩) cj
  have z1 : (i : Int) < (n : Int) := by omega
  have z2 : (j : Int) < (n : Int) := by omega
  go_enter Try.func158, Try.ntmps158
  go_wp2
  go_region
  all_goals (try go_wp2)
  all_goals go_end0
  all_goals exact ⟨rfl, 1, rfl⟩

theorem meth_len0 (a : Addr) (w : World) : (method 337 128 (.pointer (some a)) "Len").run Try.prog w = ((do let v ← loadVar 90 a; pure (43, v)) : Sem (FuncId × Value)).run Try.prog w := by kernel_rfl
end Go.Proofs.Ytjphalbjimggcae

/-
  container/heap over the cursors: down.
-/
namespace Go.Proofs.Ytjphalbjimggcae
open Go.ChangeShapes Go.WideShapes Go.ChangeAt Go.RowKit Go.Deep Go.Sort
set_option linter.unusedVariables false
set_option linter.unusedSimpArgs false
set_option maxRecDepth 100000

theorem load_heap (g : Nat) (v : Value) (w : World) (h : w.cell? ⟨g, 0, none⟩ = some v) : (loadVar 90 ⟨g, 0, none⟩).run Try.prog w = .ok v w := by
  have a1 : ∀ w, (isAgg 90).run Try.prog w = .ok false w := fun w => by kernel_rfl
  unfold loadVar
  simp [go_sem, h, a1]
theorem meth_less0 (a : Addr) (w : World) : (method 337 128 (.pointer (some a)) "Less").run Try.prog w = ((do let v ← loadVar 90 a; pure (157, v)) : Sem (FuncId × Value)).run Try.prog w := by kernel_rfl
theorem meth_swap0 (a : Addr) (w : World) : (method 337 128 (.pointer (some a)) "Swap").run Try.prog w = ((do let v ← loadVar 90 a; pure (158, v)) : Sem (FuncId × Value)).run Try.prog w := by kernel_rfl
theorem meth_pop (a : Addr) (w : World) : (method 337 128 (.pointer (some a)) "Pop").run Try.prog w = .ok (162, .pointer (some a)) w := by kernel_rfl
theorem meth_len {g : Nat} {v : Value} {w : World} (h : w.cell? ⟨g, 0, none⟩ = some v) : (method 337 128 (.pointer (some ⟨g, 0, none⟩)) "Len").run Try.prog w = .ok (43, v) w := by
  rw [meth_len0, Sem.run_bind, load_heap g v w h]; rfl
theorem meth_less {g : Nat} {v : Value} {w : World} (h : w.cell? ⟨g, 0, none⟩ = some v) : (method 337 128 (.pointer (some ⟨g, 0, none⟩)) "Less").run Try.prog w = .ok (157, v) w := by
  rw [meth_less0, Sem.run_bind, load_heap g v w h]; rfl
theorem meth_swap {g : Nat} {v : Value} {w : World} (h : w.cell? ⟨g, 0, none⟩ = some v) : (method 337 128 (.pointer (some ⟨g, 0, none⟩)) "Swap").run Try.prog w = .ok (158, v) w := by
  rw [meth_swap0, Sem.run_bind, load_heap g v w h]; rfl

theorem len_core (g : Option Addr) (n cap : Nat) (w : World) : Calls Try.prog 43 #[.slice g n cap] w fun e w' => e = .returned (.int .i64 n) ∧ w' = w := by
  go_enter Try.func43, Try.ntmps43
  go_wp2
  go_ret
  exact ⟨rfl, rfl⟩

/-- The heap in memory: its variable, its row, its cursors. -/
structure HeapW (w : World) (hp base g cap : Nat) (d : Array Cu) : Prop where
  hdr : w.cell? ⟨hp, 0, none⟩ = some (.slice (some ⟨g, 0, none⟩) d.size cap)
  free : ∀ j, w.frozen? ⟨hp, j, none⟩ = false
  lt : hp < w.heap.size
  ne : ¬ hp = g
  row : OwnH w base g cap d
  own : base ≤ hp
  cur : ∀ c ∈ d, CuAt w c
  low : ∀ c ∈ d, c.r.b < base
  high : ∀ c ∈ d, base ≤ c.blk ∧ ¬ c.blk = g ∧ ¬ c.blk = hp
theorem HeapW.below {w w' : World} {hp base g cap : Nat} {d : Array Cu} (h : HeapW w hp base g cap d) (hb : Below w.heap.size w w') : HeapW w' hp base g cap d where
  hdr := by rw [hb.cell (p := ⟨hp, 0, none⟩) h.lt]; exact h.hdr
  free := fun j => by rw [hb.frozen (p := ⟨hp, j, none⟩) h.lt]; exact h.free j
  lt := by have := hb.size; have := h.lt; omega
  ne := h.ne
  row := h.row.below hb h.row.lt.2
  own := h.own
  cur := fun c hc => (h.cur c hc).below hb
  low := h.low
  high := h.high
theorem HeapW.turn {w w' : World} {hp base g cap : Nat} {d d' : Array Cu} (h : HeapW w hp base g cap d) (hb : Chg (fun k => k = g) w w') (hO : OwnH w' base g cap d') (hs : d'.size = d.size) (hm : ∀ c ∈ d', c ∈ d) : HeapW w' hp base g cap d' where
  hdr := by rw [hb.cell (p := ⟨hp, 0, none⟩) h.lt h.ne, hs]; exact h.hdr
  free := fun j => by rw [hb.frozen (p := ⟨hp, j, none⟩) h.lt h.ne]; exact h.free j
  lt := by have := hb.size; have := h.lt; omega
  ne := h.ne
  row := hO
  own := h.own
  cur := fun c hc => (h.cur c (hm c hc)).chg hb (h.high c (hm c hc)).2.1 (fun q => by have h1 := h.low c (hm c hc); have h2 := h.row.lt.1; omega)
  low := fun c hc => h.low c (hm c hc)
  high := fun c hc => h.high c (hm c hc)

theorem mem_get {d : Array Cu} {i : Nat} (hi : i < d.size) : d[i]! ∈ d := by rw [getElem!_pos d i hi]; simp
theorem mem_swp {d : Array Cu} {i j : Nat} (hi : i < d.size) (hj : j < d.size) {c : Cu} (h : c ∈ swp d i j) : c ∈ d := by
  unfold swp at h
  rw [← Array.mem_toList_iff, Array.toList_setIfInBounds] at h
  rcases List.mem_or_eq_of_mem_set h with h | rfl
  · rw [Array.toList_setIfInBounds] at h
    rcases List.mem_or_eq_of_mem_set h with h | rfl
    · simpa using h
    · exact mem_get hj
  · exact mem_get hi
theorem size_swp (d : Array Cu) (i j : Nat) : (swp d i j).size = d.size := by simp [swp]
theorem OwnH.swapped {w : World} {base g cap : Nat} {d : Array Cu} (h : OwnH w base g cap d) {i j : Nat} : OwnH ((w.setCell ⟨g, i, none⟩ (ifc d[j]!)).setCell ⟨g, j, none⟩ (ifc d[i]!)) base g cap (swp d i j) := by
  have h1 := (World.ownsRow.stored h i (ifc d[j]!)).1
  have h2 := (World.ownsRow.stored h1 j (ifc d[i]!)).1
  unfold OwnH
  rw [size_swp]
  have : ((swp d i j).toList.map ifc) = ((d.toList.map ifc).set i (ifc d[j]!)).set j (ifc d[i]!) := by
    unfold Go.Sort.swp
    rw [Array.toList_setIfInBounds, Array.toList_setIfInBounds, List.map_set, List.map_set]
  rw [this]
  exact h2
theorem swap_core (hp base g cap : Nat) (d : Array Cu) (i j : Nat) (w : World) (h : HeapW w hp base g cap d) (hi : i < d.size) (hj : j < d.size) :
    Calls Try.prog 158 #[.slice (some ⟨g, 0, none⟩) d.size cap, .int .i64 i, .int .i64 j] w fun e w' => e = .returned (.tuple #[]) ∧ HeapW w' hp base g cap (swp d i j) ∧ Chg (fun k => k = g) w w' := by
  refine (swap_cells g cap d.size i j _ _ w rfl rfl hi hj (h.row.cell hi) (h.row.cell hj) (World.ownsRow.frozenAt h.row i) (World.ownsRow.frozenAt h.row j)).mono ?_
  rintro e w' ⟨he, q, rfl⟩
  have c1 : Chg (fun k => k = g) w ((w.setCell ⟨g, i, none⟩ (ifc d[j]!)).setCell ⟨g, j, none⟩ (ifc d[i]!)) := (Chg.of_set (S := fun k => k = g) w g i _ rfl).trans (Chg.of_set (S := fun k => k = g) _ g j _ rfl)
  have hb := below_drewN (Below.refl ((w.setCell ⟨g, i, none⟩ (ifc d[j]!)).setCell ⟨g, j, none⟩ (ifc d[i]!)).heap.size ((w.setCell ⟨g, i, none⟩ (ifc d[j]!)).setCell ⟨g, j, none⟩ (ifc d[i]!))) q
  have c2 := c1.trans (Chg.of_below hb)
  have hO : OwnH ((w.setCell ⟨g, i, none⟩ (ifc d[j]!)).setCell ⟨g, j, none⟩ (ifc d[i]!)) base g cap (swp d i j) := h.row.swapped
  exact ⟨he, h.turn c2 (hO.below hb hO.lt.2) (size_swp _ _ _) (fun c hc => mem_swp hi hj hc), c2⟩

theorem sift_none {n i : Nat} {d : Array Cu} (h : n ≤ 2 * i + 1) : siftDown gtC n 0 i d = d := by rw [siftDown, dif_pos (by omega)]
theorem sift_r_stop {n i : Nat} {d : Array Cu} (h : 2 * i + 2 < n) (h1 : lessC d[2 * i + 2]! d[2 * i + 1]! = true) (h2 : lessC d[2 * i + 2]! d[i]! = false) : siftDown gtC n 0 i d = d := by
  rw [siftDown, dif_neg (by omega)]
  simp only [Nat.zero_add, gtC]
  rw [if_pos (by simp [h1]; omega), if_pos (by simp [h2])]
theorem sift_r_go {n i : Nat} {d : Array Cu} (h : 2 * i + 2 < n) (h1 : lessC d[2 * i + 2]! d[2 * i + 1]! = true) (h2 : lessC d[2 * i + 2]! d[i]! = true) : siftDown gtC n 0 i d = siftDown gtC n 0 (2 * i + 2) (swp d i (2 * i + 2)) := by
  rw [siftDown, dif_neg (by omega)]
  simp only [Nat.zero_add, gtC]
  rw [if_pos (by simp [h1]; omega), if_neg (by simp [h2]), dif_pos h]
theorem sift_l_stop {n i : Nat} {d : Array Cu} (h : 2 * i + 1 < n) (h1 : 2 * i + 2 < n → lessC d[2 * i + 2]! d[2 * i + 1]! = false) (h2 : lessC d[2 * i + 1]! d[i]! = false) : siftDown gtC n 0 i d = d := by
  rw [siftDown, dif_neg (by omega)]
  simp only [Nat.zero_add, gtC]
  rw [if_neg (by simp; exact fun q => h1 (by omega)), if_pos (by simp [h2])]
theorem sift_l_go {n i : Nat} {d : Array Cu} (h : 2 * i + 1 < n) (h1 : 2 * i + 2 < n → lessC d[2 * i + 2]! d[2 * i + 1]! = false) (h2 : lessC d[2 * i + 1]! d[i]! = true) : siftDown gtC n 0 i d = siftDown gtC n 0 (2 * i + 1) (swp d i (2 * i + 1)) := by
  rw [siftDown, dif_neg (by omega)]
  simp only [Nat.zero_add, gtC]
  rw [if_neg (by simp; exact fun q => h1 (by omega)), if_neg (by simp [h2])]

theorem less_at (hp base g cap : Nat) (d : Array Cu) (a b : Int) (i j : Nat) (w : World) (h : HeapW w hp base g cap d) (ha : a = i) (hb : b = j) (hi : i < d.size) (hj : j < d.size) :
    Calls Try.prog 157 #[.slice (some ⟨g, 0, none⟩) d.size cap, .int .i64 a, .int .i64 b] w fun e w' => e = .returned (.bool (lessC d[i]! d[j]!)) ∧ HeapW w' hp base g cap d ∧ Chg (fun k => k = g) w w' := by
  subst ha hb
  exact (less_core base g cap d i j w h.row (fun c hc => h.cur c hc) hi hj).mono fun e w' ⟨he, hb⟩ => ⟨he, h.below hb, Chg.of_below hb⟩
theorem swap_at (hp base g cap : Nat) (d : Array Cu) (a b : Int) (i j : Nat) (w : World) (h : HeapW w hp base g cap d) (ha : a = i) (hb : b = j) (hi : i < d.size) (hj : j < d.size) :
    Calls Try.prog 158 #[.slice (some ⟨g, 0, none⟩) d.size cap, .int .i64 a, .int .i64 b] w fun e w' => e = .returned (.tuple #[]) ∧ HeapW w' hp base g cap (swp d i j) ∧ Chg (fun k => k = g) w w' := by
  subst ha hb
  exact swap_core hp base g cap d i j w h hi hj

/-- How the loop stands. -/
structure DownAt (hp base g cap n i0 : Nat) (d : Array Cu) (w : World) (i : Nat) (d' : Array Cu) (w' : World) : Prop where
  heap : HeapW w' hp base g cap d'
  same : siftDown gtC n 0 i d' = siftDown gtC n 0 i0 d
  size : d'.size = d.size
  chg : Chg (fun k => k = g) w w'

set_option maxHeartbeats 4000000 in
theorem down_core (hp base g cap n i0 : Nat) (d : Array Cu) (w : World) (h : HeapW w hp base g cap d) (hn : n ≤ d.size) (hsz : d.size ≤ 1048576) (hi0 : i0 ≤ 1048576) :
    Calls Try.prog 91 #[.iface 128 (.pointer (some ⟨hp, 0, none⟩)), .int .i64 i0, .int .i64 n] w fun e w' =>
      ∃ b, e = .returned (.bool b) ∧ HeapW w' hp base g cap (siftDown gtC n 0 i0 d) ∧ Chg (fun k => k = g) w w' := by
  have H0 : Hid (HeapW w hp base g cap d) := h
  clear h
  go_enter Try.func91, Try.ntmps91
  go_wp2_with fail
  go_loopw [7] (fun c wr => ∃ (i : Nat) (d' : Array Cu), i ≤ 1048576 ∧ c = .int .i64 i ∧ DownAt hp base g cap n i0 d w i d' wr) (fun c _ => 1048577 - (intOf c).toNat)
  case atStart => exact ⟨i0, d, hi0, rfl, H0.out, rfl, rfl, Chg.refl _ _⟩
  case round =>
    obtain ⟨i, d', hi, rfl, hD⟩ := hrel
    have HD : Hid (DownAt hp base g cap n i0 d w i d' wr) := hD
    have hs1 : n ≤ d'.size := by rw [hD.size]; exact hn
    have hs2 : d'.size ≤ 1048576 := by rw [hD.size]; exact hsz
    clear hD
    by_cases hc1 : n ≤ 2 * i + 1
    · have z : (n : Int) ≤ 2 * (i : Int) + 1 := by omega
      go_wp2_with fail
      go_ret
      refine ⟨_, rfl, ?_, HD.out.chg⟩
      rw [← HD.out.same, sift_none hc1]; exact HD.out.heap
    · have z : ¬ (n : Int) ≤ 2 * (i : Int) + 1 := by omega
      have hiA : i < d'.size := by omega
      have hlA : 2 * i + 1 < d'.size := by omega
      have m1 := meth_less HD.out.heap.hdr
      by_cases hc2 : 2 * i + 2 < n
      · have z2 : 2 * (i : Int) + 1 + 1 < (n : Int) := by omega
        have hrA : 2 * i + 2 < d'.size := by omega
        go_wp2_with fail
        refine (less_at hp base g cap d' _ _ (2 * i + 2) (2 * i + 1) _ HD.out.heap (by omega) (by omega) hrA hlA).mono ?_
        rintro e w1 ⟨rfl, hH1, hC1⟩
        have H1 : Hid (HeapW w1 hp base g cap d' ∧ Chg (fun k => k = g) w w1) := ⟨hH1, HD.out.chg.trans hC1⟩
        have m2 := meth_less hH1.hdr
        clear hH1 hC1 m1
        cases hL : lessC d'[2 * i + 2]! d'[2 * i + 1]!
        · go_wp2_with fail
          refine (less_at hp base g cap d' _ _ (2 * i + 1) i _ H1.out.1 (by omega) rfl hlA hiA).mono ?_
          rintro e w2 ⟨rfl, hH2, hC2⟩
          have H2 : Hid (HeapW w2 hp base g cap d' ∧ Chg (fun k => k = g) w w2) := ⟨hH2, H1.out.2.trans hC2⟩
          have m3 := meth_swap hH2.hdr
          clear hH2 hC2 m2
          cases hM : lessC d'[2 * i + 1]! d'[i]!
          · go_wp2_with fail
            go_ret
            refine ⟨_, rfl, ?_, H2.out.2⟩
            rw [← HD.out.same, sift_l_stop (by omega) (fun _ => hL) hM]; exact H2.out.1
          · go_wp2_with fail
            refine (swap_at hp base g cap d' _ _ i (2 * i + 1) _ H2.out.1 rfl (by omega) hiA hlA).mono ?_
            rintro e w3 ⟨rfl, hH3, hC3⟩
            have H3 : Hid (DownAt hp base g cap n i0 d w (2 * i + 1) (swp d' i (2 * i + 1)) w3) := ⟨hH3, by rw [← HD.out.same, sift_l_go (by omega) (fun _ => hL) hM], by rw [size_swp]; exact HD.out.size, H2.out.2.trans hC3⟩
            clear hH3 hC3 m3
            go_wp2_with fail
            go_roundw
            case rel => exact ⟨2 * i + 1, _, by omega, by go_num, H3.out⟩
            case measure => go_light; simp [intOf]; omega
        · go_wp2_with fail
          refine (less_at hp base g cap d' _ _ (2 * i + 2) i _ H1.out.1 (by omega) rfl hrA hiA).mono ?_
          rintro e w2 ⟨rfl, hH2, hC2⟩
          have H2 : Hid (HeapW w2 hp base g cap d' ∧ Chg (fun k => k = g) w w2) := ⟨hH2, H1.out.2.trans hC2⟩
          have m3 := meth_swap hH2.hdr
          clear hH2 hC2 m2
          cases hM : lessC d'[2 * i + 2]! d'[i]!
          · go_wp2_with fail
            go_ret
            refine ⟨_, rfl, ?_, H2.out.2⟩
            rw [← HD.out.same, sift_r_stop hc2 hL hM]; exact H2.out.1
          · go_wp2_with fail
            refine (swap_at hp base g cap d' _ _ i (2 * i + 2) _ H2.out.1 rfl (by omega) hiA hrA).mono ?_
            rintro e w3 ⟨rfl, hH3, hC3⟩
            have H3 : Hid (DownAt hp base g cap n i0 d w (2 * i + 2) (swp d' i (2 * i + 2)) w3) := ⟨hH3, by rw [← HD.out.same, sift_r_go hc2 hL hM], by rw [size_swp]; exact HD.out.size, H2.out.2.trans hC3⟩
            clear hH3 hC3 m3
            go_wp2_with fail
            go_roundw
            case rel => exact ⟨2 * i + 2, _, by omega, by go_num, H3.out⟩
            case measure => go_light; simp [intOf]; omega
      · have z2 : ¬ 2 * (i : Int) + 1 + 1 < (n : Int) := by omega
        go_wp2_with fail
        refine (less_at hp base g cap d' _ _ (2 * i + 1) i _ HD.out.heap (by omega) rfl hlA hiA).mono ?_
        rintro e w2 ⟨rfl, hH2, hC2⟩
        have H2 : Hid (HeapW w2 hp base g cap d' ∧ Chg (fun k => k = g) w w2) := ⟨hH2, HD.out.chg.trans hC2⟩
        have m3 := meth_swap hH2.hdr
        clear hH2 hC2 m1
        cases hM : lessC d'[2 * i + 1]! d'[i]!
        · go_wp2_with fail
          go_ret
          refine ⟨_, rfl, ?_, H2.out.2⟩
          rw [← HD.out.same, sift_l_stop (by omega) (fun q => absurd q hc2) hM]; exact H2.out.1
        · go_wp2_with fail
          refine (swap_at hp base g cap d' _ _ i (2 * i + 1) _ H2.out.1 rfl (by omega) hiA hlA).mono ?_
          rintro e w3 ⟨rfl, hH3, hC3⟩
          have H3 : Hid (DownAt hp base g cap n i0 d w (2 * i + 1) (swp d' i (2 * i + 1)) w3) := ⟨hH3, by rw [← HD.out.same, sift_l_go (by omega) (fun q => absurd q hc2) hM], by rw [size_swp]; exact HD.out.size, H2.out.2.trans hC3⟩
          clear hH3 hC3 m3
          go_wp2_with fail
          go_roundw
          case rel => exact ⟨2 * i + 1, _, by omega, by go_num, H3.out⟩
          case measure => go_light; simp [intOf]; omega
end Go.Proofs.Ytjphalbjimggcae

/-
  container/heap over the cursors: Init, Fix at the top, Pop; the step.
-/
namespace Go.Proofs.Ytjphalbjimggcae
open Go.ChangeShapes Go.WideShapes Go.ChangeAt Go.RowKit Go.Deep Go.Sort
set_option linter.unusedVariables false
set_option linter.unusedSimpArgs false
set_option maxRecDepth 100000

set_option maxHeartbeats 1000000 in
theorem up_zero (v : Value) (w : World) : Calls Try.prog 92 #[v, .int .i64 0] w fun e w' => e = .returned (.tuple #[]) ∧ w' = w := by
  go_enter Try.func92, Try.ntmps92
  go_wp2_with fail
  go_loopw [1] (fun c wr => c = .int .i64 0 ∧ wr = w) (fun _ _ => 0)
  case atStart => exact ⟨rfl, rfl⟩
  case round =>
    obtain ⟨rfl, rfl⟩ := hrel
    go_wp2_with fail
    go_end0
    exact ⟨rfl, rfl⟩

set_option maxHeartbeats 1000000 in
theorem fix_core (hp base g cap : Nat) (d : Array Cu) (w : World) (h : HeapW w hp base g cap d) (hsz : d.size ≤ 1048576) :
    Calls Try.prog 73 #[.iface 128 (.pointer (some ⟨hp, 0, none⟩)), .int .i64 0] w fun e w' =>
      e = .returned (.tuple #[]) ∧ HeapW w' hp base g cap (siftDown gtC d.size 0 0 d) ∧ Chg (fun k => k = g) w w' := by
  have H0 : Hid (HeapW w hp base g cap d) := h
  have m1 := meth_len h.hdr
  clear h
  go_enter Try.func73, Try.ntmps73
  go_wp2_with fail
  refine (len_core _ _ _ _).mono ?_
  rintro e w1 ⟨rfl, rfl⟩
  go_wp2_with fail
  refine (down_core hp base g cap d.size 0 d _ H0.out (Nat.le_refl _) hsz (by omega)).mono ?_
  rintro e w2 ⟨b, rfl, hH, hC⟩
  have H2 : Hid (HeapW w2 hp base g cap (siftDown gtC d.size 0 0 d) ∧ Chg (fun k => k = g) w1 w2) := ⟨hH, hC⟩
  clear hH hC m1
  cases b
  · go_wp2_with fail
    refine (up_zero _ _).mono ?_
    rintro e w3 ⟨rfl, rfl⟩
    go_wp2_with fail
    go_end0
    exact ⟨rfl, H2.out.1, H2.out.2⟩
  · go_wp2_with fail
    go_end0
    exact ⟨rfl, H2.out.1, H2.out.2⟩

/-- How the building stands. -/
structure BuildAt (hp base g cap : Nat) (d : Array Cu) (w : World) (k : Nat) (d' : Array Cu) (w' : World) : Prop where
  heap : HeapW w' hp base g cap d'
  same : heapBuild gtC d.size 0 k d' = heapBuild gtC d.size 0 (d.size / 2) d
  size : d'.size = d.size
  chg : Chg (fun k => k = g) w w'
theorem size_sift0 (n : Nat) : ∀ (m i : Nat) (d : Array Cu), n - i ≤ m → (siftDown gtC n 0 i d).size = d.size
  | 0, i, d, h => by rw [sift_none (by omega)]
  | m + 1, i, d, h => by
    by_cases h1 : n ≤ 2 * i + 1
    · rw [sift_none h1]
    · have hl : ∀ q : 2 * i + 2 < n → lessC d[2 * i + 2]! d[2 * i + 1]! = false, (siftDown gtC n 0 i d).size = d.size := fun q => by
        cases hM : lessC d[2 * i + 1]! d[i]!
        · rw [sift_l_stop (by omega) q hM]
        · rw [sift_l_go (by omega) q hM, size_sift0 n m _ _ (by omega), size_swp]
      by_cases h2 : 2 * i + 2 < n
      · cases hL : lessC d[2 * i + 2]! d[2 * i + 1]!
        · exact hl (fun _ => hL)
        · cases hM : lessC d[2 * i + 2]! d[i]!
          · rw [sift_r_stop h2 hL hM]
          · rw [sift_r_go h2 hL hM, size_sift0 n m _ _ (by omega), size_swp]
      · exact hl (fun q => absurd q h2)
theorem size_sift (n i : Nat) (d : Array Cu) : (siftDown gtC n 0 i d).size = d.size := size_sift0 n _ i d (Nat.le_refl _)

set_option maxHeartbeats 1000000 in
theorem init_core (hp base g cap : Nat) (d : Array Cu) (w : World) (h : HeapW w hp base g cap d) (hsz : d.size ≤ 1048576) :
    Calls Try.prog 70 #[.iface 128 (.pointer (some ⟨hp, 0, none⟩))] w fun e w' =>
      e = .returned (.tuple #[]) ∧ HeapW w' hp base g cap (heapBuild gtC d.size 0 (d.size / 2) d) ∧ Chg (fun k => k = g) w w' := by
  have H0 : Hid (HeapW w hp base g cap d) := h
  have m1 := meth_len h.hdr
  clear h
  go_enter Try.func70, Try.ntmps70
  go_wp2_with fail
  refine (len_core _ _ _ _).mono ?_
  rintro e w1 ⟨rfl, rfl⟩
  go_wp2_with fail
  go_loopw [3] (fun c wr => ∃ (k : Nat) (d' : Array Cu), k ≤ d.size / 2 ∧ c = .int .i64 ((k : Int) - 1) ∧ BuildAt hp base g cap d w1 k d' wr) (fun c _ => (intOf c + 1).toNat)
  case atStart => exact ⟨d.size / 2, d, Nat.le_refl _, by go_num, H0.out, rfl, rfl, Chg.refl _ _⟩
  case round =>
    obtain ⟨k, d', hk, rfl, hD⟩ := hrel
    have HD : Hid (BuildAt hp base g cap d w1 k d' wr) := hD
    have hs1 : d.size ≤ d'.size := by rw [hD.size]; omega
    have hs2 : d'.size ≤ 1048576 := by rw [hD.size]; exact hsz
    clear hD
    by_cases h0 : k = 0
    · subst h0
      go_wp2_with fail
      go_end0
      refine ⟨rfl, ?_, HD.out.chg⟩
      rw [← HD.out.same]; exact HD.out.heap
    · obtain ⟨j, rfl⟩ : ∃ j, k = j + 1 := ⟨k - 1, by omega⟩
      have e1 : (((j + 1 : Nat) : Int) - 1) = (j : Int) := by omega
      rw [e1]
      have zj : (0 : Int) ≤ (j : Int) := by omega
      clear e1
      go_wp2_with fail
      refine (down_core hp base g cap d.size j d' _ HD.out.heap hs1 hs2 (by omega)).mono ?_
      rintro e w2 ⟨b, rfl, hH, hC⟩
      have H2 : Hid (BuildAt hp base g cap d w1 j (siftDown gtC d.size 0 j d') w2) := ⟨hH, by rw [← HD.out.same]; rfl, by rw [size_sift]; exact HD.out.size, HD.out.chg.trans hC⟩
      clear hH hC
      go_wp2_with fail
      go_roundw
      case rel => exact ⟨j, _, by omega, by go_num, H2.out⟩
      case measure => go_light; simp [intOf]

theorem OwnH.popped {w : World} {base g cap : Nat} {d : Array Cu} (h : OwnH w base g cap d) : OwnH w base g cap d.pop := by
  rcases h.2 with ⟨hv, _⟩ | ⟨g', cap', cur, hv, h1, h2, h3, h4, h5, h6⟩
  · cases hv
  · simp only [Value.slice.injEq, Option.some.injEq, Addr.mk.injEq, and_true, true_and] at hv
    obtain ⟨rfl, rfl⟩ := hv
    refine ⟨by simp, .inr ⟨g, cap, cur, rfl, h1, h2, by simp; omega, h4, h5, ?_⟩⟩
    have e : (d.pop.toList.map ifc) = (d.toList.map ifc).take (d.size - 1) := by
      rw [Array.toList_pop, List.dropLast_eq_take, List.map_take]; simp
    rw [e, ← h6, List.take_take]
    congr 1
    simp
theorem mem_pop {d : Array Cu} {c : Cu} (h : c ∈ d.pop) : c ∈ d := by
  rw [← Array.mem_toList_iff, Array.toList_pop] at h
  have := List.dropLast_subset _ h
  simpa using this
theorem HeapW.pop {w : World} {hp base g cap : Nat} {d : Array Cu} (h : HeapW w hp base g cap d) : HeapW (w.setCell ⟨hp, 0, none⟩ (.slice (some ⟨g, 0, none⟩) (d.size - 1) cap)) hp base g cap d.pop := by
  have hg : Chg (fun k => k = hp) w (w.setCell ⟨hp, 0, none⟩ (.slice (some ⟨g, 0, none⟩) (d.size - 1) cap)) := Chg.of_set _ _ _ _ rfl
  exact {
    hdr := by rw [World.cell?_setCell_same _ _ _ h.hdr]; simp
    free := fun j => by rw [World.frozen?_setCell]; exact h.free j
    lt := by have := hg.size; have := h.lt; omega
    ne := h.ne
    row := World.ownsRow.kept h.row.popped (grown_set w hp 0 _) (.inr (fun q => h.ne (Option.some.inj q).symm))
    own := h.own
    cur := fun c hc => (h.cur c (mem_pop hc)).chg hg (h.high c (mem_pop hc)).2.2 (fun q => by have h1 := h.low c (mem_pop hc); have h2 := h.own; omega)
    low := fun c hc => h.low c (mem_pop hc)
    high := fun c hc => h.high c (mem_pop hc) }

set_option maxHeartbeats 1000000 in
theorem popM_core (hp base g cap : Nat) (d : Array Cu) (w : World) (h : HeapW w hp base g cap d) (h0 : 0 < d.size) (hsz : d.size ≤ 1048576) :
    Calls Try.prog 162 #[.pointer (some ⟨hp, 0, none⟩)] w fun e w' => (∃ v, e = .returned v) ∧ HeapW w' hp base g cap d.pop ∧ Chg (fun k => k = hp) w w' := by
  have hP : Hid (HeapW (w.setCell ⟨hp, 0, none⟩ (.slice (some ⟨g, 0, none⟩) (d.size - 1) cap)) hp base g cap d.pop) := h.pop
  have c0 := h.hdr
  have c1 := h.row.cell (i := d.size - 1) (by omega)
  have f0 := h.free 0
  have hcap : d.size ≤ cap := by
    rcases h.row.2 with ⟨hv, _⟩ | ⟨g', cap', cur, hv, h1, h2, h3, h4, h5, h6⟩
    · cases hv
    · simp only [Value.slice.injEq, Option.some.injEq, Addr.mk.injEq, and_true, true_and] at hv
      obtain ⟨rfl, rfl⟩ := hv
      exact h3
  generalize d[d.size - 1]! = c at c1
  clear h
  have hC : Hid (Chg (fun k => k = hp) w (w.setCell ⟨hp, 0, none⟩ (.slice (some ⟨g, 0, none⟩) (d.size - 1) cap))) := Chg.of_set _ _ _ _ rfl
  generalize hn : d.size = n at *
  obtain ⟨m, rfl⟩ : ∃ m, n = m + 1 := ⟨n - 1, by omega⟩
  have HN : Hid (d.size = m + 1) := hn
  clear hn
  simp only [Nat.add_sub_cancel] at *
  go_enter Try.func162, Try.ntmps162
  go_wp2
  go_ret
  exact ⟨⟨_, rfl⟩, hP.out, hC.out⟩

set_option maxHeartbeats 1000000 in
theorem pop_core (hp base g cap : Nat) (d : Array Cu) (w : World) (h : HeapW w hp base g cap d) (h0 : 0 < d.size) (hsz : d.size ≤ 1048576) :
    Calls Try.prog 74 #[.iface 128 (.pointer (some ⟨hp, 0, none⟩))] w fun e w' =>
      (∃ v, e = .returned v) ∧ HeapW w' hp base g cap (siftDown gtC (d.size - 1) 0 0 (swp d 0 (d.size - 1))).pop ∧ Chg (fun k => k = g ∨ k = hp) w w' := by
  have H0 : Hid (HeapW w hp base g cap d) := h
  have m1 := meth_len h.hdr
  have m2 := meth_swap h.hdr
  clear h
  have mP := fun w => meth_pop ⟨hp, 0, none⟩ w
  go_enter Try.func74, Try.ntmps74
  go_wp2_with fail
  refine (len_core _ _ _ _).mono ?_
  rintro e w1 ⟨rfl, rfl⟩
  go_wp2_with fail
  refine (swap_at hp base g cap d _ _ 0 (d.size - 1) _ H0.out rfl (by omega) h0 (by omega)).mono ?_
  rintro e w2 ⟨rfl, hH2, hC2⟩
  have H2 : Hid (HeapW w2 hp base g cap (swp d 0 (d.size - 1)) ∧ Chg (fun k => k = g) w1 w2) := ⟨hH2, hC2⟩
  clear hH2 hC2 m1 m2
  have e1 : (d.size : Int) - 1 = ((d.size - 1 : Nat) : Int) := by omega
  rw [e1]
  clear e1
  go_wp2_with fail
  refine (down_core hp base g cap (d.size - 1) 0 (swp d 0 (d.size - 1)) _ H2.out.1 (by rw [size_swp]; omega) (by rw [size_swp]; exact hsz) (by omega)).mono ?_
  rintro e w3 ⟨b, rfl, hH3, hC3⟩
  have H3 : Hid (HeapW w3 hp base g cap (siftDown gtC (d.size - 1) 0 0 (swp d 0 (d.size - 1))) ∧ Chg (fun k => k = g) w1 w3) := ⟨hH3, H2.out.2.trans hC3⟩
  clear hH3 hC3
  go_wp2_with fail
  refine (popM_core hp base g cap _ _ H3.out.1 (by rw [size_sift, size_swp]; exact h0) (by rw [size_sift, size_swp]; exact hsz)).mono ?_
  rintro e w4 ⟨⟨v, rfl⟩, hH4, hC4⟩
  have H4 : Hid (HeapW w4 hp base g cap (siftDown gtC (d.size - 1) 0 0 (swp d 0 (d.size - 1))).pop ∧ Chg (fun k => k = g ∨ k = hp) w1 w4) := ⟨hH4, (H3.out.2.mono (fun k q => .inl q)).trans (hC4.mono (fun k q => .inr q))⟩
  clear hH4 hC4
  go_wp2_with fail
  go_ret
  exact ⟨⟨_, rfl⟩, H4.out.1, H4.out.2⟩
end Go.Proofs.Ytjphalbjimggcae

