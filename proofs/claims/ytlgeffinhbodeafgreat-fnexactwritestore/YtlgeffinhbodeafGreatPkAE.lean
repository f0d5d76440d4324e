import Derived.Deep.AppendLies
import Derived.Deep.DeepCutAuto
import Derived.Deep.RegionWith
import Derived.Test.YtlgeffinhbodeafGreatPkAD
import Derived.Test.YtlgeffinhbodeafGreatPkAC
import Derived.Test.YtlgeffinhbodeafGreatPkAB
import Derived.Test.YtlgeffinhbodeafGreatPkAA
/-
  The heap of cursors in memory: its order, its exchange.
-/
namespace Go.Proofs.YtlgeffinhbodeafGreat
open Go.ChangeShapes Go.WideShapes Go.ChangeAt Go.RowKit Go.Deep
set_option linter.unusedVariables false
set_option linter.unusedSimpArgs false
set_option maxRecDepth 100000

abbrev ifc (c : Cu) : Value := .iface 166 (.pointer (some ⟨c.blk, 0, none⟩))
def OwnH (w : World) (base g cap : Nat) (d : Array Cu) : Prop := w.ownsRow base 143 1 (.slice (some ⟨g, 0, none⟩) d.size cap) d.size (d.toList.map ifc)
theorem OwnH.lt {w : World} {base g cap : Nat} {d : Array Cu} (h : OwnH w base g cap d) : base ≤ g ∧ g < w.heap.size := World.ownsRow.lt h g rfl
theorem OwnH.cell {w : World} {base g cap : Nat} {d : Array Cu} (h : OwnH w base g cap d) {i : Nat} (hi : i < d.size) : w.cell? ⟨g, i, none⟩ = some (ifc d[i]!) := by
  have := World.ownsRow.cellAt h i (by omega)
  rw [this, List.getElem?_map]
  simp [hi]
theorem OwnH.below {B : Nat} {w w' : World} {base g cap : Nat} {d : Array Cu} (h : OwnH w base g cap d) (hb : Below B w w') (hg : g < B) : OwnH w' base g cap d := by
  refine ⟨h.1, ?_⟩
  rcases h.2 with hn | ⟨g', cap', cur, hv, h1, h2, rest⟩
  · exact .inl hn
  · simp only [Value.slice.injEq, Option.some.injEq, Addr.mk.injEq, and_true, true_and] at hv
    obtain ⟨rfl, rfl⟩ := hv
    exact .inr ⟨g, cap, cur, rfl, h1, by rw [hb.block g hg]; exact h2, rest⟩

theorem Out.entry {w : World} {c : Cu} (h : CuAt w c) (n : Out w) : Calls Tryz.prog 151 #[.pointer (some ⟨c.blk, 0, none⟩)] n.u fun e w'' => e = .returned c.head.v ∧ ∃ m : Out w, w'' = m.u :=
  Calls.out_of (entry_core c n.u (h.below n.out))
theorem Out.age {w : World} {c : Cu} (h : CuAt w c) (n : Out w) : Calls Tryz.prog 150 #[.pointer (some ⟨c.blk, 0, none⟩)] n.u fun e w'' => e = .returned (.int .i64 c.age) ∧ ∃ m : Out w, w'' = m.u :=
  Calls.out_of (age_core c n.u (h.below n.out))
theorem meth_age (a : Addr) (w : World) : (method 310 166 (.pointer (some a)) "loop.example/s01854/impl.age").run Tryz.prog w = .ok (150, .pointer (some a)) w := by kernel_rfl
theorem meth_entry (a : Addr) (w : World) : (method 310 166 (.pointer (some a)) "loop.example/s01854/impl.entry").run Tryz.prog w = .ok (151, .pointer (some a)) w := by kernel_rfl

set_option maxHeartbeats 2000000 in
theorem less_core (base g cap : Nat) (d : Array Cu) (i j : Nat) (w : World) (hO : OwnH w base g cap d) (hC : ∀ c ∈ d, CuAt w c) (hi : i < d.size) (hj : j < d.size) :
    Calls Tryz.prog 147 #[.slice (some ⟨g, 0, none⟩) d.size cap, .int .i64 i, .int .i64 j] w fun e w' => e = .returned (.bool (lessC d[i]! d[j]!)) ∧ Below w.heap.size w w' := by
  have hg := hO.lt.2
  have HO : Hid (OwnH w base g cap d) := hO
  have HI : Hid (CuAt w d[i]!) := hC _ (by rw [getElem!_pos d i hi]; simp)
  have HJ : Hid (CuAt w d[j]!) := hC _ (by rw [getElem!_pos d j hj]; simp)
  have c1 : ∀ n : Out w, n.u.cell? ⟨g, i, none⟩ = some (ifc d[i]!) := fun n => (HO.out.below n.out hg).cell hi
  have c2 : ∀ n : Out w, n.u.cell? ⟨g, j, none⟩ = some (ifc d[j]!) := fun n => (HO.out.below n.out hg).cell hj
  clear hO hC
  obtain ⟨a, hai⟩ : ∃ a, Hid (d[i]! = a) := ⟨_, rfl⟩
  obtain ⟨b, hbj⟩ : ∃ b, Hid (d[j]! = b) := ⟨_, rfl⟩
  rw [hai.out] at HI c1 ⊢
  rw [hbj.out] at HJ c2 ⊢
  have z1 : (i : Int) < (d.size : Int) := by omega
  have z2 : (j : Int) < (d.size : Int) := by omega
  have inh : Nonempty (Out w) := ⟨⟨w, Below.refl _ _⟩⟩
  go_enter Tryz.func147, Tryz.ntmps147
  go_upto_region 1 with fail
  refine wp_region_out (by kernel_rfl) (by kernel_rfl) ?_
  have mE := meth_entry
  have mA := meth_age
  repeat (go_big_quiet_step ((first | (go_at_call 151; refine Out.entry ?_ _; first | exact HI.out | exact HJ.out) | (go_at_call 64; exact Calls.out_of (compare_any _ _ _)))))
  refine wpQuiet_nil ?_
  rintro wy ⟨⟨wx, hby⟩, rfl⟩
  have HI2 : Hid (CuAt wy a) := HI.out.below hby
  have HJ2 : Hid (CuAt wy b) := HJ.out.below hby
  have hsz := hby.size
  clear c1 c2
  by_cases hk : keyCmp a.head b.head = 0
  · have hl : lessC a b = decide (a.age < b.age) := by unfold lessC; rw [if_pos hk]
    have c1 : ∀ n : Out wy, n.u.cell? ⟨g, i, none⟩ = some (ifc d[i]!) := fun n => ((HO.out.below hby hg).below n.out (by omega)).cell hi
    have c2 : ∀ n : Out wy, n.u.cell? ⟨g, j, none⟩ = some (ifc d[j]!) := fun n => ((HO.out.below hby hg).below n.out (by omega)).cell hj
    rw [hai.out] at c1
    rw [hbj.out] at c2
    rw [hk]
    have inh2 : Nonempty (Out wy) := ⟨⟨wy, Below.refl _ _⟩⟩
    go_upto_region 4 with fail
    refine wp_region_out (by kernel_rfl) (by kernel_rfl) ?_
    repeat (go_big_quiet_step ((go_at_call 150; refine Out.age ?_ _; first | exact HI2.out | exact HJ2.out)))
    refine wpQuiet_nil ?_
    rintro wz ⟨⟨wv, hbz⟩, rfl⟩
    go_wp2_with fail
    go_ret
    exact ⟨by rw [hl]; simp, hby.trans (hbz.mono hsz)⟩
  · have hl : lessC a b = decide (keyCmp a.head b.head < 0) := by unfold lessC; rw [if_neg hk]
    go_wp2_with fail
    go_ret
    exact ⟨by rw [hl]; simp, hby⟩

theorem cell?_setCell_some {w : World} {p q : Addr} {x v : Value} (h : w.cell? q = some v) : ∃ v', (w.setCell p x).cell? q = some v' := by
  by_cases e : p = q
  · subst e; exact ⟨x, World.cell?_setCell_same w p x h⟩
  · exact ⟨v, (World.cell?_setCell_other w p q x e).trans h⟩

set_option maxHeartbeats 2000000 in
theorem swap_cells (g cap n i j : Nat) (x y : Value) (w : World) (hx : x.oneCell' = true) (hy : y.oneCell' = true) (hi : i < n) (hj : j < n) (ci : w.cell? ⟨g, i, none⟩ = some (.iface 166 x)) (cj : w.cell? ⟨g, j, none⟩ = some (.iface 166 y))
    (fi : w.frozen? ⟨g, i, none⟩ = false) (fj : w.frozen? ⟨g, j, none⟩ = false) :
    Calls Tryz.prog 148 #[.slice (some ⟨g, 0, none⟩) n cap, .int .i64 i, .int .i64 j] w fun e w' =>
      e = .returned (.tuple #[]) ∧ ∃ q, w' = ((w.setCell ⟨g, i, none⟩ (.iface 166 y)).setCell ⟨g, j, none⟩ (.iface 166 x)).drewN q := by
  obtain ⟨v', hy'⟩ := cell?_setCell_some (w := w) (p := ⟨g, i, none⟩) (x := .iface 166 y) (q := ⟨g, j, none⟩) cj
  have z1 : (i : Int) < (n : Int) := by omega
  have z2 : (j : Int) < (n : Int) := by omega
  go_enter Tryz.func148, Tryz.ntmps148
  go_wp2
  go_region
  all_goals (try go_wp2)
  all_goals go_end0
  all_goals exact ⟨rfl, 1, rfl⟩

theorem meth_len0 (a : Addr) (w : World) : (method 310 170 (.pointer (some a)) "Len").run Tryz.prog w = ((do let v ← loadVar 138 a; pure (93, v)) : Sem (FuncId × Value)).run Tryz.prog w := by kernel_rfl
end Go.Proofs.YtlgeffinhbodeafGreat

/-
  container/heap over the cursors: down.
-/
namespace Go.Proofs.YtlgeffinhbodeafGreat
open Go.ChangeShapes Go.WideShapes Go.ChangeAt Go.RowKit Go.Deep Go.Sort
set_option linter.unusedVariables false
set_option linter.unusedSimpArgs false
set_option maxRecDepth 100000

theorem load_heap (g : Nat) (v : Value) (w : World) (h : w.cell? ⟨g, 0, none⟩ = some v) : (loadVar 138 ⟨g, 0, none⟩).run Tryz.prog w = .ok v w := by
  have a1 : ∀ w, (isAgg 138).run Tryz.prog w = .ok false w := fun w => by kernel_rfl
  unfold loadVar
  simp [go_sem, h, a1]
theorem meth_less0 (a : Addr) (w : World) : (method 310 170 (.pointer (some a)) "Less").run Tryz.prog w = ((do let v ← loadVar 138 a; pure (147, v)) : Sem (FuncId × Value)).run Tryz.prog w := by kernel_rfl
theorem meth_swap0 (a : Addr) (w : World) : (method 310 170 (.pointer (some a)) "Swap").run Tryz.prog w = ((do let v ← loadVar 138 a; pure (148, v)) : Sem (FuncId × Value)).run Tryz.prog w := by kernel_rfl
theorem meth_pop (a : Addr) (w : World) : (method 310 170 (.pointer (some a)) "Pop").run Tryz.prog w = .ok (152, .pointer (some a)) w := by kernel_rfl
theorem meth_len {g : Nat} {v : Value} {w : World} (h : w.cell? ⟨g, 0, none⟩ = some v) : (method 310 170 (.pointer (some ⟨g, 0, none⟩)) "Len").run Tryz.prog w = .ok (93, v) w := by
  rw [meth_len0, Sem.run_bind, load_heap g v w h]; rfl
theorem meth_less {g : Nat} {v : Value} {w : World} (h : w.cell? ⟨g, 0, none⟩ = some v) : (method 310 170 (.pointer (some ⟨g, 0, none⟩)) "Less").run Tryz.prog w = .ok (147, v) w := by
  rw [meth_less0, Sem.run_bind, load_heap g v w h]; rfl
theorem meth_swap {g : Nat} {v : Value} {w : World} (h : w.cell? ⟨g, 0, none⟩ = some v) : (method 310 170 (.pointer (some ⟨g, 0, none⟩)) "Swap").run Tryz.prog w = .ok (148, v) w := by
  rw [meth_swap0, Sem.run_bind, load_heap g v w h]; rfl

theorem len_core (g : Option Addr) (n cap : Nat) (w : World) : Calls Tryz.prog 93 #[.slice g n cap] w fun e w' => e = .returned (.int .i64 n) ∧ w' = w := by
  go_enter Tryz.func93, Tryz.ntmps93
  go_wp2
  go_ret
  exact ⟨rfl, rfl⟩

/-- The heap in memory: its variable, its row, its cursors. -/
structure HeapW (w : World) (hp base g cap : Nat) (d : Array Cu) : Prop where
  hdr : w.cell? ⟨hp, 0, none⟩ = some (.slice (some ⟨g, 0, none⟩) d.size cap)
  free : ∀ j, w.frozen? ⟨hp, j, none⟩ = false
  lt : hp < w.heap.size
  ne : ¬ hp = g
  row : OwnH w base g cap d
  own : base ≤ hp
  cur : ∀ c ∈ d, CuAt w c
  low : ∀ c ∈ d, c.r.b < base
  high : ∀ c ∈ d, base ≤ c.blk ∧ ¬ c.blk = g ∧ ¬ c.blk = hp
theorem HeapW.below {w w' : World} {hp base g cap : Nat} {d : Array Cu} (h : HeapW w hp base g cap d) (hb : Below w.heap.size w w') : HeapW w' hp base g cap d where
  hdr := by rw [hb.cell (p := ⟨hp, 0, none⟩) h.lt]; exact h.hdr
  free := fun j => by rw [hb.frozen (p := ⟨hp, j, none⟩) h.lt]; exact h.free j
  lt := by have := hb.size; have := h.lt; omega
  ne := h.ne
  row := h.row.below hb h.row.lt.2
  own := h.own
  cur := fun c hc => (h.cur c hc).below hb
  low := h.low
  high := h.high
theorem HeapW.turn {w w' : World} {hp base g cap : Nat} {d d' : Array Cu} (h : HeapW w hp base g cap d) (hb : Chg (fun k => k = g) w w') (hO : OwnH w' base g cap d') (hs : d'.size = d.size) (hm : ∀ c ∈ d', c ∈ d) : HeapW w' hp base g cap d' where
  hdr := by rw [hb.cell (p := ⟨hp, 0, none⟩) h.lt h.ne, hs]; exact h.hdr
  free := fun j => by rw [hb.frozen (p := ⟨hp, j, none⟩) h.lt h.ne]; exact h.free j
  lt := by have := hb.size; have := h.lt; omega
  ne := h.ne
  row := hO
  own := h.own
  cur := fun c hc => (h.cur c (hm c hc)).chg hb (h.high c (hm c hc)).2.1 (fun q => by have h1 := h.low c (hm c hc); have h2 := h.row.lt.1; omega)
  low := fun c hc => h.low c (hm c hc)
  high := fun c hc => h.high c (hm c hc)

theorem mem_get {d : Array Cu} {i : Nat} (hi : i < d.size) : d[i]! ∈ d := by rw [getElem!_pos d i hi]; simp
theorem mem_swp {d : Array Cu} {i j : Nat} (hi : i < d.size) (hj : j < d.size) {c : Cu} (h : c ∈ swp d i j) : c ∈ d := by
  unfold swp at h
  rw [← Array.mem_toList_iff, Array.toList_setIfInBounds] at h
  rcases List.mem_or_eq_of_mem_set h with h | rfl
  · rw [Array.toList_setIfInBounds] at h
    rcases List.mem_or_eq_of_mem_set h with h | rfl
    · simpa using h
    · exact mem_get hj
  · exact mem_get hi
theorem size_swp (d : Array Cu) (i j : Nat) : (swp d i j).size = d.size := by simp [swp]
theorem OwnH.swapped {w : World} {base g cap : Nat} {d : Array Cu} (h : OwnH w base g cap d) {i j : Nat} : OwnH ((w.setCell ⟨g, i, none⟩ (ifc d[j]!)).setCell ⟨g, j, none⟩ (ifc d[i]!)) base g cap (swp d i j) := by
  have h1 := (World.ownsRow.stored h i (ifc d[j]!)).1
  have h2 := (World.ownsRow.stored h1 j (ifc d[i]!)).1
  unfold OwnH
  rw [size_swp]
  have : ((swp d i j).toList.map ifc) = ((d.toList.map ifc).set i (ifc d[j]!)).set j (ifc d[i]!) := by
    unfold Go.Sort.swp
    rw [Array.toList_setIfInBounds, Array.toList_setIfInBounds, List.map_set, List.map_set]
  rw [this]
  exact h2
theorem swap_core (hp base g cap : Nat) (d : Array Cu) (i j : Nat) (w : World) (h : HeapW w hp base g cap d) (hi : i < d.size) (hj : j < d.size) :
    Calls Tryz.prog 148 #[.slice (some ⟨g, 0, none⟩) d.size cap, .int .i64 i, .int .i64 j] w fun e w' => e = .returned (.tuple #[]) ∧ HeapW w' hp base g cap (swp d i j) ∧ Chg (fun k => k = g) w w' := by
  refine (swap_cells g cap d.size i j _ _ w rfl rfl hi hj (h.row.cell hi) (h.row.cell hj) (World.ownsRow.frozenAt h.row i) (World.ownsRow.frozenAt h.row j)).mono ?_
  rintro e w' ⟨he, q, rfl⟩
  have c1 : Chg (fun k => k = g) w ((w.setCell ⟨g, i, none⟩ (ifc d[j]!)).setCell ⟨g, j, none⟩ (ifc d[i]!)) := (Chg.of_set (S := fun k => k = g) w g i _ rfl).trans (Chg.of_set (S := fun k => k = g) _ g j _ rfl)
  have hb := below_drewN (Below.refl ((w.setCell ⟨g, i, none⟩ (ifc d[j]!)).setCell ⟨g, j, none⟩ (ifc d[i]!)).heap.size ((w.setCell ⟨g, i, none⟩ (ifc d[j]!)).setCell ⟨g, j, none⟩ (ifc d[i]!))) q
  have c2 := c1.trans (Chg.of_below hb)
  have hO : OwnH ((w.setCell ⟨g, i, none⟩ (ifc d[j]!)).setCell ⟨g, j, none⟩ (ifc d[i]!)) base g cap (swp d i j) := h.row.swapped
  exact ⟨he, h.turn c2 (hO.below hb hO.lt.2) (size_swp _ _ _) (fun c hc => mem_swp hi hj hc), c2⟩

theorem sift_none {n i : Nat} {d : Array Cu} (h : n ≤ 2 * i + 1) : siftDown gtC n 0 i d = d := by rw [siftDown, dif_pos (by omega)]
theorem sift_r_stop {n i : Nat} {d : Array Cu} (h : 2 * i + 2 < n) (h1 : lessC d[2 * i + 2]! d[2 * i + 1]! = true) (h2 : lessC d[2 * i + 2]! d[i]! = false) : siftDown gtC n 0 i d = d := by
  rw [siftDown, dif_neg (by omega)]
  simp only [Nat.zero_add, gtC]
  rw [if_pos (by simp [h1]; omega), if_pos (by simp [h2])]
theorem sift_r_go {n i : Nat} {d : Array Cu} (h : 2 * i + 2 < n) (h1 : lessC d[2 * i + 2]! d[2 * i + 1]! = true) (h2 : lessC d[2 * i + 2]! d[i]! = true) : siftDown gtC n 0 i d = siftDown gtC n 0 (2 * i + 2) (swp d i (2 * i + 2)) := by
  rw [siftDown, dif_neg (by omega)]
  simp only [Nat.zero_add, gtC]
  rw [if_pos (by simp [h1]; omega), if_neg (by simp [h2]), dif_pos h]
theorem sift_l_stop {n i : Nat} {d : Array Cu} (h : 2 * i + 1 < n) (h1 : 2 * i + 2 < n → lessC d[2 * i + 2]! d[2 * i + 1]! = false) (h2 : lessC d[2 * i + 1]! d[i]! = false) : siftDown gtC n 0 i d = d := by
  rw [siftDown, dif_neg (by omega)]
  simp only [Nat.zero_add, gtC]
  rw [if_neg (by simp; exact fun q => h1 (by omega)), if_pos (by simp [h2])]
theorem sift_l_go {n i : Nat} {d : Array Cu} (h : 2 * i + 1 < n) (h1 : 2 * i + 2 < n → lessC d[2 * i + 2]! d[2 * i + 1]! = false) (h2 : lessC d[2 * i + 1]! d[i]! = true) : siftDown gtC n 0 i d = siftDown gtC n 0 (2 * i + 1) (swp d i (2 * i + 1)) := by
  rw [siftDown, dif_neg (by omega)]
  simp only [Nat.zero_add, gtC]
  rw [if_neg (by simp; exact fun q => h1 (by omega)), if_neg (by simp [h2])]

theorem less_at (hp base g cap : Nat) (d : Array Cu) (a b : Int) (i j : Nat) (w : World) (h : HeapW w hp base g cap d) (ha : a = i) (hb : b = j) (hi : i < d.size) (hj : j < d.size) :
    Calls Tryz.prog 147 #[.slice (some ⟨g, 0, none⟩) d.size cap, .int .i64 a, .int .i64 b] w fun e w' => e = .returned (.bool (lessC d[i]! d[j]!)) ∧ HeapW w' hp base g cap d ∧ Chg (fun k => k = g) w w' := by
  subst ha hb
  exact (less_core base g cap d i j w h.row (fun c hc => h.cur c hc) hi hj).mono fun e w' ⟨he, hb⟩ => ⟨he, h.below hb, Chg.of_below hb⟩
theorem swap_at (hp base g cap : Nat) (d : Array Cu) (a b : Int) (i j : Nat) (w : World) (h : HeapW w hp base g cap d) (ha : a = i) (hb : b = j) (hi : i < d.size) (hj : j < d.size) :
    Calls Tryz.prog 148 #[.slice (some ⟨g, 0, none⟩) d.size cap, .int .i64 a, .int .i64 b] w fun e w' => e = .returned (.tuple #[]) ∧ HeapW w' hp base g cap (swp d i j) ∧ Chg (fun k => k = g) w w' := by
  subst ha hb
  exact swap_core hp base g cap d i j w h hi hj

/-- How the loop stands. -/
structure DownAt (hp base g cap n i0 : Nat) (d : Array Cu) (w : World) (i : Nat) (d' : Array Cu) (w' : World) : Prop where
  heap : HeapW w' hp base g cap d'
  same : siftDown gtC n 0 i d' = siftDown gtC n 0 i0 d
  size : d'.size = d.size
  chg : Chg (fun k => k = g) w w'

set_option maxHeartbeats 4000000 in
theorem down_core (hp base g cap n i0 : Nat) (d : Array Cu) (w : World) (h : HeapW w hp base g cap d) (hn : n ≤ d.size) (hsz : d.size ≤ 1048576) (hi0 : i0 ≤ 1048576) :
    Calls Tryz.prog 128 #[.iface 170 (.pointer (some ⟨hp, 0, none⟩)), .int .i64 i0, .int .i64 n] w fun e w' =>
      ∃ b, e = .returned (.bool b) ∧ HeapW w' hp base g cap (siftDown gtC n 0 i0 d) ∧ Chg (fun k => k = g) w w' := by
  have H0 : Hid (HeapW w hp base g cap d) := h
  clear h
  go_enter Tryz.func128, Tryz.ntmps128
  go_wp2_with fail
  go_loopw [7] (fun c wr => ∃ (i : Nat) (d' : Array Cu), i ≤ 1048576 ∧ c = .int .i64 i ∧ DownAt hp base g cap n i0 d w i d' wr) (fun c _ => 1048577 - (intOf c).toNat)
  case atStart => exact ⟨i0, d, hi0, rfl, H0.out, rfl, rfl, Chg.refl _ _⟩
  case round =>
    obtain ⟨i, d', hi, rfl, hD⟩ := hrel
    have HD : Hid (DownAt hp base g cap n i0 d w i d' wr) := hD
    have hs1 : n ≤ d'.size := by rw [hD.size]; exact hn
    have hs2 : d'.size ≤ 1048576 := by rw [hD.size]; exact hsz
    clear hD
    by_cases hc1 : n ≤ 2 * i + 1
    · have z : (n : Int) ≤ 2 * (i : Int) + 1 := by omega
      go_wp2_with fail
      go_ret
      refine ⟨_, rfl, ?_, HD.out.chg⟩
      rw [← HD.out.same, sift_none hc1]; exact HD.out.heap
    · have z : ¬ (n : Int) ≤ 2 * (i : Int) + 1 := by omega
      have hiA : i < d'.size := by omega
      have hlA : 2 * i + 1 < d'.size := by omega
      have m1 := meth_less HD.out.heap.hdr
      by_cases hc2 : 2 * i + 2 < n
      · have z2 : 2 * (i : Int) + 1 + 1 < (n : Int) := by omega
        have hrA : 2 * i + 2 < d'.size := by omega
        go_wp2_with fail
        refine (less_at hp base g cap d' _ _ (2 * i + 2) (2 * i + 1) _ HD.out.heap (by omega) (by omega) hrA hlA).mono ?_
        rintro e w1 ⟨rfl, hH1, hC1⟩
        have H1 : Hid (HeapW w1 hp base g cap d' ∧ Chg (fun k => k = g) w w1) := ⟨hH1, HD.out.chg.trans hC1⟩
        have m2 := meth_less hH1.hdr
        clear hH1 hC1 m1
        cases hL : lessC d'[2 * i + 2]! d'[2 * i + 1]!
        · go_wp2_with fail
          refine (less_at hp base g cap d' _ _ (2 * i + 1) i _ H1.out.1 (by omega) rfl hlA hiA).mono ?_
          rintro e w2 ⟨rfl, hH2, hC2⟩
          have H2 : Hid (HeapW w2 hp base g cap d' ∧ Chg (fun k => k = g) w w2) := ⟨hH2, H1.out.2.trans hC2⟩
          have m3 := meth_swap hH2.hdr
          clear hH2 hC2 m2
          cases hM : lessC d'[2 * i + 1]! d'[i]!
          · go_wp2_with fail
            go_ret
            refine ⟨_, rfl, ?_, H2.out.2⟩
            rw [← HD.out.same, sift_l_stop (by omega) (fun _ => hL) hM]; exact H2.out.1
          · go_wp2_with fail
            refine (swap_at hp base g cap d' _ _ i (2 * i + 1) _ H2.out.1 rfl (by omega) hiA hlA).mono ?_
            rintro e w3 ⟨rfl, hH3, hC3⟩
            have H3 : Hid (DownAt hp base g cap n i0 d w (2 * i + 1) (swp d' i (2 * i + 1)) w3) := ⟨hH3, by rw [← HD.out.same, sift_l_go (by omega) (fun _ => hL) hM], by rw [size_swp]; exact HD.out.size, H2.out.2.trans hC3⟩
            clear hH3 hC3 m3
            go_wp2_with fail
            go_roundw
            case rel => exact ⟨2 * i + 1, _, by omega, by go_num, H3.out⟩
            case measure => go_light; simp [intOf]; omega
        · go_wp2_with fail
          refine (less_at hp base g cap d' _ _ (2 * i + 2) i _ H1.out.1 (by omega) rfl hrA hiA).mono ?_
          rintro e w2 ⟨rfl, hH2, hC2⟩
          have H2 : Hid (HeapW w2 hp base g cap d' ∧ Chg (fun k => k = g) w w2) := ⟨hH2, H1.out.2.trans hC2⟩
          have m3 := meth_swap hH2.hdr
          clear hH2 hC2 m2
          cases hM : lessC d'[2 * i + 2]! d'[i]!
          · go_wp2_with fail
            go_ret
            refine ⟨_, rfl, ?_, H2.out.2⟩
            rw [← HD.out.same, sift_r_stop hc2 hL hM]; exact H2.out.1
          · go_wp2_with fail
            refine (swap_at hp base g cap d' _ _ i (2 * i + 2) _ H2.out.1 rfl (by omega) hiA hrA).mono ?_
            rintro e w3 ⟨rfl, hH3, hC3⟩
            have H3 : Hid (DownAt hp base g cap n i0 d w (2 * i + 2) (swp d' i (2 * i + 2)) w3) := ⟨hH3, by rw [← HD.out.same, sift_r_go hc2 hL hM], by rw [size_swp]; exact HD.out.size, H2.out.2.trans hC3⟩
            clear hH3 hC3 m3
            go_wp2_with fail
            go_roundw
            case rel => exact ⟨2 * i + 2, _, by omega, by go_num, H3.out⟩
            case measure => go_light; simp [intOf]; omega
      · have z2 : ¬ 2 * (i : Int) + 1 + 1 < (n : Int) := by omega
        go_wp2_with fail
        refine (less_at hp base g cap d' _ _ (2 * i + 1) i _ HD.out.heap (by omega) rfl hlA hiA).mono ?_
        rintro e w2 ⟨rfl, hH2, hC2⟩
        have H2 : Hid (HeapW w2 hp base g cap d' ∧ Chg (fun k => k = g) w w2) := ⟨hH2, HD.out.chg.trans hC2⟩
        have m3 := meth_swap hH2.hdr
        clear hH2 hC2 m1
        cases hM : lessC d'[2 * i + 1]! d'[i]!
        · go_wp2_with fail
          go_ret
          refine ⟨_, rfl, ?_, H2.out.2⟩
          rw [← HD.out.same, sift_l_stop (by omega) (fun q => absurd q hc2) hM]; exact H2.out.1
        · go_wp2_with fail
          refine (swap_at hp base g cap d' _ _ i (2 * i + 1) _ H2.out.1 rfl (by omega) hiA hlA).mono ?_
          rintro e w3 ⟨rfl, hH3, hC3⟩
          have H3 : Hid (DownAt hp base g cap n i0 d w (2 * i + 1) (swp d' i (2 * i + 1)) w3) := ⟨hH3, by rw [← HD.out.same, sift_l_go (by omega) (fun q => absurd q hc2) hM], by rw [size_swp]; exact HD.out.size, H2.out.2.trans hC3⟩
          clear hH3 hC3 m3
          go_wp2_with fail
          go_roundw
          case rel => exact ⟨2 * i + 1, _, by omega, by go_num, H3.out⟩
          case measure => go_light; simp [intOf]; omega
end Go.Proofs.YtlgeffinhbodeafGreat

/-
  container/heap over the cursors: Init, Fix at the top, Pop; the step.
-/
namespace Go.Proofs.YtlgeffinhbodeafGreat
open Go.ChangeShapes Go.WideShapes Go.ChangeAt Go.RowKit Go.Deep Go.Sort
set_option linter.unusedVariables false
set_option linter.unusedSimpArgs false
set_option maxRecDepth 100000

set_option maxHeartbeats 1000000 in
theorem up_zero (v : Value) (w : World) : Calls Tryz.prog 129 #[v, .int .i64 0] w fun e w' => e = .returned (.tuple #[]) ∧ w' = w := by
  go_enter Tryz.func129, Tryz.ntmps129
  go_wp2_with fail
  go_loopw [1] (fun c wr => c = .int .i64 0 ∧ wr = w) (fun _ _ => 0)
  case atStart => exact ⟨rfl, rfl⟩
  case round =>
    obtain ⟨rfl, rfl⟩ := hrel
    go_wp2_with fail
    go_end0
    exact ⟨rfl, rfl⟩

set_option maxHeartbeats 1000000 in
theorem fix_core (hp base g cap : Nat) (d : Array Cu) (w : World) (h : HeapW w hp base g cap d) (hsz : d.size ≤ 1048576) :
    Calls Tryz.prog 119 #[.iface 170 (.pointer (some ⟨hp, 0, none⟩)), .int .i64 0] w fun e w' =>
      e = .returned (.tuple #[]) ∧ HeapW w' hp base g cap (siftDown gtC d.size 0 0 d) ∧ Chg (fun k => k = g) w w' := by
  have H0 : Hid (HeapW w hp base g cap d) := h
  have m1 := meth_len h.hdr
  clear h
  go_enter Tryz.func119, Tryz.ntmps119
  go_wp2_with fail
  refine (len_core _ _ _ _).mono ?_
  rintro e w1 ⟨rfl, rfl⟩
  go_wp2_with fail
  refine (down_core hp base g cap d.size 0 d _ H0.out (Nat.le_refl _) hsz (by omega)).mono ?_
  rintro e w2 ⟨b, rfl, hH, hC⟩
  have H2 : Hid (HeapW w2 hp base g cap (siftDown gtC d.size 0 0 d) ∧ Chg (fun k => k = g) w1 w2) := ⟨hH, hC⟩
  clear hH hC m1
  cases b
  · go_wp2_with fail
    refine (up_zero _ _).mono ?_
    rintro e w3 ⟨rfl, rfl⟩
    go_wp2_with fail
    go_end0
    exact ⟨rfl, H2.out.1, H2.out.2⟩
  · go_wp2_with fail
    go_end0
    exact ⟨rfl, H2.out.1, H2.out.2⟩

/-- How the building stands. -/
structure BuildAt (hp base g cap : Nat) (d : Array Cu) (w : World) (k : Nat) (d' : Array Cu) (w' : World) : Prop where
  heap : HeapW w' hp base g cap d'
  same : heapBuild gtC d.size 0 k d' = heapBuild gtC d.size 0 (d.size / 2) d
  size : d'.size = d.size
  chg : Chg (fun k => k = g) w w'
theorem size_sift0 (n : Nat) : ∀ (m i : Nat) (d : Array Cu), n - i ≤ m → (siftDown gtC n 0 i d).size = d.size
  | 0, i, d, h => by rw [sift_none (by omega)]
  | m + 1, i, d, h => by
    by_cases h1 : n ≤ 2 * i + 1
    · rw [sift_none h1]
    · have hl : ∀ q : 2 * i + 2 < n → lessC d[2 * i + 2]! d[2 * i + 1]! = false, (siftDown gtC n 0 i d).size = d.size := fun q => by
        cases hM : lessC d[2 * i + 1]! d[i]!
        · rw [sift_l_stop (by omega) q hM]
        · rw [sift_l_go (by omega) q hM, size_sift0 n m _ _ (by omega), size_swp]
      by_cases h2 : 2 * i + 2 < n
      · cases hL : lessC d[2 * i + 2]! d[2 * i + 1]!
        · exact hl (fun _ => hL)
        · cases hM : lessC d[2 * i + 2]! d[i]!
          · rw [sift_r_stop h2 hL hM]
          · rw [sift_r_go h2 hL hM, size_sift0 n m _ _ (by omega), size_swp]
      · exact hl (fun q => absurd q h2)
theorem size_sift (n i : Nat) (d : Array Cu) : (siftDown gtC n 0 i d).size = d.size := size_sift0 n _ i d (Nat.le_refl _)

set_option maxHeartbeats 1000000 in
theorem init_core (hp base g cap : Nat) (d : Array Cu) (w : World) (h : HeapW w hp base g cap d) (hsz : d.size ≤ 1048576) :
    Calls Tryz.prog 116 #[.iface 170 (.pointer (some ⟨hp, 0, none⟩))] w fun e w' =>
      e = .returned (.tuple #[]) ∧ HeapW w' hp base g cap (heapBuild gtC d.size 0 (d.size / 2) d) ∧ Chg (fun k => k = g) w w' := by
  have H0 : Hid (HeapW w hp base g cap d) := h
  have m1 := meth_len h.hdr
  clear h
  go_enter Tryz.func116, Tryz.ntmps116
  go_wp2_with fail
  refine (len_core _ _ _ _).mono ?_
  rintro e w1 ⟨rfl, rfl⟩
  go_wp2_with fail
  go_loopw [3] (fun c wr => ∃ (k : Nat) (d' : Array Cu), k ≤ d.size / 2 ∧ c = .int .i64 ((k : Int) - 1) ∧ BuildAt hp base g cap d w1 k d' wr) (fun c _ => (intOf c + 1).toNat)
  case atStart => exact ⟨d.size / 2, d, Nat.le_refl _, by go_num, H0.out, rfl, rfl, Chg.refl _ _⟩
  case round =>
    obtain ⟨k, d', hk, rfl, hD⟩ := hrel
    have HD : Hid (BuildAt hp base g cap d w1 k d' wr) := hD
    have hs1 : d.size ≤ d'.size := by rw [hD.size]; omega
    have hs2 : d'.size ≤ 1048576 := by rw [hD.size]; exact hsz
    clear hD
    by_cases h0 : k = 0
    · subst h0
      go_wp2_with fail
      go_end0
      refine ⟨rfl, ?_, HD.out.chg⟩
      rw [← HD.out.same]; exact HD.out.heap
    · obtain ⟨j, rfl⟩ : ∃ j, k = j + 1 := ⟨k - 1, by omega⟩
      have e1 : (((j + 1 : Nat) : Int) - 1) = (j : Int) := by omega
      rw [e1]
      have zj : (0 : Int) ≤ (j : Int) := by omega
      clear e1
      go_wp2_with fail
      refine (down_core hp base g cap d.size j d' _ HD.out.heap hs1 hs2 (by omega)).mono ?_
      rintro e w2 ⟨b, rfl, hH, hC⟩
      have H2 : Hid (BuildAt hp base g cap d w1 j (siftDown gtC d.size 0 j d') w2) := ⟨hH, by rw [← HD.out.same]; rfl, by rw [size_sift]; exact HD.out.size, HD.out.chg.trans hC⟩
      clear hH hC
      go_wp2_with fail
      go_roundw
      case rel => exact ⟨j, _, by omega, by go_num, H2.out⟩
      case measure => go_light; simp [intOf]

theorem OwnH.popped {w : World} {base g cap : Nat} {d : Array Cu} (h : OwnH w base g cap d) : OwnH w base g cap d.pop := by
  rcases h.2 with ⟨hv, _⟩ | ⟨g', cap', cur, hv, h1, h2, h3, h4, h5, h6⟩
  · cases hv
  · simp only [Value.slice.injEq, Option.some.injEq, Addr.mk.injEq, and_true, true_and] at hv
    obtain ⟨rfl, rfl⟩ := hv
    refine ⟨by simp, .inr ⟨g, cap, cur, rfl, h1, h2, by simp; omega, h4, h5, ?_⟩⟩
    have e : (d.pop.toList.map ifc) = (d.toList.map ifc).take (d.size - 1) := by
      rw [Array.toList_pop, List.dropLast_eq_take, List.map_take]; simp
    rw [e, ← h6, List.take_take]
    congr 1
    simp
theorem mem_pop {d : Array Cu} {c : Cu} (h : c ∈ d.pop) : c ∈ d := by
  rw [← Array.mem_toList_iff, Array.toList_pop] at h
  have := List.dropLast_subset _ h
  simpa using this
theorem HeapW.pop {w : World} {hp base g cap : Nat} {d : Array Cu} (h : HeapW w hp base g cap d) : HeapW (w.setCell ⟨hp, 0, none⟩ (.slice (some ⟨g, 0, none⟩) (d.size - 1) cap)) hp base g cap d.pop := by
  have hg : Chg (fun k => k = hp) w (w.setCell ⟨hp, 0, none⟩ (.slice (some ⟨g, 0, none⟩) (d.size - 1) cap)) := Chg.of_set _ _ _ _ rfl
  exact {
    hdr := by rw [World.cell?_setCell_same _ _ _ h.hdr]; simp
    free := fun j => by rw [World.frozen?_setCell]; exact h.free j
    lt := by have := hg.size; have := h.lt; omega
    ne := h.ne
    row := World.ownsRow.kept h.row.popped (grown_set w hp 0 _) (.inr (fun q => h.ne (Option.some.inj q).symm))
    own := h.own
    cur := fun c hc => (h.cur c (mem_pop hc)).chg hg (h.high c (mem_pop hc)).2.2 (fun q => by have h1 := h.low c (mem_pop hc); have h2 := h.own; omega)
    low := fun c hc => h.low c (mem_pop hc)
    high := fun c hc => h.high c (mem_pop hc) }

set_option maxHeartbeats 1000000 in
theorem popM_core (hp base g cap : Nat) (d : Array Cu) (w : World) (h : HeapW w hp base g cap d) (h0 : 0 < d.size) (hsz : d.size ≤ 1048576) :
    Calls Tryz.prog 152 #[.pointer (some ⟨hp, 0, none⟩)] w fun e w' => (∃ v, e = .returned v) ∧ HeapW w' hp base g cap d.pop ∧ Chg (fun k => k = hp) w w' := by
  have hP : Hid (HeapW (w.setCell ⟨hp, 0, none⟩ (.slice (some ⟨g, 0, none⟩) (d.size - 1) cap)) hp base g cap d.pop) := h.pop
  have c0 := h.hdr
  have c1 := h.row.cell (i := d.size - 1) (by omega)
  have f0 := h.free 0
  have hcap : d.size ≤ cap := by
    rcases h.row.2 with ⟨hv, _⟩ | ⟨g', cap', cur, hv, h1, h2, h3, h4, h5, h6⟩
    · cases hv
    · simp only [Value.slice.injEq, Option.some.injEq, Addr.mk.injEq, and_true, true_and] at hv
      obtain ⟨rfl, rfl⟩ := hv
      exact h3
  generalize d[d.size - 1]! = c at c1
  clear h
  have hC : Hid (Chg (fun k => k = hp) w (w.setCell ⟨hp, 0, none⟩ (.slice (some ⟨g, 0, none⟩) (d.size - 1) cap))) := Chg.of_set _ _ _ _ rfl
  generalize hn : d.size = n at *
  obtain ⟨m, rfl⟩ : ∃ m, n = m + 1 := ⟨n - 1, by omega⟩
  have HN : Hid (d.size = m + 1) := hn
  clear hn
  simp only [Nat.add_sub_cancel] at *
  go_enter Tryz.func152, Tryz.ntmps152
  go_wp2
  go_ret
  exact ⟨⟨_, rfl⟩, hP.out, hC.out⟩

set_option maxHeartbeats 1000000 in
theorem pop_core (hp base g cap : Nat) (d : Array Cu) (w : World) (h : HeapW w hp base g cap d) (h0 : 0 < d.size) (hsz : d.size ≤ 1048576) :
    Calls Tryz.prog 120 #[.iface 170 (.pointer (some ⟨hp, 0, none⟩))] w fun e w' =>
      (∃ v, e = .returned v) ∧ HeapW w' hp base g cap (siftDown gtC (d.size - 1) 0 0 (swp d 0 (d.size - 1))).pop ∧ Chg (fun k => k = g ∨ k = hp) w w' := by
  have H0 : Hid (HeapW w hp base g cap d) := h
  have m1 := meth_len h.hdr
  have m2 := meth_swap h.hdr
  clear h
  have mP := fun w => meth_pop ⟨hp, 0, none⟩ w
  go_enter Tryz.func120, Tryz.ntmps120
  go_wp2_with fail
  refine (len_core _ _ _ _).mono ?_
  rintro e w1 ⟨rfl, rfl⟩
  go_wp2_with fail
  refine (swap_at hp base g cap d _ _ 0 (d.size - 1) _ H0.out rfl (by omega) h0 (by omega)).mono ?_
  rintro e w2 ⟨rfl, hH2, hC2⟩
  have H2 : Hid (HeapW w2 hp base g cap (swp d 0 (d.size - 1)) ∧ Chg (fun k => k = g) w1 w2) := ⟨hH2, hC2⟩
  clear hH2 hC2 m1 m2
  have e1 : (d.size : Int) - 1 = ((d.size - 1 : Nat) : Int) := by omega
  rw [e1]
  clear e1
  go_wp2_with fail
  refine (down_core hp base g cap (d.size - 1) 0 (swp d 0 (d.size - 1)) _ H2.out.1 (by rw [size_swp]; omega) (by rw [size_swp]; exact hsz) (by omega)).mono ?_
  rintro e w3 ⟨b, rfl, hH3, hC3⟩
  have H3 : Hid (HeapW w3 hp base g cap (siftDown gtC (d.size - 1) 0 0 (swp d 0 (d.size - 1))) ∧ Chg (fun k => k = g) w1 w3) := ⟨hH3, H2.out.2.trans hC3⟩
  clear hH3 hC3
  go_wp2_with fail
  refine (popM_core hp base g cap _ _ H3.out.1 (by rw [size_sift, size_swp]; exact h0) (by rw [size_sift, size_swp]; exact hsz)).mono ?_
  rintro e w4 ⟨⟨v, rfl⟩, hH4, hC4⟩
  have H4 : Hid (HeapW w4 hp base g cap (siftDown gtC (d.size - 1) 0 0 (swp d 0 (d.size - 1))).pop ∧ Chg (fun k => k = g ∨ k = hp) w1 w4) := ⟨hH4, (H3.out.2.mono (fun k q => .inl q)).trans (hC4.mono (fun k q => .inr q))⟩
  clear hH4 hC4
  go_wp2_with fail
  go_ret
  exact ⟨⟨_, rfl⟩, H4.out.1, H4.out.2⟩
end Go.Proofs.YtlgeffinhbodeafGreat

/-
  The step of the heap, without memory.
-/
namespace Go.Proofs.YtlgeffinhbodeafGreat
set_option linter.unusedVariables false
set_option linter.unusedSimpArgs false
open Go.Sort (siftDown heapBuild swp PermIn)

theorem perm_of_permIn {d d' : Array Cu} (h : PermIn 0 d.size d d') : d'.toList.Perm d.toList := by
  have h2 := h.2.2
  have e1 : d.extract 0 d.size = d := by simp
  have e2 : d'.extract 0 d.size = d' := by rw [← h.1]; simp
  rw [e1, e2] at h2
  exact h2
abbrev fl (c : Cu) : Nat × List Ent := (c.age, c.rest)
/-- A heap: no node is greater than its children. -/
def Heap (d : Array Cu) : Prop := ∀ i, i < d.size → Go.Sort.Ok gtC 0 d.size d i
theorem heap_min {d : Array Cu} (h : Heap d) {c : Cu} (hc : c ∈ d) : lessC c d[0]! = false := by
  obtain ⟨i, hi, rfl⟩ := Array.getElem_of_mem hc
  have := Go.Sort.root_max swo_gtC h i i (Nat.le_refl _) hi
  simp only [Nat.zero_add] at this
  rw [getElem!_pos d i hi] at this
  exact this
theorem heap_build {d : Array Cu} : Heap (heapBuild gtC d.size 0 (d.size / 2) d) ∧ (heapBuild gtC d.size 0 (d.size / 2) d).toList.Perm d.toList := by
  have h := Go.Sort.build swo_gtC d.size 0 (d.size / 2) d (by omega) (fun i h1 h2 k hk hlt => by omega)
  rw [Nat.zero_add] at h
  refine ⟨?_, perm_of_permIn h.2⟩
  intro i hi
  rw [h.2.1] at hi ⊢
  exact h.1 i hi
/-- Another one at the top, put right. -/
theorem heap_fix {c c' : Cu} {t : List Cu} (h : Heap ⟨c :: t⟩) : Heap (siftDown gtC (t.length + 1) 0 0 ⟨c' :: t⟩) ∧ (siftDown gtC (t.length + 1) 0 0 ⟨c' :: t⟩).toList.Perm (c' :: t) := by
  have g : ∀ i, i ≠ 0 → (⟨c' :: t⟩ : Array Cu)[i]! = (⟨c :: t⟩ : Array Cu)[i]! := fun i hi => by
    obtain ⟨j, rfl⟩ : ∃ j, i = j + 1 := ⟨i - 1, by omega⟩
    simp [getElem!_def]
  have hs : (⟨c' :: t⟩ : Array Cu).size = t.length + 1 := rfl
  have hs0 : (⟨c :: t⟩ : Array Cu).size = t.length + 1 := rfl
  have h1 := Go.Sort.sift swo_gtC (t.length + 1) 0 0 (t.length + 1) 0 ⟨c' :: t⟩ (by omega) (by rw [hs]; omega) (Nat.le_refl _) (fun i _ hi hne k hk hlt => by
      have := h i (by rw [hs0]; exact hi) k hk (by rw [hs0]; exact hlt)
      rw [Nat.zero_add, Nat.zero_add] at this ⊢
      rw [g i hne, g k (by omega)]
      exact this) (fun p _ hp => by omega)
  rw [Nat.zero_add] at h1
  have hp : PermIn 0 (⟨c' :: t⟩ : Array Cu).size ⟨c' :: t⟩ (siftDown gtC (t.length + 1) 0 0 ⟨c' :: t⟩) := h1.2
  refine ⟨?_, perm_of_permIn hp⟩
  intro i hi
  rw [hp.1] at hi ⊢
  exact h1.1 i (Nat.zero_le _) hi
/-- The top taken off. -/
theorem heap_pop {c : Cu} {t : List Cu} (h : Heap ⟨c :: t⟩) : Heap (siftDown gtC t.length 0 0 (swp ⟨c :: t⟩ 0 t.length)).pop ∧ (siftDown gtC t.length 0 0 (swp ⟨c :: t⟩ 0 t.length)).pop.toList.Perm t := by
  obtain ⟨d, hd⟩ : ∃ d : Array Cu, d = ⟨c :: t⟩ := ⟨_, rfl⟩
  have hs0 : d.size = t.length + 1 := by rw [hd]; rfl
  have hc0 : d[0]! = c := by rw [hd]; rfl
  rw [← hd] at h ⊢
  obtain ⟨e, he⟩ : ∃ e : Array Cu, e = swp d 0 t.length := ⟨_, rfl⟩
  have hes : e.size = t.length + 1 := by rw [he, Go.Sort.size_swp]; exact hs0
  have hel : e[t.length]! = c := by rw [he, Go.Sort.swp_right d 0 t.length (by omega)]; exact hc0
  have g : ∀ i, i ≠ 0 → i < t.length → e[i]! = d[i]! := fun i h1 h2 => by rw [he]; exact Go.Sort.swp_other d 0 t.length i h1 (by omega)
  have hpe : PermIn 0 d.size d e := by rw [he]; exact Go.Sort.swp_permIn d 0 d.size 0 t.length (Nat.le_refl _) (by omega) (Nat.zero_le _) (by omega) (Nat.le_refl _)
  rw [← he]
  have h1 := Go.Sort.sift swo_gtC t.length 0 0 t.length 0 e (by omega) (by omega) (Nat.le_refl _) (fun i _ hi hne k hk hlt => by
      have := h i (by omega) k hk (by omega)
      rw [Nat.zero_add, Nat.zero_add] at this ⊢
      rw [g i hne hi, g k (by omega) hlt]
      exact this) (fun p _ hp => by omega)
  rw [Nat.zero_add] at h1
  obtain ⟨f, hf⟩ : ∃ f : Array Cu, f = siftDown gtC t.length 0 0 e := ⟨_, rfl⟩
  rw [← hf] at h1 ⊢
  have hfs : f.size = t.length + 1 := by rw [h1.2.1]; exact hes
  have hfl : f[t.length]! = c := by rw [h1.2.2.1 t.length (.inr (Nat.le_refl _))]; exact hel
  have hpf : PermIn 0 d.size d f := by
    refine Go.Sort.permIn_trans d e f 0 d.size hpe ?_
    exact Go.Sort.permIn_mono e f 0 t.length 0 d.size (Nat.le_refl _) (by omega) (by omega) h1.2
  have hps : f.pop.size = t.length := by simp [hfs]
  refine ⟨?_, ?_⟩
  · intro i hi k hk hlt
    rw [hps] at hi hlt
    have := h1.1 i (Nat.zero_le _) hi k hk hlt
    rw [Nat.zero_add, Nat.zero_add] at this ⊢
    have q : ∀ j, j < t.length → f.pop[j]! = f[j]! := fun j hj => by
      rw [getElem!_pos f.pop j (by omega), getElem!_pos f j (by omega)]; simp
    rw [q i hi, q k hlt]
    exact this
  · have hP := perm_of_permIn hpf
    rw [hd] at hP
    have hdl : f.toList = f.pop.toList ++ [c] := by
      rw [Array.toList_pop]
      have hlen : f.toList.length = t.length + 1 := by rw [Array.length_toList]; exact hfs
      have hne : f.toList ≠ [] := by intro q; rw [q] at hlen; simp at hlen
      have hgl : f.toList.getLast hne = c := by
        rw [List.getLast_eq_getElem]
        have : f[t.length]! = f[t.length]'(by omega) := getElem!_pos f t.length (by omega)
        rw [this] at hfl
        rw [← hfl]
        simp [hfs]
      have := List.dropLast_concat_getLast hne
      rw [hgl] at this
      exact this.symm
    rw [hdl] at hP
    have hP2 : (c :: f.pop.toList).Perm (c :: t) := (List.perm_append_singleton c f.pop.toList).symm.trans hP
    exact hP2.cons_inv

/-- The heap's least one gives the next of all. -/
theorem flow_min {A : Nat → Ent → Prop} {N : Nat} {P : List (Nat × Ent)} {c : Cu} {t : List Cu} (hh : Heap ⟨c :: t⟩) (hpos : ∀ x ∈ c :: t, x.pos < x.r.es.length) (h : Flow A N P ((c :: t).map fl)) :
    (∀ p ∈ P, Lt2 p (c.age, c.head)) ∧ Flow A N (P ++ [(c.age, c.head)]) ((c.age, c.r.es.drop (c.pos + 1)) :: t.map fl) := by
  have e : (c :: t).map fl = (c.age, c.head :: c.r.es.drop (c.pos + 1)) :: t.map fl := by
    rw [List.map_cons]
    simp only [fl, Cu.rest_cons (hpos c (by simp))]
  rw [e] at h
  refine ⟨h.next, h.step (fun p hp => ?_)⟩
  obtain ⟨x, hx, rfl⟩ := List.mem_map.1 hp
  refine ⟨x.head, x.r.es.drop (x.pos + 1), Cu.rest_cons (hpos x (List.mem_cons_of_mem _ hx)), ?_⟩
  have := heap_min hh (c := x) (by simp [hx])
  exact lessC_false.1 this
end Go.Proofs.YtlgeffinhbodeafGreat

/-
  The step of the heap in memory.
-/
namespace Go.Proofs.YtlgeffinhbodeafGreat
open Go.ChangeShapes Go.WideShapes Go.ChangeAt Go.RowKit Go.Deep
set_option linter.unusedVariables false
set_option linter.unusedSimpArgs false
set_option maxRecDepth 100000
open Go.Sort (siftDown heapBuild swp PermIn)

/-- The heap, ordered, and what is still to come of it. -/
structure HeapOk (A : Nat → Ent → Prop) (N : Nat) (S : Nat → Prop) (hp base g cap : Nat) (w : World) (P : List (Nat × Ent)) (d : Array Cu) : Prop where
  mem : HeapW w hp base g cap d
  heap : Heap d
  flow : Flow A N P (d.toList.map fl)
  blks : d.toList.Pairwise fun a b => a.blk ≠ b.blk
  inG : S g
  inH : S hp
  inC : ∀ c ∈ d, S c.blk
  few : d.size ≤ 1048576

theorem meth_adv (a : Addr) (w : World) : (method 310 166 (.pointer (some a)) "loop.example/s01854/impl.advance").run Tryz.prog w = .ok (149, .pointer (some a)) w := by kernel_rfl

theorem HeapW.onTop {w : World} {hp base g cap : Nat} {c : Cu} {t : List Cu} (h : HeapW w hp base g cap ⟨c :: t⟩) (hb : (c :: t).Pairwise fun a b => a.blk ≠ b.blk) (hn : c.pos + 1 < c.r.es.length) :
    HeapW (w.setCell ⟨c.blk, 1, none⟩ (.int .i64 (c.pos + 1 : Nat))) hp base g cap ⟨c.on :: t⟩ := by
  have hc : c ∈ (⟨c :: t⟩ : Array Cu) := by simp
  have hg : Chg (fun k => k = c.blk) w (w.setCell ⟨c.blk, 1, none⟩ (.int .i64 (c.pos + 1 : Nat))) := Chg.of_set _ _ _ _ rfl
  have hhi := h.high c hc
  have hlo := h.low c hc
  have hm : ∀ x ∈ (⟨c.on :: t⟩ : Array Cu), x = c.on ∨ x ∈ t := fun x hx => by simpa using hx
  have ht : ∀ x ∈ t, x ∈ (⟨c :: t⟩ : Array Cu) := fun x hx => by simp [hx]
  exact {
    hdr := by rw [World.cell?_setCell_other _ _ _ _ (fun q => hhi.2.2 (congrArg Addr.block q))]; exact h.hdr
    free := fun j => by rw [World.frozen?_setCell]; exact h.free j
    lt := by have := hg.size; have := h.lt; omega
    ne := h.ne
    row := World.ownsRow.kept (show OwnH w base g cap ⟨c.on :: t⟩ from h.row) (grown_set w c.blk 1 _) (.inr (fun q => hhi.2.1 (Option.some.inj q).symm))
    own := h.own
    cur := fun x hx => by
      rcases hm x hx with rfl | hx
      · exact (h.cur c hc).on (by omega) hn
      · have hne := (List.pairwise_cons.1 hb).1 x hx
        exact (h.cur x (ht x hx)).chg hg (fun q => hne q.symm) (fun q => by have := h.low x (ht x hx); omega)
    low := fun x hx => by
      rcases hm x hx with rfl | hx
      · exact hlo
      · exact h.low x (ht x hx)
    high := fun x hx => by
      rcases hm x hx with rfl | hx
      · exact hhi
      · exact h.high x (ht x hx) }

set_option maxHeartbeats 2000000 in
theorem step_core (A : Nat → Ent → Prop) (N : Nat) (S : Nat → Prop) (hp base g cap : Nat) (w : World) (P : List (Nat × Ent)) (c : Cu) (t : List Cu) (h : HeapOk A N S hp base g cap w P ⟨c :: t⟩) :
    Calls Tryz.prog 95 #[.pointer (some ⟨hp, 0, none⟩)] w fun e w' => e = .returned (.tuple #[]) ∧ ∃ d', HeapOk A N S hp base g cap w' (P ++ [(c.age, c.head)]) d' ∧ Chg S w w' := by
  have H0 : Hid (HeapOk A N S hp base g cap w P ⟨c :: t⟩) := h
  have hc : c ∈ (⟨c :: t⟩ : Array Cu) := by simp
  have hfew : t.length + 1 ≤ 1048576 := h.few
  have hF : Hid ((∀ p ∈ P, Lt2 p (c.age, c.head)) ∧ Flow A N (P ++ [(c.age, c.head)]) ((c.age, c.r.es.drop (c.pos + 1)) :: t.map fl)) := flow_min h.heap (fun x hx => (h.mem.cur x (by simpa using hx)).here) h.flow
  have c0 : w.cell? ⟨hp, 0, none⟩ = some (.slice (some ⟨g, 0, none⟩) (t.length + 1) cap) := h.mem.hdr
  have c1 : w.cell? ⟨g, 0, none⟩ = some (ifc c) := h.mem.row.cell (i := 0) (by simp)
  have mA := meth_adv
  have HC : Hid (CuAt w c) := h.mem.cur c hc
  have hz : (0 : Int) < ((t.length + 1 : Nat) : Int) := by omega
  clear h
  by_cases hn : c.pos + 1 < c.r.es.length
  · go_enter Tryz.func95, Tryz.ntmps95
    go_wp2_with fail
    refine (advance_more c _ HC.out hn).mono ?_
    rintro e w1 ⟨rfl, w0, hb0, rfl⟩
    have H1 : Hid (HeapW (w0.setCell ⟨c.blk, 1, none⟩ (.int .i64 (c.pos + 1 : Nat))) hp base g cap ⟨c.on :: t⟩) := (H0.out.mem.below hb0).onTop H0.out.blks hn
    have hC1 : Chg S w (w0.setCell ⟨c.blk, 1, none⟩ (.int .i64 (c.pos + 1 : Nat))) := (Chg.of_below hb0).trans (Chg.of_set _ _ _ _ (H0.out.inC c hc))
    generalize w0.setCell ⟨c.blk, 1, none⟩ (.int .i64 (c.pos + 1 : Nat)) = W1 at *
    have HC1 : Hid (Chg S w W1) := hC1
    clear hC1 c0 c1
    go_wp2_with fail
    refine (fix_core hp base g cap ⟨c.on :: t⟩ _ H1.out hfew).mono ?_
    rintro e w2 ⟨rfl, hH2, hC2⟩
    have hx := heap_fix (c' := c.on) H0.out.heap
    have H2 : Hid (HeapOk A N S hp base g cap w2 (P ++ [(c.age, c.head)]) (siftDown gtC (t.length + 1) 0 0 ⟨c.on :: t⟩) ∧ Chg S w w2) := by
      refine ⟨⟨hH2, hx.1, ?_, ?_, H0.out.inG, H0.out.inH, ?_, ?_⟩, HC1.out.trans (hC2.mono (fun k q => by rw [q]; exact H0.out.inG))⟩
      · exact (hF.out.2 : Flow A N _ ((c.on :: t).map fl)).perm (hx.2.map fl).symm
      · exact (hx.2.pairwise_iff (fun h => Ne.symm h)).2 (List.pairwise_cons.2 ⟨fun a ha => (List.pairwise_cons.1 H0.out.blks).1 a ha, (List.pairwise_cons.1 H0.out.blks).2⟩)
      · intro x hx'
        have := hx.2.mem_iff.1 (Array.mem_toList_iff.2 hx')
        rcases List.mem_cons.1 this with rfl | q
        · exact H0.out.inC c hc
        · exact H0.out.inC x (by simp [q])
      · rw [size_sift]; exact hfew
    clear hH2 hC2 hx
    go_wp2_with fail
    (try simp only [Exit.inBlock, Exit.then])
    refine bodyPost_ret (results_none rfl _ _ _) rfl ?_
    exact ⟨rfl, _, H2.out.1, H2.out.2⟩
  · go_enter Tryz.func95, Tryz.ntmps95
    go_wp2_with fail
    refine (advance_last c _ HC.out hn).mono ?_
    rintro e w1 ⟨rfl, hb1⟩
    have H1 : Hid (HeapW w1 hp base g cap ⟨c :: t⟩ ∧ Chg S w w1) := ⟨H0.out.mem.below hb1, Chg.of_below hb1⟩
    clear hb1 c0 c1
    go_wp2_with fail
    refine (pop_core hp base g cap ⟨c :: t⟩ _ H1.out.1 (by simp) hfew).mono ?_
    rintro e w2 ⟨⟨v, rfl⟩, hH2, hC2⟩
    have hx := heap_pop H0.out.heap
    have hH2' : HeapW w2 hp base g cap (siftDown gtC t.length 0 0 (swp ⟨c :: t⟩ 0 t.length)).pop := hH2
    have H2 : Hid (HeapOk A N S hp base g cap w2 (P ++ [(c.age, c.head)]) (siftDown gtC t.length 0 0 (swp ⟨c :: t⟩ 0 t.length)).pop ∧ Chg S w w2) := by
      refine ⟨⟨hH2', hx.1, ?_, ?_, H0.out.inG, H0.out.inH, ?_, ?_⟩, H1.out.2.trans (hC2.mono (fun k q => q.elim (fun q => q ▸ H0.out.inG) (fun q => q ▸ H0.out.inH)))⟩
      · have hf := hF.out.2
        rw [List.drop_of_length_le (by omega)] at hf
        exact hf.drop.perm (hx.2.map fl).symm
      · exact (hx.2.pairwise_iff (fun h => Ne.symm h)).2 (List.pairwise_cons.1 H0.out.blks).2
      · intro x hx'
        have := hx.2.mem_iff.1 (Array.mem_toList_iff.2 hx')
        exact H0.out.inC x (by simp [this])
      · have := hx.2.length_eq
        rw [Array.length_toList] at this
        omega
    clear hH2 hH2' hC2 hx
    go_wp2_with fail
    go_end0
    exact ⟨rfl, _, H2.out.1, H2.out.2⟩
end Go.Proofs.YtlgeffinhbodeafGreat

/-
  The cursors that are opened, with and without memory.
-/
namespace Go.Proofs.YtlgeffinhbodeafGreat
open Go.ChangeShapes Go.WideShapes Go.ChangeAt Go.RowKit Go.Deep
set_option linter.unusedVariables false
set_option linter.unusedSimpArgs false
set_option maxRecDepth 100000

/-- The cursors of the first 'k' runs: those that have something in the range. -/
structure OpenTo (l : List Rm) (lo : ByteArray) (hh : Bool) (hi : ByteArray) (k : Nat) (cs : List Cu) : Prop where
  mem : ∀ (a : Nat) (x : Ent), (a < k ∧ (∃ r, l[a]? = some r ∧ x ∈ r.es) ∧ inR lo hh hi x.row = true) ↔ ∃ c ∈ cs, c.age = a ∧ x ∈ c.r.es
  age : ∀ c ∈ cs, c.age < k
  zero : ∀ c ∈ cs, c.pos = 0 ∧ Ord c.r.es
  ages : cs.Pairwise fun a b => a.age ≠ b.age
  blks : cs.Pairwise fun a b => a.blk ≠ b.blk
  sum : sumL (cs.map fl) ≤ 10000 * k
  few : cs.length ≤ k
  src : ∀ c ∈ cs, ∃ r ∈ l, c.r.b = r.b
theorem OpenTo.perm {l : List Rm} {lo hi : ByteArray} {hh : Bool} {k : Nat} {cs ds : List Cu} (h : OpenTo l lo hh hi k cs) (hp : cs.Perm ds) : OpenTo l lo hh hi k ds where
  mem := fun a x => (h.mem a x).trans ⟨fun ⟨c, hc, q⟩ => ⟨c, hp.mem_iff.1 hc, q⟩, fun ⟨c, hc, q⟩ => ⟨c, hp.mem_iff.2 hc, q⟩⟩
  age := fun c hc => h.age c (hp.mem_iff.2 hc)
  zero := fun c hc => h.zero c (hp.mem_iff.2 hc)
  ages := (hp.pairwise_iff (fun h => Ne.symm h)).1 h.ages
  blks := (hp.pairwise_iff (fun h => Ne.symm h)).1 h.blks
  sum := by
    have : sumL (ds.map fl) = sumL (cs.map fl) := (((hp.map fl).map (fun p : Nat × List Ent => p.2.length)).sum_nat).symm
    rw [this]; exact h.sum
  few := by rw [← hp.length_eq]; exact h.few
  src := fun c hc => h.src c (hp.mem_iff.2 hc)
theorem openTo_zero (l : List Rm) (lo hi : ByteArray) (hh : Bool) : OpenTo l lo hh hi 0 [] where
  mem := fun a x => ⟨fun h => by omega, fun ⟨c, hc, _⟩ => by simp at hc⟩
  age := fun c hc => by simp at hc
  zero := fun c hc => by simp at hc
  ages := List.Pairwise.nil
  blks := List.Pairwise.nil
  sum := by simp [sumL]
  few := by simp
  src := fun c hc => by simp at hc
theorem openTo_mem {l : List Rm} {lo hi : ByteArray} {hh : Bool} {k : Nat} {cs : List Cu} {r p : Rm} (h : OpenTo l lo hh hi k cs) (hr : l[k]? = some r) (hp : PartOf r p lo hh hi) (a : Nat) (x : Ent) :
    (a < k + 1 ∧ (∃ r, l[a]? = some r ∧ x ∈ r.es) ∧ inR lo hh hi x.row = true) ↔ (∃ c ∈ cs, c.age = a ∧ x ∈ c.r.es) ∨ (a = k ∧ x ∈ p.es) := by
  rw [← h.mem a x]
  constructor
  · rintro ⟨h1, ⟨r', h2, h3⟩, h4⟩
    by_cases hk : a = k
    · subst hk
      rw [hr] at h2
      simp at h2
      subst h2
      exact .inr ⟨rfl, (hp.mem x).2 ⟨h3, h4⟩⟩
    · exact .inl ⟨by omega, ⟨r', h2, h3⟩, h4⟩
  · rintro (⟨h1, h2, h3⟩ | ⟨rfl, h2⟩)
    · exact ⟨by omega, h2, h3⟩
    · obtain ⟨h3, h4⟩ := (hp.mem x).1 h2
      exact ⟨by omega, ⟨r, hr, h3⟩, h4⟩
theorem openTo_skip {l : List Rm} {lo hi : ByteArray} {hh : Bool} {k : Nat} {cs : List Cu} {r p : Rm} (h : OpenTo l lo hh hi k cs) (hr : l[k]? = some r) (hp : PartOf r p lo hh hi) (h0 : p.es = []) : OpenTo l lo hh hi (k + 1) cs where
  mem := fun a x => (openTo_mem h hr hp a x).trans (by rw [h0]; simp)
  age := fun c hc => by have := h.age c hc; omega
  zero := h.zero
  ages := h.ages
  blks := h.blks
  sum := by have := h.sum; omega
  few := by have := h.few; omega
  src := h.src
theorem openTo_push {l : List Rm} {lo hi : ByteArray} {hh : Bool} {k B : Nat} {cs : List Cu} {r p : Rm} (h : OpenTo l lo hh hi k cs) (hr : l[k]? = some r) (hg : GoodR r.es) (hp : PartOf r p lo hh hi) (hB : ∀ c ∈ cs, c.blk ≠ B) :
    OpenTo l lo hh hi (k + 1) (cs ++ [⟨B, p, 0, k⟩]) where
  mem := fun a x => (openTo_mem h hr hp a x).trans (by
    constructor
    · rintro (⟨c, hc, q⟩ | ⟨rfl, q⟩)
      · exact ⟨c, List.mem_append_left _ hc, q⟩
      · exact ⟨⟨B, p, 0, a⟩, by simp, rfl, q⟩
    · rintro ⟨c, hc, q1, q2⟩
      rcases List.mem_append.1 hc with hc | hc
      · exact .inl ⟨c, hc, q1, q2⟩
      · simp at hc
        subst hc
        exact .inr ⟨q1.symm, q2⟩)
  age := fun c hc => by
    rcases List.mem_append.1 hc with hc | hc
    · have := h.age c hc; omega
    · simp at hc
      subst hc
      show k < k + 1
      omega
  zero := fun c hc => by
    rcases List.mem_append.1 hc with hc | hc
    · exact h.zero c hc
    · simp at hc
      subst hc
      exact ⟨rfl, hp.ord⟩
  ages := List.pairwise_append.2 ⟨h.ages, by simp, fun a ha b hb => by
    simp at hb
    subst hb
    have := h.age a ha
    show a.age ≠ k
    omega⟩
  blks := List.pairwise_append.2 ⟨h.blks, by simp, fun a ha b hb => by
    simp at hb
    subst hb
    exact hB a ha⟩
  sum := by
    have h1 := h.sum
    have h2 := hp.len
    have h3 := hg.1.1
    simp [sumL, fl, Cu.rest] at h1 ⊢
    omega
  few := by have := h.few; simp; omega
  src := fun c hc => by
    rcases List.mem_append.1 hc with hc | hc
    · exact h.src c hc
    · simp at hc
      subst hc
      exact ⟨r, List.mem_of_getElem? hr, hp.blk⟩
/-- What the heap's flow begins with. -/
theorem flow_open {l : List Rm} {lo hi : ByteArray} {hh : Bool} {cs : List Cu} (h : OpenTo l lo hh hi l.length cs) : Flow (fun a x => (∃ j, At (esM l) a j x) ∧ inR lo hh hi x.row = true) (sumL (cs.map fl)) [] (cs.map fl) where
  sorted := List.Pairwise.nil
  ahead := fun p hp => by simp at hp
  all := fun a x => by
    have hm := h.mem a x
    constructor
    · rintro ⟨⟨j, es, h1, h2⟩, h3⟩
      rw [List.getElem?_map] at h1
      cases hl : l[a]? with
      | none => rw [hl] at h1; cases h1
      | some r =>
        rw [hl] at h1
        simp at h1
        subst h1
        obtain ⟨c, hc, q1, q2⟩ := hm.1 ⟨(List.getElem?_eq_some_iff.1 hl).1, ⟨r, hl, List.mem_of_getElem? h2⟩, h3⟩
        refine .inr ⟨fl c, List.mem_map.2 ⟨c, hc, rfl⟩, q1, ?_⟩
        show x ∈ c.r.es.drop c.pos
        rw [(h.zero c hc).1]; exact q2
    · rintro (h1 | ⟨c', hc', q1, q2⟩)
      · simp at h1
      · obtain ⟨c, hc, rfl⟩ := List.mem_map.1 hc'
        have q3 : x ∈ c.r.es.drop c.pos := q2
        rw [(h.zero c hc).1] at q3
        obtain ⟨_, ⟨r, hr, hx⟩, h3⟩ := hm.2 ⟨c, hc, q1, q3⟩
        obtain ⟨j, hj⟩ := List.getElem?_of_mem hx
        exact ⟨⟨j, r.es, by rw [List.getElem?_map, hr]; rfl, hj⟩, h3⟩
  ages := by
    rw [List.pairwise_map]
    exact h.ages
  ord := fun c' hc' => by
    obtain ⟨c, hc, rfl⟩ := List.mem_map.1 hc'
    show Ord (c.r.es.drop c.pos)
    rw [(h.zero c hc).1]; exact (h.zero c hc).2
  count := by simp

/-- The row of cursors, in memory. -/
structure RowOk (w : World) (base g cap : Nat) (d : Array Cu) : Prop where
  row : OwnH w base g cap d
  cur : ∀ c ∈ d, CuAt w c
  low : ∀ c ∈ d, c.r.b < base
  high : ∀ c ∈ d, base ≤ c.blk ∧ ¬ c.blk = g
theorem RowOk.below {w w' : World} {base g cap : Nat} {d : Array Cu} (h : RowOk w base g cap d) (hb : Below w.heap.size w w') : RowOk w' base g cap d :=
  ⟨h.row.below hb h.row.lt.2, fun c hc => (h.cur c hc).below hb, h.low, h.high⟩
theorem HeapW.rowOk {w : World} {hp base g cap : Nat} {d : Array Cu} (h : HeapW w hp base g cap d) : RowOk w base g cap d := ⟨h.row, h.cur, h.low, fun c hc => ⟨(h.high c hc).1, (h.high c hc).2.1⟩⟩

/-- How the opening stands. -/
structure OInv (W : World) (hv : Nat) (l : List Rm) (lo : ByteArray) (hh : Bool) (hi : ByteArray) (k g cp : Nat) (d : Array Cu) (w : World) : Prop where
  below : Below W.heap.size W w
  hdr : w.cell? ⟨hv, 0, none⟩ = some (.slice (some ⟨g, 0, none⟩) d.size cp)
  free : ∀ j, w.frozen? ⟨hv, j, none⟩ = false
  lt : hv < w.heap.size
  own : W.heap.size < hv
  new : W.heap.size < g
  ne : ¬ hv = g
  apart : ∀ c ∈ d, W.heap.size < c.blk ∧ ¬ c.blk = hv
  row : RowOk w W.heap.size g cp d
  opened : OpenTo l lo hh hi k d.toList
  rg0 : w.cell? ⟨W.heap.size, 0, none⟩ = some (.string lo)
  rg1 : w.cell? ⟨W.heap.size, 1, none⟩ = some (.bool hh)
  rg2 : w.cell? ⟨W.heap.size, 2, none⟩ = some (.string hi)
theorem OInv.step {W : World} {hv : Nat} {l : List Rm} {lo hi : ByteArray} {hh : Bool} {k g cp : Nat} {d : Array Cu} {w w' : World} (h : OInv W hv l lo hh hi k g cp d w) (hb : Below w.heap.size w w') : OInv W hv l lo hh hi k g cp d w' where
  below := h.below.trans (hb.mono h.below.size)
  hdr := by rw [hb.cell (p := ⟨hv, 0, none⟩) h.lt]; exact h.hdr
  free := fun j => by rw [hb.frozen (p := ⟨hv, j, none⟩) h.lt]; exact h.free j
  lt := by have := hb.size; have := h.lt; omega
  own := h.own
  new := h.new
  ne := h.ne
  apart := h.apart
  row := h.row.below hb
  opened := h.opened
  rg0 := by rw [hb.cell (p := ⟨W.heap.size, 0, none⟩) (by have := h.own; have := h.lt; show W.heap.size < w.heap.size; omega)]; exact h.rg0
  rg1 := by rw [hb.cell (p := ⟨W.heap.size, 1, none⟩) (by have := h.own; have := h.lt; show W.heap.size < w.heap.size; omega)]; exact h.rg1
  rg2 := by rw [hb.cell (p := ⟨W.heap.size, 2, none⟩) (by have := h.own; have := h.lt; show W.heap.size < w.heap.size; omega)]; exact h.rg2

theorem cu_new (w : World) (p : Rm) (k : Nat) (hp : p.at w) (h0 : 0 < p.es.length) (hs : p.es.length ≤ 1048576) (hk : k ≤ 1048576) :
    CuAt (w.alloc (Obj.cells #[.slice (some ⟨p.b, p.off, none⟩) p.es.length p.cap, .int .i64 0, .int .i64 k] 168)) ⟨w.heap.size, p, 0, k⟩ where
  slice := by simp
  pos := by simp
  age := by simp
  free := fun j => World.ownsRow.frozenAt (World.ownsRow_lit (base := 0) (e := 168) (size := 3) w #[.slice (some ⟨p.b, p.off, none⟩) p.es.length p.cap, .int .i64 0, .int .i64 k] 1 (Nat.zero_le _) (by decide) rfl) j
  lt := by simp
  ents := hp.below ((Below.refl _ _).alloc (Nat.le_refl _) _)
  here := h0
  short := hs
  young := hk

theorem OInv.push {W : World} {hv : Nat} {l : List Rm} {lo hi : ByteArray} {hh : Bool} {k g cp : Nat} {d : Array Cu} {w w3 w4 : World} (h : OInv W hv l lo hh hi k g cp d w) {r p : Rm} (hr : l[k]? = some r) (hg : GoodR r.es) (hrb : r.b < W.heap.size) (hp : PartOf r p lo hh hi) (hat : p.at w) (h0 : 0 < p.es.length) (hk : k ≤ 1048576)
    (hb3 : Below (w.heap.size + 1) (w.alloc (Obj.cells #[.slice (some ⟨p.b, p.off, none⟩) p.es.length p.cap, .int .i64 0, .int .i64 k] 168)) w3) {g' cp' : Nat} (hO : OwnH w4 W.heap.size g' cp' (d.push ⟨w.heap.size, p, 0, k⟩)) (hgr : w3.grownBy w4 (some g)) (hgg : g = g' ∨ g' = w3.heap.size) :
    OInv W hv l lo hh hi (k + 1) g' cp' (d.push ⟨w.heap.size, p, 0, k⟩) (w4.setCell ⟨hv, 0, none⟩ (.slice (some ⟨g', 0, none⟩) (d.size + 1) cp')) := by
  have hbA : Below w.heap.size w (w.alloc (Obj.cells #[.slice (some ⟨p.b, p.off, none⟩) p.es.length p.cap, .int .i64 0, .int .i64 k] 168)) := (Below.refl _ _).alloc (Nat.le_refl _) _
  have hzA : (w.alloc (Obj.cells #[.slice (some ⟨p.b, p.off, none⟩) p.es.length p.cap, .int .i64 0, .int .i64 k] 168)).heap.size = w.heap.size + 1 := by simp
  have hnew := cu_new w p k hat h0 (by have := hp.len; have := hg.1.1; omega) hk
  generalize w.alloc (Obj.cells #[.slice (some ⟨p.b, p.off, none⟩) p.es.length p.cap, .int .i64 0, .int .i64 k] 168) = wA at *
  rw [← hzA] at hb3
  have hs3 := hb3.size
  have hs4 := hgr.size
  have hlt := h.lt
  have hown := h.own
  have hgl := h.row.row.lt
  have hne' : ¬ hv = g' := by
    rcases hgg with q | q
    · rw [← q]; exact h.ne
    · omega
  have h3 : OInv W hv l lo hh hi k g cp d w3 := (h.step hbA).step hb3
  have hC4 : Chg (fun k => k = g) w3 w4 := Chg.of_grown hgr (fun k hk => by cases hk; rfl)
  have hC5 : Chg (fun k => k = hv) w4 (w4.setCell ⟨hv, 0, none⟩ (.slice (some ⟨g', 0, none⟩) (d.size + 1) cp')) := Chg.of_set _ _ _ _ rfl
  have hs5 := hC5.size
  have c4 : w4.cell? ⟨hv, 0, none⟩ = some (.slice (some ⟨g, 0, none⟩) d.size cp) := by rw [hC4.cell (p := ⟨hv, 0, none⟩) h3.lt h.ne]; exact h3.hdr
  have hmem : ∀ c ∈ d.push ⟨w.heap.size, p, 0, k⟩, c ∈ d ∨ c = ⟨w.heap.size, p, 0, k⟩ := fun c hc => by simpa using hc
  have hcu : ∀ c ∈ d.push ⟨w.heap.size, p, 0, k⟩, CuAt w3 c ∧ ¬ c.blk = g ∧ ¬ c.blk = hv ∧ c.r.b < W.heap.size ∧ W.heap.size < c.blk ∧ c.blk < w3.heap.size := fun c hc => by
    rcases hmem c hc with hc | rfl
    · have q := h3.row.cur c hc
      exact ⟨q, (h.row.high c hc).2, (h.apart c hc).2, h.row.low c hc, (h.apart c hc).1, q.lt⟩
    · have q := hnew.below hb3
      refine ⟨q, ?_, ?_, ?_, ?_, q.lt⟩
      · show ¬ w.heap.size = g; omega
      · show ¬ w.heap.size = hv; omega
      · show p.b < W.heap.size
        rw [hp.blk]; exact hrb
      · show W.heap.size < w.heap.size; omega
  have hbig := h3.below.size
  exact {
    below := (Chg.below (Chg.below h3.below hC4 h3.below.size (fun k q => by omega)) hC5 (by omega) (fun k q => by omega))
    hdr := by rw [World.cell?_setCell_same _ _ _ c4]; simp
    free := fun j => by
      rw [World.frozen?_setCell, hC4.frozen (p := ⟨hv, j, none⟩) h3.lt h.ne]; exact h3.free j
    lt := by omega
    own := h.own
    new := by
      rcases hgg with q | q
      · rw [← q]; exact h.new
      · omega
    ne := hne'
    apart := fun c hc => ⟨(hcu c hc).2.2.2.2.1, (hcu c hc).2.2.1⟩
    row := {
      row := World.ownsRow.kept hO (grown_set w4 hv 0 _) (.inr (fun q => hne' (Option.some.inj q).symm))
      cur := fun c hc => by
        obtain ⟨q1, q2, q3, q4, q5, q6⟩ := hcu c hc
        exact (q1.chg hC4 q2 (by omega)).chg hC5 q3 (by omega)
      low := fun c hc => (hcu c hc).2.2.2.1
      high := fun c hc => by
        obtain ⟨q1, q2, q3, q4, q5, q6⟩ := hcu c hc
        refine ⟨by omega, ?_⟩
        rcases hgg with q | q
        · rw [← q]; exact q2
        · omega }
    opened := by
      have := openTo_push (B := w.heap.size) h.opened hr hg hp (fun c hc => by
        have := (h.row.cur c (by simpa using hc)).lt
        omega)
      simpa using this
    rg0 := by
      have hx : W.heap.size < w3.heap.size := by omega
      rw [hC5.cell (p := ⟨W.heap.size, 0, none⟩) (by show W.heap.size < w4.heap.size; omega) (by show ¬ W.heap.size = hv; omega), hC4.cell (p := ⟨W.heap.size, 0, none⟩) hx (by have := h.new; show ¬ W.heap.size = g; omega)]
      exact h3.rg0
    rg1 := by
      have hx : W.heap.size < w3.heap.size := by omega
      rw [hC5.cell (p := ⟨W.heap.size, 1, none⟩) (by show W.heap.size < w4.heap.size; omega) (by show ¬ W.heap.size = hv; omega), hC4.cell (p := ⟨W.heap.size, 1, none⟩) hx (by have := h.new; show ¬ W.heap.size = g; omega)]
      exact h3.rg1
    rg2 := by
      have hx : W.heap.size < w3.heap.size := by omega
      rw [hC5.cell (p := ⟨W.heap.size, 2, none⟩) (by show W.heap.size < w4.heap.size; omega) (by show ¬ W.heap.size = hv; omega), hC4.cell (p := ⟨W.heap.size, 2, none⟩) hx (by have := h.new; show ¬ W.heap.size = g; omega)]
      exact h3.rg2 }
end Go.Proofs.YtlgeffinhbodeafGreat

/-
  impl.openCursors.
-/
namespace Go.Proofs.YtlgeffinhbodeafGreat
open Go.ChangeShapes Go.WideShapes Go.ChangeAt Go.RowKit Go.Deep
set_option linter.unusedVariables false
set_option linter.unusedSimpArgs false
set_option maxRecDepth 100000

theorem Tryz.infoCur : (Tryz.prog.info? 143).map (fun i => (i.zero, i.size, i.bytes)) = some (some .nilIface, 1, 16) := by kernel_rfl

/-- One cursor appended to the row. -/
theorem wpList_append_cu {ops : Array Oper} {rest : List Oper} {o : Oper} {a : Act} {Q : Exit → Act → World → Prop} (w : World) (hgd : o.guard = none) (s x : Operand)
    (ho : o.op = .call { callee := .builtin .append, args := #[s, x], argTypes := #[138, 138] })
    (base g cp blk : Nat) (d : Array Cu) (c : Cu) (hs : a.eval s = .slice (some ⟨g, 0, none⟩) d.size cp) (hx : a.eval x = .slice (some ⟨blk, 0, none⟩) 1 1) (hO : OwnH w base g cp d)
    (hc : w.cell? ⟨blk, 0, none⟩ = some (ifc c)) (hlen : d.size ≤ 2 ^ 30) (hbase : base ≤ w.heap.size)
    (h : ∀ g' cp' w', OwnH w' base g' cp' (d.push c) → w.grownBy w' (some g) → (g = g' ∨ g' = w.heap.size) → wpList Tryz.prog ops Q rest (a.put o.dst (.slice (some ⟨g', 0, none⟩) (d.size + 1) cp')) w') : wpList Tryz.prog ops Q (o :: rest) a w := by
  obtain ⟨i, hi, hz0, hz1, hz2⟩ := info_parts Tryz.infoCur
  refine wpList_append_lies w hgd s x 138 ho base 143 i _ 1 16 Tryz.underlying138 hi hz0 hz1 hz2 rfl (by decide) (.slice (some ⟨g, 0, none⟩) d.size cp) d.size (d.toList.map ifc) hs hO ⟨blk, 0, none⟩ 1 1 [ifc c] hx rfl ?_ ?_ (by decide) ?_ ?_ hbase w.heap.size rfl ?_
  · intro j u hu
    have hj : j < 1 := by simpa using (List.getElem?_eq_some_iff.1 hu).1
    obtain rfl : j = 0 := by omega
    simp at hu
    rw [← hu]
    simpa [Addr.add] using hc
  · intro u hu
    simp at hu
    subst hu
    rfl
  · unfold maxLen; omega
  · omega
  · intro g' cp' w' hO' hgr hat hlt
    refine h g' cp' w' ?_ hgr ?_
    · unfold OwnH
      have e : (d.push c).toList.map ifc = d.toList.map ifc ++ [ifc c] := by simp
      rw [Array.size_push, e]
      exact hO'
    · rcases hat with q | q
      · exact .inl (by simpa [Value.ownBlock] using q)
      · exact .inr q

set_option maxHeartbeats 4000000 in
theorem openCursors_core (b off cap : Nat) (l : List Rm) (lo hi : ByteArray) (hh : Bool) (w : World) (hR : RmsAt w b off l) (hG : GoodRs (esM l)) (hB : b < w.heap.size) :
    Calls Tryz.prog 92 #[.slice (some ⟨b, off, none⟩) l.length cap, .agg #[.string lo, .bool hh, .string hi]] w fun e w' =>
      ∃ (g cp : Nat) (d : Array Cu), e = .returned (.slice (some ⟨g, 0, none⟩) d.size cp) ∧ RowOk w' w.heap.size g cp d ∧ Heap d ∧ OpenTo l lo hh hi l.length d.toList ∧ Below w.heap.size w w' := by
  have HR : Hid (RmsAt w b off l) := hR
  have HG : Hid (GoodRs (esM l)) := hG
  have hl50 : l.length ≤ 50 := by simpa using hG.1
  clear hR hG
  obtain ⟨i, hi0, hz0, hz1, hz2⟩ := info_parts Tryz.infoCur
  have HI : Hid (Tryz.prog.info? 143 = some i ∧ i.zero = some .nilIface ∧ i.size = 1 ∧ i.bytes = 16) := ⟨hi0, hz0, hz1, hz2⟩
  clear hi0 hz0 hz1 hz2
  obtain ⟨W1, hW1⟩ : ∃ W1 : World, W1 = w.alloc (Obj.cells #[.string lo, .bool hh, .string hi] 52) := ⟨_, rfl⟩
  have hb1 : Below w.heap.size w W1 := by rw [hW1]; exact (Below.refl _ _).alloc (Nat.le_refl _) _
  have hz1 : W1.heap.size = w.heap.size + 1 := by rw [hW1]; simp
  have HG1 : Hid (W1.cell? ⟨w.heap.size, 0, none⟩ = some (.string lo) ∧ W1.cell? ⟨w.heap.size, 1, none⟩ = some (.bool hh) ∧ W1.cell? ⟨w.heap.size, 2, none⟩ = some (.string hi)) := by
    refine ⟨?_, ?_, ?_⟩ <;> (rw [hW1]; simp)
  go_enter Tryz.func92, Tryz.ntmps92
  go_wp2_with (at_make; refine wpList_make_own _ rfl _ _ 138 rfl w.heap.size 143 i _ 1 Tryz.underlying138 HI.out.1 HI.out.2.1 HI.out.2.2.1 _ _ _ l.length rfl rfl ?_ ?hb ?hm ?hs ?_)
  case hb => rw [HI.out.2.2.2]; omega
  case hm => unfold maxLen; omega
  case hs => simp
  · rfl
  rw [← hW1]
  clear hW1
  intro w2 hown hgr
  have hb2 : Below W1.heap.size W1 w2 := (Below.refl _ _).grown hgr (Nat.le_refl _) (fun k hk => by cases hk)
  have hs2 : w.heap.size + 1 < w2.heap.size := (World.ownsRow.lt hown _ rfl).2
  obtain ⟨W3, hW3⟩ : ∃ W3 : World, W3 = w2.alloc (Obj.cells #[.slice (some ⟨w.heap.size + 1, 0, none⟩) 0 l.length] 138) := ⟨_, rfl⟩
  have hb3 : Below w2.heap.size w2 W3 := by rw [hW3]; exact (Below.refl _ _).alloc (Nat.le_refl _) _
  have hz3 : W3.heap.size = w2.heap.size + 1 := by rw [hW3]; simp
  have HO : Hid (OInv w w2.heap.size l lo hh hi 0 (w.heap.size + 1) l.length #[] W3) := by
    have k13 : Below W1.heap.size W1 W3 := hb2.trans (hb3.mono hb2.size)
    exact {
      below := hb1.trans (k13.mono (by omega))
      hdr := by rw [hW3]; simp
      free := fun j => by
        rw [hW3]
        exact World.ownsRow.frozenAt (World.ownsRow_lit (base := 0) (e := 138) (size := 1) w2 #[.slice (some ⟨w.heap.size + 1, 0, none⟩) 0 l.length] 1 (Nat.zero_le _) (by decide) rfl) j
      lt := by omega
      own := by omega
      new := by omega
      ne := by omega
      apart := fun c hc => by simp at hc
      row := ⟨OwnH.below (d := #[]) hown hb3 (by omega), fun c hc => by simp at hc, fun c hc => by simp at hc, fun c hc => by simp at hc⟩
      opened := openTo_zero l lo hi hh
      rg0 := by rw [k13.cell (p := ⟨w.heap.size, 0, none⟩) (by show w.heap.size < W1.heap.size; omega)]; exact HG1.out.1
      rg1 := by rw [k13.cell (p := ⟨w.heap.size, 1, none⟩) (by show w.heap.size < W1.heap.size; omega)]; exact HG1.out.2.1
      rg2 := by rw [k13.cell (p := ⟨w.heap.size, 2, none⟩) (by show w.heap.size < W1.heap.size; omega)]; exact HG1.out.2.2 }
  clear hown hgr
  go_wp2_with fail
  rw [← hW3]
  clear hW3 HG1 hb1 hb2 hb3
  generalize hhv : w2.heap.size = hv at *
  clear hhv
  go_loopw [14] (fun c wr => ∃ (k g cp : Nat) (d : Array Cu), k ≤ l.length ∧ c = .int .i64 k ∧ OInv w hv l lo hh hi k g cp d wr) (fun c _ => l.length - (intOf c).toNat)
  case atStart => exact ⟨0, _, _, #[], Nat.zero_le _, rfl, HO.out⟩
  case round =>
    obtain ⟨k, g, cp, d, hk, rfl, hI⟩ := hrel
    have HV : Hid (OInv w hv l lo hh hi k g cp d wr) := hI
    have hbw := hI.below
    have hsw := hbw.size
    clear hI HO
    by_cases hlt : k < l.length
    · obtain ⟨r, hr⟩ : ∃ r, l[k]? = some r := ⟨_, List.getElem?_eq_getElem hlt⟩
      obtain ⟨c0, ha⟩ := (HR.out.below hbw hB) k r hr
      have HA : Hid (r.at wr ∧ l[k]? = some r ∧ GoodR r.es ∧ r.b < w.heap.size) := ⟨ha, hr, goodRs_mem HG.out (List.mem_of_getElem? hr), (HR.out k r hr).2.lt⟩
      clear ha hr
      obtain ⟨Wa, hWa⟩ : ∃ Wa : World, Wa = wr.alloc (Obj.cells #[.slice (some ⟨r.b, r.off, none⟩) r.es.length r.cap] 58) := ⟨_, rfl⟩
      have hba : Below wr.heap.size wr Wa := by rw [hWa]; exact (Below.refl _ _).alloc (Nat.le_refl _) _
      have hca : Wa.cell? ⟨wr.heap.size, 0, none⟩ = some (.slice (some ⟨r.b, r.off, none⟩) r.es.length r.cap) := by rw [hWa]; simp
      have HVa : Hid (OInv w hv l lo hh hi k g cp d Wa) := HV.out.step hba
      have HAa : Hid (r.at Wa) := HA.out.1.below hba
      go_upto_region 5 with fail
      rw [← hWa]
      clear hWa c0
      have q0 := HVa.out.rg0
      have q1 := HVa.out.rg1
      have q2 := HVa.out.rg2
      go_wp2_with fail
      refine (entriesIn_core r lo hi hh _ HAa.out HA.out.2.2.1).mono ?_
      rintro e wb ⟨p, rfl, hpa, hpp, hbb⟩
      have HP : Hid (p.at wb ∧ PartOf r p lo hh hi) := ⟨hpa, hpp⟩
      have HVb : Hid (OInv w hv l lo hh hi k g cp d wb) := HVa.out.step hbb
      clear hpa hpp q0 q1 q2 hca
      by_cases hp0 : p.es.length = 0
      · have HN : Hid (OInv w hv l lo hh hi (k + 1) g cp d wb) := { HVb.out with opened := openTo_skip HVb.out.opened HA.out.2.1 HP.out.2 (List.eq_nil_of_length_eq_zero hp0) }
        go_wp2_with fail
        go_roundw
        case rel => exact ⟨k + 1, g, cp, d, by omega, by go_num, HN.out⟩
        case measure => go_light; simp [intOf]; omega
      · have zp : (0 : Int) < (p.es.length : Int) := by omega
        have q0 := HVb.out.hdr
        have hdk : d.size ≤ k := by simpa using HVb.out.opened.few
        have hgl := HVb.out.row.row.lt.2
        have hvl := HVb.out.lt
        have f0 := HVb.out.free 0
        have hnv := HVb.out.ne
        have hws := HVb.out.below.size
        clear hba hbb hbw hsw
        go_wp2_with (at_builtin; refine wpList_append_cu _ rfl _ _ rfl w.heap.size g cp (wb.heap.size + 1) d ⟨wb.heap.size, p, 0, k⟩ rfl rfl ?hO ?hc ?hl ?hb ?_)
        case hO => exact (HVb.out.row.row.below ((Below.refl _ _).alloc (Nat.le_refl _) _) hgl).below ((Below.refl _ _).alloc (Nat.le_refl _) _) (by simp; omega)
        case hc => simp
        case hl => omega
        case hb => simp; omega
        intro g' cp' w4 hO hgr hgg
        have hb3 : Below (wb.heap.size + 1) (wb.alloc (Obj.cells #[.slice (some ⟨p.b, p.off, none⟩) p.es.length p.cap, .int .i64 0, .int .i64 k] 168)) ((wb.alloc (Obj.cells #[.slice (some ⟨p.b, p.off, none⟩) p.es.length p.cap, .int .i64 0, .int .i64 k] 168)).alloc (Obj.cells #[.iface 166 (.pointer (some ⟨wb.heap.size, 0, none⟩))] 143)) := (Below.refl _ _).alloc (by simp) _
        have HN : Hid (OInv w hv l lo hh hi (k + 1) g' cp' (d.push ⟨wb.heap.size, p, 0, k⟩) (w4.setCell ⟨hv, 0, none⟩ (.slice (some ⟨g', 0, none⟩) (d.size + 1) cp'))) :=
          HVb.out.push HA.out.2.1 HA.out.2.2.1 HA.out.2.2.2 HP.out.2 HP.out.1 (by omega) (by omega) hb3 hO hgr (by simpa using hgg)
        have hx := (HVb.out.step ((Below.refl wb.heap.size wb).alloc (Nat.le_refl _) (Obj.cells #[.slice (some ⟨p.b, p.off, none⟩) p.es.length p.cap, .int .i64 0, .int .i64 k] 168))).step (w' := (wb.alloc (Obj.cells #[.slice (some ⟨p.b, p.off, none⟩) p.es.length p.cap, .int .i64 0, .int .i64 k] 168)).alloc (Obj.cells #[.iface 166 (.pointer (some ⟨wb.heap.size, 0, none⟩))] 143)) ((Below.refl _ _).alloc (Nat.le_refl _) _)
        have c4 : w4.cell? ⟨hv, 0, none⟩ = some (.slice (some ⟨g, 0, none⟩) d.size cp) := by rw [hgr.cell_far ⟨hv, 0, none⟩ hx.lt (fun q => hnv (Option.some.inj q))]; exact hx.hdr
        have f4 : w4.frozen? ⟨hv, 0, none⟩ = false := by rw [hgr.frozen_far ⟨hv, 0, none⟩ hx.lt (fun q => hnv (Option.some.inj q))]; exact hx.free 0
        clear hO hgr hgg hb3 hx q0 f0
        go_wp2_with fail
        go_roundw
        case rel => exact ⟨k + 1, g', cp', _, by omega, by go_num, HN.out⟩
        case measure => go_light; simp [intOf]; omega
    · have hkl : k = l.length := by omega
      have HW : Hid (HeapW wr hv w.heap.size g cp d) := by
        have h := HV.out
        exact ⟨h.hdr, h.free, h.lt, h.ne, h.row.row, by have := h.own; omega, h.row.cur, h.row.low, fun c hc => ⟨(h.row.high c hc).1, (h.row.high c hc).2, (h.apart c hc).2⟩⟩
      have HK : Hid (OpenTo l lo hh hi l.length d.toList) := by have := HV.out.opened; rw [hkl] at this; exact this
      have hdk : d.size ≤ k := by simpa using HV.out.opened.few
      clear hkl
      go_wp2_with fail
      refine (init_core hv w.heap.size g cp d _ HW.out (by omega)).mono ?_
      rintro e wf ⟨rfl, hHf, hCf⟩
      have hb := heap_build (d := d)
      have hgl := HW.out.row.lt.1
      have HF : Hid (RowOk wf w.heap.size g cp (Go.Sort.heapBuild gtC d.size 0 (d.size / 2) d) ∧ Heap (Go.Sort.heapBuild gtC d.size 0 (d.size / 2) d) ∧ OpenTo l lo hh hi l.length (Go.Sort.heapBuild gtC d.size 0 (d.size / 2) d).toList ∧ Below w.heap.size w wf) :=
        ⟨hHf.rowOk, hb.1, HK.out.perm hb.2.symm, Chg.below hbw hCf hsw (fun k q => by omega)⟩
      have q0 := hHf.hdr
      clear hHf hCf hb
      go_wp2_with fail
      go_ret
      exact ⟨g, cp, _, rfl, HF.out.1, HF.out.2.1, HF.out.2.2.1, HF.out.2.2.2⟩
end Go.Proofs.YtlgeffinhbodeafGreat

/-
  Visible cells in memory, one behind another: an entry without its kind.
-/
namespace Go.Proofs.YtlgeffinhbodeafGreat
open Go.ChangeShapes Go.WideShapes Go.ChangeAt Go.RowKit Go.Deep
set_option linter.unusedVariables false
set_option linter.unusedSimpArgs false

abbrev Ent.five (e : Ent) : List Value := [.string e.row, .string e.fam, .string e.qual, .int .u64 e.ts, .string e.val]
abbrev Ent.c (e : Ent) : Value := .agg #[.string e.row, .string e.fam, .string e.qual, .int .u64 e.ts, .string e.val]
def cellsC (es : List Ent) : List Value := es.flatMap Ent.five
theorem cellsC_nil : cellsC [] = [] := rfl
theorem cellsC_cons (e : Ent) (es : List Ent) : cellsC (e :: es) = e.five ++ cellsC es := by simp [cellsC]
theorem cellsC_append (es fs : List Ent) : cellsC (es ++ fs) = cellsC es ++ cellsC fs := by simp [cellsC]
theorem length_cellsC (es : List Ent) : (cellsC es).length = es.length * 5 := by
  induction es with
  | nil => rfl
  | cons e es ih => rw [cellsC_cons, List.length_append, ih]; simp; omega
theorem cellsC_get (es : List Ent) : ∀ (k : Nat) (e : Ent), es[k]? = some e → ∀ j, j < 5 → (cellsC es)[k * 5 + j]? = e.five[j]? := by
  induction es with
  | nil => intro k e h; simp at h
  | cons f es ih =>
    intro k e h j hj
    rw [cellsC_cons]
    cases k with
    | zero =>
      simp at h; subst h
      rw [List.getElem?_append_left (by show 0 * 5 + j < 5; omega)]
      simp
    | succ k =>
      simp at h
      rw [List.getElem?_append_right (by show 5 ≤ (k + 1) * 5 + j; omega)]
      have : (k + 1) * 5 + j - f.five.length = k * 5 + j := by show (k + 1) * 5 + j - 5 = _; omega
      rw [this]; exact ih k e h j hj
theorem cellsC_set (es : List Ent) : ∀ (k : Nat) (e e' : Ent) (u : Value) (j : Nat), es[k]? = some e → j < 5 → e'.five = e.five.set j u → (cellsC es).set (k * 5 + j) u = cellsC (es.set k e') := by
  induction es with
  | nil => intro k e e' u j h; simp at h
  | cons f es ih =>
    intro k e e' u j h hj hc
    rw [cellsC_cons]
    cases k with
    | zero =>
      simp at h; subst h
      rw [List.set_append_left _ _ (by show 0 * 5 + j < 5; omega), List.set_cons_zero, cellsC_cons, hc]
      simp
    | succ k =>
      simp at h
      rw [List.set_append_right _ _ (by show 5 ≤ (k + 1) * 5 + j; omega), List.set_cons_succ, cellsC_cons]
      have : (k + 1) * 5 + j - f.five.length = k * 5 + j := by show (k + 1) * 5 + j - 5 = _; omega
      rw [this, ih k e e' u j h hj hc]

/-- The cells 'es' lie at ⟨b, off⟩, five each. -/
def CelsAt (w : World) (b off : Nat) (es : List Ent) : Prop :=
  ∀ i e, es[i]? = some e → w.cell? ⟨b, off + i * 5, none⟩ = some (.string e.row) ∧ w.cell? ⟨b, off + i * 5 + 1, none⟩ = some (.string e.fam) ∧ w.cell? ⟨b, off + i * 5 + 2, none⟩ = some (.string e.qual) ∧
    w.cell? ⟨b, off + i * 5 + 3, none⟩ = some (.int .u64 e.ts) ∧ w.cell? ⟨b, off + i * 5 + 4, none⟩ = some (.string e.val)
theorem CelsAt.below {B : Nat} {w w' : World} {b off : Nat} {es : List Ent} (h : CelsAt w b off es) (hb : Below B w w') (hlt : b < B) : CelsAt w' b off es := by
  intro i e he
  have := h i e he
  refine ⟨?_, ?_, ?_, ?_, ?_⟩
  all_goals rw [hb.cell (by exact hlt)]
  · exact this.1
  · exact this.2.1
  · exact this.2.2.1
  · exact this.2.2.2.1
  · exact this.2.2.2.2

/-- A row of the call's own holds the cells 'es'. -/
def OwnC (w : World) (base g cap : Nat) (es : List Ent) : Prop := w.ownsRow base 112 5 (.slice (some ⟨g, 0, none⟩) es.length cap) es.length (cellsC es)
theorem OwnC.at {w : World} {base g cap : Nat} {es : List Ent} (h : OwnC w base g cap es) : CelsAt w g 0 es := by
  intro i e he
  have hi : i < es.length := (List.getElem?_eq_some_iff.1 he).1
  have c := fun j (hj : j < 5) => (World.ownsRow.cellAt h (i * 5 + j) (by omega)).trans (cellsC_get es i e he j hj)
  refine ⟨?_, ?_, ?_, ?_, ?_⟩
  · simpa using c 0 (by omega)
  · simpa using c 1 (by omega)
  · simpa using c 2 (by omega)
  · simpa using c 3 (by omega)
  · simpa using c 4 (by omega)
theorem OwnC.lt {w : World} {base g cap : Nat} {es : List Ent} (h : OwnC w base g cap es) : base ≤ g ∧ g < w.heap.size := World.ownsRow.lt h g rfl
theorem OwnC.below {B : Nat} {w w' : World} {base g cap : Nat} {es : List Ent} (h : OwnC w base g cap es) (hb : Below B w w') (hg : g < B) : OwnC w' base g cap es := by
  refine ⟨h.1, ?_⟩
  rcases h.2 with hn | ⟨g', cap', cur, hv, h1, h2, rest⟩
  · exact .inl hn
  · simp only [Value.slice.injEq, Option.some.injEq, Addr.mk.injEq, and_true, true_and] at hv
    obtain ⟨rfl, rfl⟩ := hv
    exact .inr ⟨g, cap, cur, rfl, h1, by rw [hb.block g hg]; exact h2, rest⟩
theorem OwnC.set {w : World} {base g cap : Nat} {es : List Ent} (h : OwnC w base g cap es) (k j : Nat) (e e' : Ent) (u : Value) (hk : es[k]? = some e) (hj : j < 5) (hc : e'.five = e.five.set j u) :
    OwnC (w.setCell ⟨g, k * 5 + j, none⟩ u) base g cap (es.set k e') := by
  have := (World.ownsRow.stored h (k * 5 + j) u).1
  rw [cellsC_set es k e e' u j hk hj hc] at this
  unfold OwnC
  rw [List.length_set]
  exact this
theorem OwnC.upd {w : World} {base g cap m j : Nat} {fs : List Ent} {f f' : Ent} {u : Value} (h : OwnC w base g cap (fs.set m f)) (hm : m < fs.length) (hj : j < 5) (hc : f'.five = f.five.set j u) :
    OwnC (w.setCell ⟨g, m * 5 + j, none⟩ u) base g cap (fs.set m f') := by
  have := h.set m j f f' u (by simp [hm]) hj hc
  rwa [List.set_set] at this
theorem OwnC.mono {w : World} {base base' g cap : Nat} {es : List Ent} (h : OwnC w base g cap es) (hb : base' ≤ base) : OwnC w base' g cap es := by
  refine ⟨h.1, ?_⟩
  rcases h.2 with hn | ⟨g', cap', cur, hv, h1, rest⟩
  · exact .inl hn
  · exact .inr ⟨g', cap', cur, hv, Nat.le_trans hb h1, rest⟩
theorem OwnC.kept {w w' : World} {base g cp : Nat} {fs : List Ent} {row : Option Nat} (h : OwnC w base g cp fs) (hg : w.grownBy w' row) (hne : some g ≠ row) : OwnC w' base g cp fs :=
  World.ownsRow.kept h hg (.inr hne)
theorem OwnC.caps {w : World} {base g cp : Nat} {R : List Ent} (h : OwnC w base g cp R) : R.length ≤ cp ∧ cp ≤ maxLen := by
  rcases h.2 with ⟨h0, _⟩ | ⟨g', cap', cur, hv, _, _, hn, hcap, _, _⟩
  · cases h0
  · simp only [Value.slice.injEq, Option.some.injEq, Addr.mk.injEq, and_true, true_and] at hv
    obtain ⟨rfl, rfl⟩ := hv
    exact ⟨hn, hcap⟩
theorem ownC_new (w : World) : OwnC (w.alloc (Obj.cells #[] 112)) w.heap.size w.heap.size 0 [] := World.ownsRow_made w #[] 0 (Nat.le_refl _) (Nat.zero_le _) (by simp)

theorem Tryz.infoCel : (Tryz.prog.info? 112).map (fun i => (i.zero, i.size, i.bytes)) = some (some (.agg #[.string ⟨#[]⟩, .string ⟨#[]⟩, .string ⟨#[]⟩, .int .u64 0, .string ⟨#[]⟩]), 5, 72) := by kernel_rfl

theorem cel_new (wx : World) (f : Ent) : CelsAt (wx.alloc (Obj.cells #[.string f.row, .string f.fam, .string f.qual, .int .u64 f.ts, .string f.val] 112)) wx.heap.size 0 [f] := by
  intro j y hy
  obtain rfl : j = 0 := by
    have := (List.getElem?_eq_some_iff.1 hy).1
    simpa using this
  simp at hy
  subst hy
  simp

/-- One cell appended to a row of the call's own. -/
theorem wpList_append_cel {ops : Array Oper} {rest : List Oper} {o : Oper} {a : Act} {Q : Exit → Act → World → Prop} (w : World) (hgd : o.guard = none) (s x : Operand)
    (ho : o.op = .call { callee := .builtin .append, args := #[s, x], argTypes := #[72, 72] })
    (base g cp n blk : Nat) (fs : List Ent) (e : Ent) (hs : a.eval s = .slice (some ⟨g, 0, none⟩) n cp) (hx : a.eval x = .slice (some ⟨blk, 0, none⟩) 1 1) (hn : n = fs.length) (hO : OwnC w base g cp fs)
    (hc : CelsAt w blk 0 [e]) (hlen : fs.length ≤ 2 ^ 30) (hbase : base ≤ w.heap.size)
    (h : ∀ g' cp' w', OwnC w' base g' cp' (fs ++ [e]) → w.grownBy w' (some g) → wpList Tryz.prog ops Q rest (a.put o.dst (.slice (some ⟨g', 0, none⟩) (n + 1) cp')) w') : wpList Tryz.prog ops Q (o :: rest) a w := by
  obtain ⟨i, hi, hz0, hz1, hz2⟩ := info_parts Tryz.infoCel
  subst hn
  obtain ⟨c0, c1, c2, c3, c4⟩ := hc 0 e rfl
  refine wpList_append_own w hgd s x 72 ho base 112 i _ 5 72 Tryz.underlying72 hi hz0 hz1 hz2 rfl (by decide) (.slice (some ⟨g, 0, none⟩) fs.length cp) fs.length (cellsC fs) hs hO ⟨blk, 0, none⟩ 1 1 (cellsC [e]) hx rfl ?_ ?_ ?_ ?_ hbase ?_
  · intro j u hu
    have hj : j < 5 := by
      have := (List.getElem?_eq_some_iff.1 hu).1
      rw [length_cellsC] at this
      simpa using this
    rw [Addr.add_mid, Nat.zero_add]
    simp only [Nat.zero_mul, Nat.zero_add] at c0 c1 c2 c3 c4
    match j, hj, hu with
    | 0, _, hu => simp [cellsC] at hu; rw [← hu]; exact c0
    | 1, _, hu => simp [cellsC] at hu; rw [← hu]; exact c1
    | 2, _, hu => simp [cellsC] at hu; rw [← hu]; exact c2
    | 3, _, hu => simp [cellsC] at hu; rw [← hu]; exact c3
    | 4, _, hu => simp [cellsC] at hu; rw [← hu]; exact c4
  · intro u hu
    simp [cellsC] at hu
    rcases hu with rfl | rfl | rfl | rfl | rfl <;> rfl
  · unfold maxLen; omega
  · omega
  · intro v' w' hown hgr hnil
    rw [← cellsC_append] at hown
    have hlen' : (fs ++ [e]).length = fs.length + 1 := by simp
    rcases hown.2 with ⟨hv, _⟩ | ⟨g', cap', cur, hv, h1, h2, h3⟩
    · have := (hnil.1 hv).1
      simp at this
    · subst hv
      exact h g' cap' w' (by unfold OwnC; rw [hlen']; exact hown) hgr

set_option maxHeartbeats 400000 in
theorem specCell_any (e : Ent) (w : World) :
    Calls Tryz.prog 69 #[e.v] w fun r w' => r = .returned e.c ∧ Below w.heap.size w w' := by
  unfold Ent.v
  go_enter Tryz.func69, Tryz.ntmps69
  go_wp2
  refine bodyPost_ret (v := e.c) (by simp [results, Tryz.results69, go_sem]) rfl ⟨rfl, ?_⟩
  exact ((Below.refl _ _).alloc (Nat.le_refl _) _).alloc (by simp) _
set_option maxHeartbeats 400000 in
theorem implCell_any (e : Ent) (w : World) :
    Calls Tryz.prog 118 #[e.v] w fun r w' => r = .returned e.c ∧ Below w.heap.size w w' := by
  unfold Ent.v
  go_enter Tryz.func118, Tryz.ntmps118
  go_wp2
  refine bodyPost_ret (v := e.c) (by simp [results, Tryz.results118, go_sem]) rfl ⟨rfl, ?_⟩
  exact ((Below.refl _ _).alloc (Nat.le_refl _) _).alloc (by simp) _

end Go.Proofs.YtlgeffinhbodeafGreat

