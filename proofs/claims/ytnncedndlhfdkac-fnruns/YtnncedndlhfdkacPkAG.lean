import Derived.Deep.RegionHeld3
import Derived.Deep.AppendLies
import Derived.Test.YtnncedndlhfdkacPkAF
import Derived.Test.YtnncedndlhfdkacPkAD
import Derived.Test.YtnncedndlhfdkacPkAC
/-
  A cursor in memory: its entry, its age, its move.
-/
namespace Go.Proofs.Ytnncedndlhfdkac
open Go.ChangeShapes Go.WideShapes Go.ChangeAt Go.RowKit Go.Deep
set_option linter.unusedVariables false
set_option linter.unusedSimpArgs false

structure CuAt (w : World) (c : Cu) : Prop where
  slice : w.cell? ⟨c.blk, 0, none⟩ = some (.slice (some ⟨c.r.b, c.r.off, none⟩) c.r.es.length c.r.cap)
  pos : w.cell? ⟨c.blk, 1, none⟩ = some (.int .i64 c.pos)
  age : w.cell? ⟨c.blk, 2, none⟩ = some (.int .i64 c.age)
  free : ∀ j, w.frozen? ⟨c.blk, j, none⟩ = false
  lt : c.blk < w.heap.size
  ents : c.r.at w
  here : c.pos < c.r.es.length
  short : c.r.es.length ≤ 1048576
  young : c.age ≤ 1048576
theorem CuAt.below {w w' : World} {c : Cu} (h : CuAt w c) (hb : Below w.heap.size w w') : CuAt w' c where
  slice := by rw [hb.cell (p := ⟨c.blk, 0, none⟩) h.lt]; exact h.slice
  pos := by rw [hb.cell (p := ⟨c.blk, 1, none⟩) h.lt]; exact h.pos
  age := by rw [hb.cell (p := ⟨c.blk, 2, none⟩) h.lt]; exact h.age
  free := fun j => by rw [hb.frozen (p := ⟨c.blk, j, none⟩) h.lt]; exact h.free j
  lt := by have := hb.size; have := h.lt; omega
  ents := h.ents.below hb
  here := h.here
  short := h.short
  young := h.young

set_option maxHeartbeats 1000000 in
theorem entry_core (c : Cu) (w : World) (h : CuAt w c) :
    Calls Try.prog 149 #[.pointer (some ⟨c.blk, 0, none⟩)] w fun e w' => e = .returned c.head.v ∧ Below w.heap.size w w' := by
  obtain ⟨c0, c1, c2, c3, c4, c5⟩ := h.ents.ents c.pos c.head (Cu.head_get h.here)
  have hs := h.slice
  have hp := h.pos
  have hl := h.lt
  have hr := h.ents.lt
  have hh := h.here
  have z1 : (0 : Int) ≤ (c.pos : Int) := by omega
  have z2 : (c.pos : Int) < (c.r.es.length : Int) := by omega
  have n1 := World.new_ne w _ hs
  have n2 := World.new_ne w _ hp
  have n3 := World.new_ne w _ c0
  simp only at n1 n2 n3
  clear h
  unfold Ent.v
  generalize c.head = e at *
  obtain ⟨blk, ⟨rb, ro, rc, es⟩, pos, age⟩ := c
  simp only at *
  go_enter Try.func149, Try.ntmps149
  go_upto_region 1 with fail
  go_region_held3 (fun w' => w'.cell? ⟨blk, 0, none⟩ = some (.slice (some ⟨rb, ro, none⟩) es.length rc) ∧ w'.cell? ⟨blk, 1, none⟩ = some (.int .i64 pos) ∧ w'.cell? ⟨rb, ro + pos * 6, none⟩ = some (.string e.row) ∧ w'.cell? ⟨rb, ro + pos * 6 + 1, none⟩ = some (.string e.fam) ∧ w'.cell? ⟨rb, ro + pos * 6 + 2, none⟩ = some (.string e.qual) ∧
    w'.cell? ⟨rb, ro + pos * 6 + 3, none⟩ = some (.int .u64 e.ts) ∧ w'.cell? ⟨rb, ro + pos * 6 + 4, none⟩ = some (.int .i64 e.kind) ∧ w'.cell? ⟨rb, ro + pos * 6 + 5, none⟩ = some (.string e.val)) (go_keep) (fail)
  go_wp2
  refine bodyPost_ret (v := .agg #[.string e.row, .string e.fam, .string e.qual, .int .u64 e.ts, .int .i64 e.kind, .string e.val]) (by simp [results, Try.results149, go_sem]) rfl ⟨rfl, ?_⟩
  exact ((Below.refl _ _).alloc (Nat.le_refl _) _).drew

set_option maxHeartbeats 400000 in
theorem age_core (c : Cu) (w : World) (h : CuAt w c) :
    Calls Try.prog 148 #[.pointer (some ⟨c.blk, 0, none⟩)] w fun e w' => e = .returned (.int .i64 c.age) ∧ Below w.heap.size w w' := by
  have ha := h.age
  go_enter Try.func148, Try.ntmps148
  go_wp2
  go_ret
  exact ⟨rfl, Below.refl _ _⟩

theorem CuAt.chg {S : Nat → Prop} {w w' : World} {c : Cu} (h : CuAt w c) (hb : Chg S w w') (h1 : ¬ S c.blk) (h2 : ¬ S c.r.b) : CuAt w' c where
  slice := by rw [hb.cell (p := ⟨c.blk, 0, none⟩) h.lt h1]; exact h.slice
  pos := by rw [hb.cell (p := ⟨c.blk, 1, none⟩) h.lt h1]; exact h.pos
  age := by rw [hb.cell (p := ⟨c.blk, 2, none⟩) h.lt h1]; exact h.age
  free := fun j => by rw [hb.frozen (p := ⟨c.blk, j, none⟩) h.lt h1]; exact h.free j
  lt := by have := hb.size; have := h.lt; omega
  ents := h.ents.chg hb h2
  here := h.here
  short := h.short
  young := h.young

/-- The cursor, one further. -/
def Cu.on (c : Cu) : Cu := { c with pos := c.pos + 1 }
theorem CuAt.on {w : World} {c : Cu} (h : CuAt w c) (hb : ¬ c.r.b = c.blk) (hn : c.pos + 1 < c.r.es.length) : CuAt (w.setCell ⟨c.blk, 1, none⟩ (.int .i64 (c.pos + 1 : Nat))) c.on := by
  have hg : Chg (fun k => k = c.blk) w (w.setCell ⟨c.blk, 1, none⟩ (.int .i64 (c.pos + 1 : Nat))) := Chg.of_set w c.blk 1 _ rfl
  exact {
    slice := by
      show World.cell? _ ⟨c.blk, 0, none⟩ = _
      rw [World.cell?_setCell_other _ _ _ _ (by simp)]; exact h.slice
    pos := World.cell?_setCell_same _ _ _ h.pos
    age := by
      show World.cell? _ ⟨c.blk, 2, none⟩ = _
      rw [World.cell?_setCell_other _ _ _ _ (by simp)]; exact h.age
    free := fun j => by
      show World.frozen? _ ⟨c.blk, j, none⟩ = _
      rw [World.frozen?_setCell]; exact h.free j
    lt := by have := hg.size; have := h.lt; show c.blk < _; omega
    ents := h.ents.chg hg hb
    here := hn
    short := h.short
    young := h.young }

set_option maxHeartbeats 1000000 in
theorem advance_more (c : Cu) (w : World) (h : CuAt w c) (hn : c.pos + 1 < c.r.es.length) :
    Calls Try.prog 147 #[.pointer (some ⟨c.blk, 0, none⟩)] w fun e w' =>
      e = .returned (.bool true) ∧ ∃ w1, Below w.heap.size w w1 ∧ w' = w1.setCell ⟨c.blk, 1, none⟩ (.int .i64 (c.pos + 1 : Nat)) := by
  have hs := h.slice
  have hp := h.pos
  have hh := h.here
  have hq := h.short
  have hf := h.free 1
  clear h
  obtain ⟨blk, ⟨rb, ro, rc, es⟩, pos, age⟩ := c
  simp only at *
  have z : ¬ ((es.length : Int) ≤ (pos : Int) + 1) := by omega
  go_enter Try.func147, Try.ntmps147
  go_upto_region 1 with fail
  go_quiet (fail)
  go_wp2
  go_ret
  exact ⟨rfl, _, below_drewN (Below.refl _ _) _, rfl⟩
set_option maxHeartbeats 1000000 in
theorem advance_last (c : Cu) (w : World) (h : CuAt w c) (hn : ¬ c.pos + 1 < c.r.es.length) :
    Calls Try.prog 147 #[.pointer (some ⟨c.blk, 0, none⟩)] w fun e w' => e = .returned (.bool false) ∧ Below w.heap.size w w' := by
  have hs := h.slice
  have hp := h.pos
  have hh := h.here
  have hq := h.short
  clear h
  obtain ⟨blk, ⟨rb, ro, rc, es⟩, pos, age⟩ := c
  simp only at *
  have z : (es.length : Int) ≤ (pos : Int) + 1 := by omega
  go_enter Try.func147, Try.ntmps147
  go_upto_region 1 with fail
  go_quiet (fail)
  go_wp2
  go_ret
  exact ⟨rfl, below_drewN (Below.refl _ _) _⟩
end Go.Proofs.Ytnncedndlhfdkac

/-
  The heap of cursors in memory: its order, its exchange.
-/
namespace Go.Proofs.Ytnncedndlhfdkac
open Go.ChangeShapes Go.WideShapes Go.ChangeAt Go.RowKit Go.Deep
set_option linter.unusedVariables false
set_option linter.unusedSimpArgs false
set_option maxRecDepth 100000

abbrev ifc (c : Cu) : Value := .iface 117 (.pointer (some ⟨c.blk, 0, none⟩))
def OwnH (w : World) (base g cap : Nat) (d : Array Cu) : Prop := w.ownsRow base 83 1 (.slice (some ⟨g, 0, none⟩) d.size cap) d.size (d.toList.map ifc)
theorem OwnH.lt {w : World} {base g cap : Nat} {d : Array Cu} (h : OwnH w base g cap d) : base ≤ g ∧ g < w.heap.size := World.ownsRow.lt h g rfl
theorem OwnH.cell {w : World} {base g cap : Nat} {d : Array Cu} (h : OwnH w base g cap d) {i : Nat} (hi : i < d.size) : w.cell? ⟨g, i, none⟩ = some (ifc d[i]!) := by
  have := World.ownsRow.cellAt h i (by omega)
  rw [this, List.getElem?_map]
  simp [hi]
theorem OwnH.below {B : Nat} {w w' : World} {base g cap : Nat} {d : Array Cu} (h : OwnH w base g cap d) (hb : Below B w w') (hg : g < B) : OwnH w' base g cap d := by
  refine ⟨h.1, ?_⟩
  rcases h.2 with hn | ⟨g', cap', cur, hv, h1, h2, rest⟩
  · exact .inl hn
  · simp only [Value.slice.injEq, Option.some.injEq, Addr.mk.injEq, and_true, true_and] at hv
    obtain ⟨rfl, rfl⟩ := hv
    exact .inr ⟨g, cap, cur, rfl, h1, by rw [hb.block g hg]; exact h2, rest⟩

theorem Out.entry {w : World} {c : Cu} (h : CuAt w c) (n : Out w) : Calls Try.prog 149 #[.pointer (some ⟨c.blk, 0, none⟩)] n.u fun e w'' => e = .returned c.head.v ∧ ∃ m : Out w, w'' = m.u :=
  Calls.out_of (entry_core c n.u (h.below n.out))
theorem Out.age {w : World} {c : Cu} (h : CuAt w c) (n : Out w) : Calls Try.prog 148 #[.pointer (some ⟨c.blk, 0, none⟩)] n.u fun e w'' => e = .returned (.int .i64 c.age) ∧ ∃ m : Out w, w'' = m.u :=
  Calls.out_of (age_core c n.u (h.below n.out))
theorem meth_age (a : Addr) (w : World) : (method 300 117 (.pointer (some a)) "loop.example/s01854/impl.age").run Try.prog w = .ok (148, .pointer (some a)) w := by kernel_rfl
theorem meth_entry (a : Addr) (w : World) : (method 300 117 (.pointer (some a)) "loop.example/s01854/impl.entry").run Try.prog w = .ok (149, .pointer (some a)) w := by kernel_rfl

set_option maxHeartbeats 2000000 in
theorem less_core (base g cap : Nat) (d : Array Cu) (i j : Nat) (w : World) (hO : OwnH w base g cap d) (hC : ∀ c ∈ d, CuAt w c) (hi : i < d.size) (hj : j < d.size) :
    Calls Try.prog 145 #[.slice (some ⟨g, 0, none⟩) d.size cap, .int .i64 i, .int .i64 j] w fun e w' => e = .returned (.bool (lessC d[i]! d[j]!)) ∧ Below w.heap.size w w' := by
  have hg := hO.lt.2
  have HO : Hid (OwnH w base g cap d) := hO
  have HI : Hid (CuAt w d[i]!) := hC _ (by rw [getElem!_pos d i hi]; simp)
  have HJ : Hid (CuAt w d[j]!) := hC _ (by rw [getElem!_pos d j hj]; simp)
  have c1 : ∀ n : Out w, n.u.cell? ⟨g, i, none⟩ = some (ifc d[i]!) := fun n => (HO.out.below n.out hg).cell hi
  have c2 : ∀ n : Out w, n.u.cell? ⟨g, j, none⟩ = some (ifc d[j]!) := fun n => (HO.out.below n.out hg).cell hj
  clear hO hC
  obtain ⟨a, hai⟩ : ∃ a, Hid (d[i]! = a) := ⟨_, rfl⟩
  obtain ⟨b, hbj⟩ : ∃ b, Hid (d[j]! = b) := ⟨_, rfl⟩
  rw [hai.out] at HI c1 ⊢
  rw [hbj.out] at HJ c2 ⊢
  have z1 : (i : Int) < (d.size : Int) := by omega
  have z2 : (j : Int) < (d.size : Int) := by omega
  have inh : Nonempty (Out w) := ⟨⟨w, Below.refl _ _⟩⟩
  go_enter Try.func145, Try.ntmps145
  go_upto_region 1 with fail
  refine wp_region_out (by kernel_rfl) (by kernel_rfl) ?_
  have mE := meth_entry
  have mA := meth_age
  repeat (go_big_quiet_step ((first | (go_at_call 149; refine Out.entry ?_ _; first | exact HI.out | exact HJ.out) | (go_at_call 71; exact Calls.out_of (compare_any _ _ _)))))
  refine wpQuiet_nil ?_
  rintro wy ⟨⟨wx, hby⟩, rfl⟩
  have HI2 : Hid (CuAt wy a) := HI.out.below hby
  have HJ2 : Hid (CuAt wy b) := HJ.out.below hby
  have hsz := hby.size
  clear c1 c2
  by_cases hk : keyCmp a.head b.head = 0
  · have hl : lessC a b = decide (a.age < b.age) := by unfold lessC; rw [if_pos hk]
    have c1 : ∀ n : Out wy, n.u.cell? ⟨g, i, none⟩ = some (ifc d[i]!) := fun n => ((HO.out.below hby hg).below n.out (by omega)).cell hi
    have c2 : ∀ n : Out wy, n.u.cell? ⟨g, j, none⟩ = some (ifc d[j]!) := fun n => ((HO.out.below hby hg).below n.out (by omega)).cell hj
    rw [hai.out] at c1
    rw [hbj.out] at c2
    rw [hk]
    have inh2 : Nonempty (Out wy) := ⟨⟨wy, Below.refl _ _⟩⟩
    go_upto_region 4 with fail
    refine wp_region_out (by kernel_rfl) (by kernel_rfl) ?_
    repeat (go_big_quiet_step ((go_at_call 148; refine Out.age ?_ _; first | exact HI2.out | exact HJ2.out)))
    refine wpQuiet_nil ?_
    rintro wz ⟨⟨wv, hbz⟩, rfl⟩
    go_wp2_with fail
    go_ret
    exact ⟨by rw [hl]; simp, hby.trans (hbz.mono hsz)⟩
  · have hl : lessC a b = decide (keyCmp a.head b.head < 0) := by unfold lessC; rw [if_neg hk]
    go_wp2_with fail
    go_ret
    exact ⟨by rw [hl]; simp, hby⟩

theorem cell?_setCell_some {w : World} {p q : Addr} {x v : Value} (h : w.cell? q = some v) : ∃ v', (w.setCell p x).cell? q = some v' := by
  by_cases e : p = q
  · subst e; exact ⟨x, World.cell?_setCell_same w p x h⟩
  · exact ⟨v, (World.cell?_setCell_other w p q x e).trans h⟩

set_option maxHeartbeats 2000000 in
theorem swap_cells (g cap n i j : Nat) (x y : Value) (w : World) (hx : x.oneCell' = true) (hy : y.oneCell' = true) (hi : i < n) (hj : j < n) (ci : w.cell? ⟨g, i, none⟩ = some (.iface 117 x)) (cj : w.cell? ⟨g, j, none⟩ = some (.iface 117 y))
    (fi : w.frozen? ⟨g, i, none⟩ = false) (fj : w.frozen? ⟨g, j, none⟩ = false) :
    Calls Try.prog 146 #[.slice (some ⟨g, 0, none⟩) n cap, .int .i64 i, .int .i64 j] w fun e w' =>
      e = .returned (.tuple #[]) ∧ ∃ q, w' = ((w.setCell ⟨g, i, none⟩ (.iface 117 y)).setCell ⟨g, j, none⟩ (.iface 117 x)).drewN q := by
  obtain ⟨v', hy'⟩ := cell?_setCell_some (w := w) (p := ⟨g, i, none⟩) (x := .iface 117 y) (q := ⟨g, j, none⟩) cj
  have z1 : (i : Int) < (n : Int) := by omega
  have z2 : (j : Int) < (n : Int) := by omega
  go_enter Try.func146, Try.ntmps146
  go_wp2
  go_region
  all_goals (try go_wp2)
  all_goals go_end0
  all_goals exact ⟨rfl, 1, rfl⟩

theorem meth_len0 (a : Addr) (w : World) : (method 300 121 (.pointer (some a)) "Len").run Try.prog w = ((do let v ← loadVar 78 a; pure (42, v)) : Sem (FuncId × Value)).run Try.prog w := by kernel_rfl
end Go.Proofs.Ytnncedndlhfdkac

/-
  container/heap over the cursors: down.
-/
namespace Go.Proofs.Ytnncedndlhfdkac
open Go.ChangeShapes Go.WideShapes Go.ChangeAt Go.RowKit Go.Deep Go.Sort
set_option linter.unusedVariables false
set_option linter.unusedSimpArgs false
set_option maxRecDepth 100000

theorem load_heap (g : Nat) (v : Value) (w : World) (h : w.cell? ⟨g, 0, none⟩ = some v) : (loadVar 78 ⟨g, 0, none⟩).run Try.prog w = .ok v w := by
  have a1 : ∀ w, (isAgg 78).run Try.prog w = .ok false w := fun w => by kernel_rfl
  unfold loadVar
  simp [go_sem, h, a1]
theorem meth_less0 (a : Addr) (w : World) : (method 300 121 (.pointer (some a)) "Less").run Try.prog w = ((do let v ← loadVar 78 a; pure (145, v)) : Sem (FuncId × Value)).run Try.prog w := by kernel_rfl
theorem meth_swap0 (a : Addr) (w : World) : (method 300 121 (.pointer (some a)) "Swap").run Try.prog w = ((do let v ← loadVar 78 a; pure (146, v)) : Sem (FuncId × Value)).run Try.prog w := by kernel_rfl
theorem meth_pop (a : Addr) (w : World) : (method 300 121 (.pointer (some a)) "Pop").run Try.prog w = .ok (150, .pointer (some a)) w := by kernel_rfl
theorem meth_len {g : Nat} {v : Value} {w : World} (h : w.cell? ⟨g, 0, none⟩ = some v) : (method 300 121 (.pointer (some ⟨g, 0, none⟩)) "Len").run Try.prog w = .ok (42, v) w := by
  rw [meth_len0, Sem.run_bind, load_heap g v w h]; rfl
theorem meth_less {g : Nat} {v : Value} {w : World} (h : w.cell? ⟨g, 0, none⟩ = some v) : (method 300 121 (.pointer (some ⟨g, 0, none⟩)) "Less").run Try.prog w = .ok (145, v) w := by
  rw [meth_less0, Sem.run_bind, load_heap g v w h]; rfl
theorem meth_swap {g : Nat} {v : Value} {w : World} (h : w.cell? ⟨g, 0, none⟩ = some v) : (method 300 121 (.pointer (some ⟨g, 0, none⟩)) "Swap").run Try.prog w = .ok (146, v) w := by
  rw [meth_swap0, Sem.run_bind, load_heap g v w h]; rfl

theorem len_core (g : Option Addr) (n cap : Nat) (w : World) : Calls Try.prog 42 #[.slice g n cap] w fun e w' => e = .returned (.int .i64 n) ∧ w' = w := by
  go_enter Try.func42, Try.ntmps42
  go_wp2
  go_ret
  exact ⟨rfl, rfl⟩

/-- The heap in memory: its variable, its row, its cursors. -/
structure HeapW (w : World) (hp base g cap : Nat) (d : Array Cu) : Prop where
  hdr : w.cell? ⟨hp, 0, none⟩ = some (.slice (some ⟨g, 0, none⟩) d.size cap)
  free : ∀ j, w.frozen? ⟨hp, j, none⟩ = false
  lt : hp < w.heap.size
  ne : ¬ hp = g
  row : OwnH w base g cap d
  own : base ≤ hp
  cur : ∀ c ∈ d, CuAt w c
  low : ∀ c ∈ d, c.r.b < base
  high : ∀ c ∈ d, base ≤ c.blk ∧ ¬ c.blk = g ∧ ¬ c.blk = hp
theorem HeapW.below {w w' : World} {hp base g cap : Nat} {d : Array Cu} (h : HeapW w hp base g cap d) (hb : Below w.heap.size w w') : HeapW w' hp base g cap d where
  hdr := by rw [hb.cell (p := ⟨hp, 0, none⟩) h.lt]; exact h.hdr
  free := fun j => by rw [hb.frozen (p := ⟨hp, j, none⟩) h.lt]; exact h.free j
  lt := by have := hb.size; have := h.lt; omega
  ne := h.ne
  row := h.row.below hb h.row.lt.2
  own := h.own
  cur := fun c hc => (h.cur c hc).below hb
  low := h.low
  high := h.high
theorem HeapW.turn {w w' : World} {hp base g cap : Nat} {d d' : Array Cu} (h : HeapW w hp base g cap d) (hb : Chg (fun k => k = g) w w') (hO : OwnH w' base g cap d') (hs : d'.size = d.size) (hm : ∀ c ∈ d', c ∈ d) : HeapW w' hp base g cap d' where
  hdr := by rw [hb.cell (p := ⟨hp, 0, none⟩) h.lt h.ne, hs]; exact h.hdr
  free := fun j => by rw [hb.frozen (p := ⟨hp, j, none⟩) h.lt h.ne]; exact h.free j
  lt := by have := hb.size; have := h.lt; omega
  ne := h.ne
  row := hO
  own := h.own
  cur := fun c hc => (h.cur c (hm c hc)).chg hb (h.high c (hm c hc)).2.1 (fun q => by have h1 := h.low c (hm c hc); have h2 := h.row.lt.1; omega)
  low := fun c hc => h.low c (hm c hc)
  high := fun c hc => h.high c (hm c hc)

theorem mem_get {d : Array Cu} {i : Nat} (hi : i < d.size) : d[i]! ∈ d := by rw [getElem!_pos d i hi]; simp
theorem mem_swp {d : Array Cu} {i j : Nat} (hi : i < d.size) (hj : j < d.size) {c : Cu} (h : c ∈ swp d i j) : c ∈ d := by
  unfold swp at h
  rw [← Array.mem_toList_iff, Array.toList_setIfInBounds] at h
  rcases List.mem_or_eq_of_mem_set h with h | rfl
  · rw [Array.toList_setIfInBounds] at h
    rcases List.mem_or_eq_of_mem_set h with h | rfl
    · simpa using h
    · exact mem_get hj
  · exact mem_get hi
theorem size_swp (d : Array Cu) (i j : Nat) : (swp d i j).size = d.size := by simp [swp]
theorem OwnH.swapped {w : World} {base g cap : Nat} {d : Array Cu} (h : OwnH w base g cap d) {i j : Nat} : OwnH ((w.setCell ⟨g, i, none⟩ (ifc d[j]!)).setCell ⟨g, j, none⟩ (ifc d[i]!)) base g cap (swp d i j) := by
  have h1 := (World.ownsRow.stored h i (ifc d[j]!)).1
  have h2 := (World.ownsRow.stored h1 j (ifc d[i]!)).1
  unfold OwnH
  rw [size_swp]
  have : ((swp d i j).toList.map ifc) = ((d.toList.map ifc).set i (ifc d[j]!)).set j (ifc d[i]!) := by
    unfold Go.Sort.swp
    rw [Array.toList_setIfInBounds, Array.toList_setIfInBounds, List.map_set, List.map_set]
  rw [this]
  exact h2
theorem swap_core (hp base g cap : Nat) (d : Array Cu) (i j : Nat) (w : World) (h : HeapW w hp base g cap d) (hi : i < d.size) (hj : j < d.size) :
    Calls Try.prog 146 #[.slice (some ⟨g, 0, none⟩) d.size cap, .int .i64 i, .int .i64 j] w fun e w' => e = .returned (.tuple #[]) ∧ HeapW w' hp base g cap (swp d i j) ∧ Chg (fun k => k = g) w w' := by
  refine (swap_cells g cap d.size i j _ _ w rfl rfl hi hj (h.row.cell hi) (h.row.cell hj) (World.ownsRow.frozenAt h.row i) (World.ownsRow.frozenAt h.row j)).mono ?_
  rintro e w' ⟨he, q, rfl⟩
  have c1 : Chg (fun k => k = g) w ((w.setCell ⟨g, i, none⟩ (ifc d[j]!)).setCell ⟨g, j, none⟩ (ifc d[i]!)) := (Chg.of_set (S := fun k => k = g) w g i _ rfl).trans (Chg.of_set (S := fun k => k = g) _ g j _ rfl)
  have hb := below_drewN (Below.refl ((w.setCell ⟨g, i, none⟩ (ifc d[j]!)).setCell ⟨g, j, none⟩ (ifc d[i]!)).heap.size ((w.setCell ⟨g, i, none⟩ (ifc d[j]!)).setCell ⟨g, j, none⟩ (ifc d[i]!))) q
  have c2 := c1.trans (Chg.of_below hb)
  have hO : OwnH ((w.setCell ⟨g, i, none⟩ (ifc d[j]!)).setCell ⟨g, j, none⟩ (ifc d[i]!)) base g cap (swp d i j) := h.row.swapped
  exact ⟨he, h.turn c2 (hO.below hb hO.lt.2) (size_swp _ _ _) (fun c hc => mem_swp hi hj hc), c2⟩

theorem sift_none {n i : Nat} {d : Array Cu} (h : n ≤ 2 * i + 1) : siftDown gtC n 0 i d = d := by rw [siftDown, dif_pos (by omega)]
theorem sift_r_stop {n i : Nat} {d : Array Cu} (h : 2 * i + 2 < n) (h1 : lessC d[2 * i + 2]! d[2 * i + 1]! = true) (h2 : lessC d[2 * i + 2]! d[i]! = false) : siftDown gtC n 0 i d = d := by
  rw [siftDown, dif_neg (by omega)]
  simp only [Nat.zero_add, gtC]
  rw [if_pos (by simp [h1]; omega), if_pos (by simp [h2])]
theorem sift_r_go {n i : Nat} {d : Array Cu} (h : 2 * i + 2 < n) (h1 : lessC d[2 * i + 2]! d[2 * i + 1]! = true) (h2 : lessC d[2 * i + 2]! d[i]! = true) : siftDown gtC n 0 i d = siftDown gtC n 0 (2 * i + 2) (swp d i (2 * i + 2)) := by
  rw [siftDown, dif_neg (by omega)]
  simp only [Nat.zero_add, gtC]
  rw [if_pos (by simp [h1]; omega), if_neg (by simp [h2]), dif_pos h]
theorem sift_l_stop {n i : Nat} {d : Array Cu} (h : 2 * i + 1 < n) (h1 : 2 * i + 2 < n → lessC d[2 * i + 2]! d[2 * i + 1]! = false) (h2 : lessC d[2 * i + 1]! d[i]! = false) : siftDown gtC n 0 i d = d := by
  rw [siftDown, dif_neg (by omega)]
  simp only [Nat.zero_add, gtC]
  rw [if_neg (by simp; exact fun q => h1 (by omega)), if_pos (by simp [h2])]
theorem sift_l_go {n i : Nat} {d : Array Cu} (h : 2 * i + 1 < n) (h1 : 2 * i + 2 < n → lessC d[2 * i + 2]! d[2 * i + 1]! = false) (h2 : lessC d[2 * i + 1]! d[i]! = true) : siftDown gtC n 0 i d = siftDown gtC n 0 (2 * i + 1) (swp d i (2 * i + 1)) := by
  rw [siftDown, dif_neg (by omega)]
  simp only [Nat.zero_add, gtC]
  rw [if_neg (by simp; exact fun q => h1 (by omega)), if_neg (by simp [h2])]

theorem less_at (hp base g cap : Nat) (d : Array Cu) (a b : Int) (i j : Nat) (w : World) (h : HeapW w hp base g cap d) (ha : a = i) (hb : b = j) (hi : i < d.size) (hj : j < d.size) :
    Calls Try.prog 145 #[.slice (some ⟨g, 0, none⟩) d.size cap, .int .i64 a, .int .i64 b] w fun e w' => e = .returned (.bool (lessC d[i]! d[j]!)) ∧ HeapW w' hp base g cap d ∧ Chg (fun k => k = g) w w' := by
  subst ha hb
  exact (less_core base g cap d i j w h.row (fun c hc => h.cur c hc) hi hj).mono fun e w' ⟨he, hb⟩ => ⟨he, h.below hb, Chg.of_below hb⟩
theorem swap_at (hp base g cap : Nat) (d : Array Cu) (a b : Int) (i j : Nat) (w : World) (h : HeapW w hp base g cap d) (ha : a = i) (hb : b = j) (hi : i < d.size) (hj : j < d.size) :
    Calls Try.prog 146 #[.slice (some ⟨g, 0, none⟩) d.size cap, .int .i64 a, .int .i64 b] w fun e w' => e = .returned (.tuple #[]) ∧ HeapW w' hp base g cap (swp d i j) ∧ Chg (fun k => k = g) w w' := by
  subst ha hb
  exact swap_core hp base g cap d i j w h hi hj

/-- How the loop stands. -/
structure DownAt (hp base g cap n i0 : Nat) (d : Array Cu) (w : World) (i : Nat) (d' : Array Cu) (w' : World) : Prop where
  heap : HeapW w' hp base g cap d'
  same : siftDown gtC n 0 i d' = siftDown gtC n 0 i0 d
  size : d'.size = d.size
  chg : Chg (fun k => k = g) w w'

set_option maxHeartbeats 4000000 in
theorem down_core (hp base g cap n i0 : Nat) (d : Array Cu) (w : World) (h : HeapW w hp base g cap d) (hn : n ≤ d.size) (hsz : d.size ≤ 1048576) (hi0 : i0 ≤ 1048576) :
    Calls Try.prog 99 #[.iface 121 (.pointer (some ⟨hp, 0, none⟩)), .int .i64 i0, .int .i64 n] w fun e w' =>
      ∃ b, e = .returned (.bool b) ∧ HeapW w' hp base g cap (siftDown gtC n 0 i0 d) ∧ Chg (fun k => k = g) w w' := by
  have H0 : Hid (HeapW w hp base g cap d) := h
  clear h
  go_enter Try.func99, Try.ntmps99
  go_wp2_with fail
  go_loopw [7] (fun c wr => ∃ (i : Nat) (d' : Array Cu), i ≤ 1048576 ∧ c = .int .i64 i ∧ DownAt hp base g cap n i0 d w i d' wr) (fun c _ => 1048577 - (intOf c).toNat)
  case atStart => exact ⟨i0, d, hi0, rfl, H0.out, rfl, rfl, Chg.refl _ _⟩
  case round =>
    obtain ⟨i, d', hi, rfl, hD⟩ := hrel
    have HD : Hid (DownAt hp base g cap n i0 d w i d' wr) := hD
    have hs1 : n ≤ d'.size := by rw [hD.size]; exact hn
    have hs2 : d'.size ≤ 1048576 := by rw [hD.size]; exact hsz
    clear hD
    by_cases hc1 : n ≤ 2 * i + 1
    · have z : (n : Int) ≤ 2 * (i : Int) + 1 := by omega
      go_wp2_with fail
      go_ret
      refine ⟨_, rfl, ?_, HD.out.chg⟩
      rw [← HD.out.same, sift_none hc1]; exact HD.out.heap
    · have z : ¬ (n : Int) ≤ 2 * (i : Int) + 1 := by omega
      have hiA : i < d'.size := by omega
      have hlA : 2 * i + 1 < d'.size := by omega
      have m1 := meth_less HD.out.heap.hdr
      by_cases hc2 : 2 * i + 2 < n
      · have z2 : 2 * (i : Int) + 1 + 1 < (n : Int) := by omega
        have hrA : 2 * i + 2 < d'.size := by omega
        go_wp2_with fail
        refine (less_at hp base g cap d' _ _ (2 * i + 2) (2 * i + 1) _ HD.out.heap (by omega) (by omega) hrA hlA).mono ?_
        rintro e w1 ⟨rfl, hH1, hC1⟩
        have H1 : Hid (HeapW w1 hp base g cap d' ∧ Chg (fun k => k = g) w w1) := ⟨hH1, HD.out.chg.trans hC1⟩
        have m2 := meth_less hH1.hdr
        clear hH1 hC1 m1
        cases hL : lessC d'[2 * i + 2]! d'[2 * i + 1]!
        · go_wp2_with fail
          refine (less_at hp base g cap d' _ _ (2 * i + 1) i _ H1.out.1 (by omega) rfl hlA hiA).mono ?_
          rintro e w2 ⟨rfl, hH2, hC2⟩
          have H2 : Hid (HeapW w2 hp base g cap d' ∧ Chg (fun k => k = g) w w2) := ⟨hH2, H1.out.2.trans hC2⟩
          have m3 := meth_swap hH2.hdr
          clear hH2 hC2 m2
          cases hM : lessC d'[2 * i + 1]! d'[i]!
          · go_wp2_with fail
            go_ret
            refine ⟨_, rfl, ?_, H2.out.2⟩
            rw [← HD.out.same, sift_l_stop (by omega) (fun _ => hL) hM]; exact H2.out.1
          · go_wp2_with fail
            refine (swap_at hp base g cap d' _ _ i (2 * i + 1) _ H2.out.1 rfl (by omega) hiA hlA).mono ?_
            rintro e w3 ⟨rfl, hH3, hC3⟩
            have H3 : Hid (DownAt hp base g cap n i0 d w (2 * i + 1) (swp d' i (2 * i + 1)) w3) := ⟨hH3, by rw [← HD.out.same, sift_l_go (by omega) (fun _ => hL) hM], by rw [size_swp]; exact HD.out.size, H2.out.2.trans hC3⟩
            clear hH3 hC3 m3
            go_wp2_with fail
            go_roundw
            case rel => exact ⟨2 * i + 1, _, by omega, by go_num, H3.out⟩
            case measure => go_light; simp [intOf]; omega
        · go_wp2_with fail
          refine (less_at hp base g cap d' _ _ (2 * i + 2) i _ H1.out.1 (by omega) rfl hrA hiA).mono ?_
          rintro e w2 ⟨rfl, hH2, hC2⟩
          have H2 : Hid (HeapW w2 hp base g cap d' ∧ Chg (fun k => k = g) w w2) := ⟨hH2, H1.out.2.trans hC2⟩
          have m3 := meth_swap hH2.hdr
          clear hH2 hC2 m2
          cases hM : lessC d'[2 * i + 2]! d'[i]!
          · go_wp2_with fail
            go_ret
            refine ⟨_, rfl, ?_, H2.out.2⟩
            rw [← HD.out.same, sift_r_stop hc2 hL hM]; exact H2.out.1
          · go_wp2_with fail
            refine (swap_at hp base g cap d' _ _ i (2 * i + 2) _ H2.out.1 rfl (by omega) hiA hrA).mono ?_
            rintro e w3 ⟨rfl, hH3, hC3⟩
            have H3 : Hid (DownAt hp base g cap n i0 d w (2 * i + 2) (swp d' i (2 * i + 2)) w3) := ⟨hH3, by rw [← HD.out.same, sift_r_go hc2 hL hM], by rw [size_swp]; exact HD.out.size, H2.out.2.trans hC3⟩
            clear hH3 hC3 m3
            go_wp2_with fail
            go_roundw
            case rel => exact ⟨2 * i + 2, _, by omega, by go_num, H3.out⟩
            case measure => go_light; simp [intOf]; omega
      · have z2 : ¬ 2 * (i : Int) + 1 + 1 < (n : Int) := by omega
        go_wp2_with fail
        refine (less_at hp base g cap d' _ _ (2 * i + 1) i _ HD.out.heap (by omega) rfl hlA hiA).mono ?_
        rintro e w2 ⟨rfl, hH2, hC2⟩
        have H2 : Hid (HeapW w2 hp base g cap d' ∧ Chg (fun k => k = g) w w2) := ⟨hH2, HD.out.chg.trans hC2⟩
        have m3 := meth_swap hH2.hdr
        clear hH2 hC2 m1
        cases hM : lessC d'[2 * i + 1]! d'[i]!
        · go_wp2_with fail
          go_ret
          refine ⟨_, rfl, ?_, H2.out.2⟩
          rw [← HD.out.same, sift_l_stop (by omega) (fun q => absurd q hc2) hM]; exact H2.out.1
        · go_wp2_with fail
          refine (swap_at hp base g cap d' _ _ i (2 * i + 1) _ H2.out.1 rfl (by omega) hiA hlA).mono ?_
          rintro e w3 ⟨rfl, hH3, hC3⟩
          have H3 : Hid (DownAt hp base g cap n i0 d w (2 * i + 1) (swp d' i (2 * i + 1)) w3) := ⟨hH3, by rw [← HD.out.same, sift_l_go (by omega) (fun q => absurd q hc2) hM], by rw [size_swp]; exact HD.out.size, H2.out.2.trans hC3⟩
          clear hH3 hC3 m3
          go_wp2_with fail
          go_roundw
          case rel => exact ⟨2 * i + 1, _, by omega, by go_num, H3.out⟩
          case measure => go_light; simp [intOf]; omega
end Go.Proofs.Ytnncedndlhfdkac

/-
  container/heap over the cursors: Init, Fix at the top, Pop; the step.
-/
namespace Go.Proofs.Ytnncedndlhfdkac
open Go.ChangeShapes Go.WideShapes Go.ChangeAt Go.RowKit Go.Deep Go.Sort
set_option linter.unusedVariables false
set_option linter.unusedSimpArgs false
set_option maxRecDepth 100000

set_option maxHeartbeats 1000000 in
theorem up_zero (v : Value) (w : World) : Calls Try.prog 100 #[v, .int .i64 0] w fun e w' => e = .returned (.tuple #[]) ∧ w' = w := by
  go_enter Try.func100, Try.ntmps100
  go_wp2_with fail
  go_loopw [1] (fun c wr => c = .int .i64 0 ∧ wr = w) (fun _ _ => 0)
  case atStart => exact ⟨rfl, rfl⟩
  case round =>
    obtain ⟨rfl, rfl⟩ := hrel
    go_wp2_with fail
    go_end0
    exact ⟨rfl, rfl⟩

set_option maxHeartbeats 1000000 in
theorem fix_core (hp base g cap : Nat) (d : Array Cu) (w : World) (h : HeapW w hp base g cap d) (hsz : d.size ≤ 1048576) :
    Calls Try.prog 79 #[.iface 121 (.pointer (some ⟨hp, 0, none⟩)), .int .i64 0] w fun e w' =>
      e = .returned (.tuple #[]) ∧ HeapW w' hp base g cap (siftDown gtC d.size 0 0 d) ∧ Chg (fun k => k = g) w w' := by
  have H0 : Hid (HeapW w hp base g cap d) := h
  have m1 := meth_len h.hdr
  clear h
  go_enter Try.func79, Try.ntmps79
  go_wp2_with fail
  refine (len_core _ _ _ _).mono ?_
  rintro e w1 ⟨rfl, rfl⟩
  go_wp2_with fail
  refine (down_core hp base g cap d.size 0 d _ H0.out (Nat.le_refl _) hsz (by omega)).mono ?_
  rintro e w2 ⟨b, rfl, hH, hC⟩
  have H2 : Hid (HeapW w2 hp base g cap (siftDown gtC d.size 0 0 d) ∧ Chg (fun k => k = g) w1 w2) := ⟨hH, hC⟩
  clear hH hC m1
  cases b
  · go_wp2_with fail
    refine (up_zero _ _).mono ?_
    rintro e w3 ⟨rfl, rfl⟩
    go_wp2_with fail
    go_end0
    exact ⟨rfl, H2.out.1, H2.out.2⟩
  · go_wp2_with fail
    go_end0
    exact ⟨rfl, H2.out.1, H2.out.2⟩

/-- How the building stands. -/
structure BuildAt (hp base g cap : Nat) (d : Array Cu) (w : World) (k : Nat) (d' : Array Cu) (w' : World) : Prop where
  heap : HeapW w' hp base g cap d'
  same : heapBuild gtC d.size 0 k d' = heapBuild gtC d.size 0 (d.size / 2) d
  size : d'.size = d.size
  chg : Chg (fun k => k = g) w w'
theorem size_sift0 (n : Nat) : ∀ (m i : Nat) (d : Array Cu), n - i ≤ m → (siftDown gtC n 0 i d).size = d.size
  | 0, i, d, h => by rw [sift_none (by omega)]
  | m + 1, i, d, h => by
    by_cases h1 : n ≤ 2 * i + 1
    · rw [sift_none h1]
    · have hl : ∀ q : 2 * i + 2 < n → lessC d[2 * i + 2]! d[2 * i + 1]! = false, (siftDown gtC n 0 i d).size = d.size := fun q => by
        cases hM : lessC d[2 * i + 1]! d[i]!
        · rw [sift_l_stop (by omega) q hM]
        · rw [sift_l_go (by omega) q hM, size_sift0 n m _ _ (by omega), size_swp]
      by_cases h2 : 2 * i + 2 < n
      · cases hL : lessC d[2 * i + 2]! d[2 * i + 1]!
        · exact hl (fun _ => hL)
        · cases hM : lessC d[2 * i + 2]! d[i]!
          · rw [sift_r_stop h2 hL hM]
          · rw [sift_r_go h2 hL hM, size_sift0 n m _ _ (by omega), size_swp]
      · exact hl (fun q => absurd q h2)
theorem size_sift (n i : Nat) (d : Array Cu) : (siftDown gtC n 0 i d).size = d.size := size_sift0 n _ i d (Nat.le_refl _)

set_option maxHeartbeats 1000000 in
theorem init_core (hp base g cap : Nat) (d : Array Cu) (w : World) (h : HeapW w hp base g cap d) (hsz : d.size ≤ 1048576) :
    Calls Try.prog 76 #[.iface 121 (.pointer (some ⟨hp, 0, none⟩))] w fun e w' =>
      e = .returned (.tuple #[]) ∧ HeapW w' hp base g cap (heapBuild gtC d.size 0 (d.size / 2) d) ∧ Chg (fun k => k = g) w w' := by
  have H0 : Hid (HeapW w hp base g cap d) := h
  have m1 := meth_len h.hdr
  clear h
  go_enter Try.func76, Try.ntmps76
  go_wp2_with fail
  refine (len_core _ _ _ _).mono ?_
  rintro e w1 ⟨rfl, rfl⟩
  go_wp2_with fail
  go_loopw [3] (fun c wr => ∃ (k : Nat) (d' : Array Cu), k ≤ d.size / 2 ∧ c = .int .i64 ((k : Int) - 1) ∧ BuildAt hp base g cap d w1 k d' wr) (fun c _ => (intOf c + 1).toNat)
  case atStart => exact ⟨d.size / 2, d, Nat.le_refl _, by go_num, H0.out, rfl, rfl, Chg.refl _ _⟩
  case round =>
    obtain ⟨k, d', hk, rfl, hD⟩ := hrel
    have HD : Hid (BuildAt hp base g cap d w1 k d' wr) := hD
    have hs1 : d.size ≤ d'.size := by rw [hD.size]; omega
    have hs2 : d'.size ≤ 1048576 := by rw [hD.size]; exact hsz
    clear hD
    by_cases h0 : k = 0
    · subst h0
      go_wp2_with fail
      go_end0
      refine ⟨rfl, ?_, HD.out.chg⟩
      rw [← HD.out.same]; exact HD.out.heap
    · obtain ⟨j, rfl⟩ : ∃ j, k = j + 1 := ⟨k - 1, by omega⟩
      have e1 : (((j + 1 : Nat) : Int) - 1) = (j : Int) := by omega
      rw [e1]
      have zj : (0 : Int) ≤ (j : Int) := by omega
      clear e1
      go_wp2_with fail
      refine (down_core hp base g cap d.size j d' _ HD.out.heap hs1 hs2 (by omega)).mono ?_
      rintro e w2 ⟨b, rfl, hH, hC⟩
      have H2 : Hid (BuildAt hp base g cap d w1 j (siftDown gtC d.size 0 j d') w2) := ⟨hH, by rw [← HD.out.same]; rfl, by rw [size_sift]; exact HD.out.size, HD.out.chg.trans hC⟩
      clear hH hC
      go_wp2_with fail
      go_roundw
      case rel => exact ⟨j, _, by omega, by go_num, H2.out⟩
      case measure => go_light; simp [intOf]

theorem OwnH.popped {w : World} {base g cap : Nat} {d : Array Cu} (h : OwnH w base g cap d) : OwnH w base g cap d.pop := by
  rcases h.2 with ⟨hv, _⟩ | ⟨g', cap', cur, hv, h1, h2, h3, h4, h5, h6⟩
  · cases hv
  · simp only [Value.slice.injEq, Option.some.injEq, Addr.mk.injEq, and_true, true_and] at hv
    obtain ⟨rfl, rfl⟩ := hv
    refine ⟨by simp, .inr ⟨g, cap, cur, rfl, h1, h2, by simp; omega, h4, h5, ?_⟩⟩
    have e : (d.pop.toList.map ifc) = (d.toList.map ifc).take (d.size - 1) := by
      rw [Array.toList_pop, List.dropLast_eq_take, List.map_take]; simp
    rw [e, ← h6, List.take_take]
    congr 1
    simp
theorem mem_pop {d : Array Cu} {c : Cu} (h : c ∈ d.pop) : c ∈ d := by
  rw [← Array.mem_toList_iff, Array.toList_pop] at h
  have := List.dropLast_subset _ h
  simpa using this
theorem HeapW.pop {w : World} {hp base g cap : Nat} {d : Array Cu} (h : HeapW w hp base g cap d) : HeapW (w.setCell ⟨hp, 0, none⟩ (.slice (some ⟨g, 0, none⟩) (d.size - 1) cap)) hp base g cap d.pop := by
  have hg : Chg (fun k => k = hp) w (w.setCell ⟨hp, 0, none⟩ (.slice (some ⟨g, 0, none⟩) (d.size - 1) cap)) := Chg.of_set _ _ _ _ rfl
  exact {
    hdr := by rw [World.cell?_setCell_same _ _ _ h.hdr]; simp
    free := fun j => by rw [World.frozen?_setCell]; exact h.free j
    lt := by have := hg.size; have := h.lt; omega
    ne := h.ne
    row := World.ownsRow.kept h.row.popped (grown_set w hp 0 _) (.inr (fun q => h.ne (Option.some.inj q).symm))
    own := h.own
    cur := fun c hc => (h.cur c (mem_pop hc)).chg hg (h.high c (mem_pop hc)).2.2 (fun q => by have h1 := h.low c (mem_pop hc); have h2 := h.own; omega)
    low := fun c hc => h.low c (mem_pop hc)
    high := fun c hc => h.high c (mem_pop hc) }

set_option maxHeartbeats 1000000 in
theorem popM_core (hp base g cap : Nat) (d : Array Cu) (w : World) (h : HeapW w hp base g cap d) (h0 : 0 < d.size) (hsz : d.size ≤ 1048576) :
    Calls Try.prog 150 #[.pointer (some ⟨hp, 0, none⟩)] w fun e w' => (∃ v, e = .returned v) ∧ HeapW w' hp base g cap d.pop ∧ Chg (fun k => k = hp) w w' := by
  have hP : Hid (HeapW (w.setCell ⟨hp, 0, none⟩ (.slice (some ⟨g, 0, none⟩) (d.size - 1) cap)) hp base g cap d.pop) := h.pop
  have c0 := h.hdr
  have c1 := h.row.cell (i := d.size - 1) (by omega)
  have f0 := h.free 0
  have hcap : d.size ≤ cap := by
    rcases h.row.2 with ⟨hv, _⟩ | ⟨g', cap', cur, hv, h1, h2, h3, h4, h5, h6⟩
    · cases hv
    · simp only [Value.slice.injEq, Option.some.injEq, Addr.mk.injEq, and_true, true_and] at hv
      obtain ⟨rfl, rfl⟩ := hv
      exact h3
  generalize d[d.size - 1]! = c at c1
  clear h
  have hC : Hid (Chg (fun k => k = hp) w (w.setCell ⟨hp, 0, none⟩ (.slice (some ⟨g, 0, none⟩) (d.size - 1) cap))) := Chg.of_set _ _ _ _ rfl
  generalize hn : d.size = n at *
  obtain ⟨m, rfl⟩ : ∃ m, n = m + 1 := ⟨n - 1, by omega⟩
  have HN : Hid (d.size = m + 1) := hn
  clear hn
  simp only [Nat.add_sub_cancel] at *
  go_enter Try.func150, Try.ntmps150
  go_wp2
  go_ret
  exact ⟨⟨_, rfl⟩, hP.out, hC.out⟩

set_option maxHeartbeats 1000000 in
theorem pop_core (hp base g cap : Nat) (d : Array Cu) (w : World) (h : HeapW w hp base g cap d) (h0 : 0 < d.size) (hsz : d.size ≤ 1048576) :
    Calls Try.prog 80 #[.iface 121 (.pointer (some ⟨hp, 0, none⟩))] w fun e w' =>
      (∃ v, e = .returned v) ∧ HeapW w' hp base g cap (siftDown gtC (d.size - 1) 0 0 (swp d 0 (d.size - 1))).pop ∧ Chg (fun k => k = g ∨ k = hp) w w' := by
  have H0 : Hid (HeapW w hp base g cap d) := h
  have m1 := meth_len h.hdr
  have m2 := meth_swap h.hdr
  clear h
  have mP := fun w => meth_pop ⟨hp, 0, none⟩ w
  go_enter Try.func80, Try.ntmps80
  go_wp2_with fail
  refine (len_core _ _ _ _).mono ?_
  rintro e w1 ⟨rfl, rfl⟩
  go_wp2_with fail
  refine (swap_at hp base g cap d _ _ 0 (d.size - 1) _ H0.out rfl (by omega) h0 (by omega)).mono ?_
  rintro e w2 ⟨rfl, hH2, hC2⟩
  have H2 : Hid (HeapW w2 hp base g cap (swp d 0 (d.size - 1)) ∧ Chg (fun k => k = g) w1 w2) := ⟨hH2, hC2⟩
  clear hH2 hC2 m1 m2
  have e1 : (d.size : Int) - 1 = ((d.size - 1 : Nat) : Int) := by omega
  rw [e1]
  clear e1
  go_wp2_with fail
  refine (down_core hp base g cap (d.size - 1) 0 (swp d 0 (d.size - 1)) _ H2.out.1 (by rw [size_swp]; omega) (by rw [size_swp]; exact hsz) (by omega)).mono ?_
  rintro e w3 ⟨b, rfl, hH3, hC3⟩
  have H3 : Hid (HeapW w3 hp base g cap (siftDown gtC (d.size - 1) 0 0 (swp d 0 (d.size - 1))) ∧ Chg (fun k => k = g) w1 w3) := ⟨hH3, H2.out.2.trans hC3⟩
  clear hH3 hC3
  go_wp2_with fail
  refine (popM_core hp base g cap _ _ H3.out.1 (by rw [size_sift, size_swp]; exact h0) (by rw [size_sift, size_swp]; exact hsz)).mono ?_
  rintro e w4 ⟨⟨v, rfl⟩, hH4, hC4⟩
  have H4 : Hid (HeapW w4 hp base g cap (siftDown gtC (d.size - 1) 0 0 (swp d 0 (d.size - 1))).pop ∧ Chg (fun k => k = g ∨ k = hp) w1 w4) := ⟨hH4, (H3.out.2.mono (fun k q => .inl q)).trans (hC4.mono (fun k q => .inr q))⟩
  clear hH4 hC4
  go_wp2_with fail
  go_ret
  exact ⟨⟨_, rfl⟩, H4.out.1, H4.out.2⟩
end Go.Proofs.Ytnncedndlhfdkac

/-
  The step of the heap, without memory.
-/
namespace Go.Proofs.Ytnncedndlhfdkac
set_option linter.unusedVariables false
set_option linter.unusedSimpArgs false
open Go.Sort (siftDown heapBuild swp PermIn)

theorem perm_of_permIn {d d' : Array Cu} (h : PermIn 0 d.size d d') : d'.toList.Perm d.toList := by
  have h2 := h.2.2
  have e1 : d.extract 0 d.size = d := by simp
  have e2 : d'.extract 0 d.size = d' := by rw [← h.1]; simp
  rw [e1, e2] at h2
  exact h2
abbrev fl (c : Cu) : Nat × List Ent := (c.age, c.rest)
/-- A heap: no node is greater than its children. -/
def Heap (d : Array Cu) : Prop := ∀ i, i < d.size → Go.Sort.Ok gtC 0 d.size d i
theorem heap_min {d : Array Cu} (h : Heap d) {c : Cu} (hc : c ∈ d) : lessC c d[0]! = false := by
  obtain ⟨i, hi, rfl⟩ := Array.getElem_of_mem hc
  have := Go.Sort.root_max swo_gtC h i i (Nat.le_refl _) hi
  simp only [Nat.zero_add] at this
  rw [getElem!_pos d i hi] at this
  exact this
theorem heap_build {d : Array Cu} : Heap (heapBuild gtC d.size 0 (d.size / 2) d) ∧ (heapBuild gtC d.size 0 (d.size / 2) d).toList.Perm d.toList := by
  have h := Go.Sort.build swo_gtC d.size 0 (d.size / 2) d (by omega) (fun i h1 h2 k hk hlt => by omega)
  rw [Nat.zero_add] at h
  refine ⟨?_, perm_of_permIn h.2⟩
  intro i hi
  rw [h.2.1] at hi ⊢
  exact h.1 i hi
/-- Another one at the top, put right. -/
theorem heap_fix {c c' : Cu} {t : List Cu} (h : Heap ⟨c :: t⟩) : Heap (siftDown gtC (t.length + 1) 0 0 ⟨c' :: t⟩) ∧ (siftDown gtC (t.length + 1) 0 0 ⟨c' :: t⟩).toList.Perm (c' :: t) := by
  have g : ∀ i, i ≠ 0 → (⟨c' :: t⟩ : Array Cu)[i]! = (⟨c :: t⟩ : Array Cu)[i]! := fun i hi => by
    obtain ⟨j, rfl⟩ : ∃ j, i = j + 1 := ⟨i - 1, by omega⟩
    simp [getElem!_def]
  have hs : (⟨c' :: t⟩ : Array Cu).size = t.length + 1 := rfl
  have hs0 : (⟨c :: t⟩ : Array Cu).size = t.length + 1 := rfl
  have h1 := Go.Sort.sift swo_gtC (t.length + 1) 0 0 (t.length + 1) 0 ⟨c' :: t⟩ (by omega) (by rw [hs]; omega) (Nat.le_refl _) (fun i _ hi hne k hk hlt => by
      have := h i (by rw [hs0]; exact hi) k hk (by rw [hs0]; exact hlt)
      rw [Nat.zero_add, Nat.zero_add] at this ⊢
      rw [g i hne, g k (by omega)]
      exact this) (fun p _ hp => by omega)
  rw [Nat.zero_add] at h1
  have hp : PermIn 0 (⟨c' :: t⟩ : Array Cu).size ⟨c' :: t⟩ (siftDown gtC (t.length + 1) 0 0 ⟨c' :: t⟩) := h1.2
  refine ⟨?_, perm_of_permIn hp⟩
  intro i hi
  rw [hp.1] at hi ⊢
  exact h1.1 i (Nat.zero_le _) hi
/-- The top taken off. -/
theorem heap_pop {c : Cu} {t : List Cu} (h : Heap ⟨c :: t⟩) : Heap (siftDown gtC t.length 0 0 (swp ⟨c :: t⟩ 0 t.length)).pop ∧ (siftDown gtC t.length 0 0 (swp ⟨c :: t⟩ 0 t.length)).pop.toList.Perm t := by
  obtain ⟨d, hd⟩ : ∃ d : Array Cu, d = ⟨c :: t⟩ := ⟨_, rfl⟩
  have hs0 : d.size = t.length + 1 := by rw [hd]; rfl
  have hc0 : d[0]! = c := by rw [hd]; rfl
  rw [← hd] at h ⊢
  obtain ⟨e, he⟩ : ∃ e : Array Cu, e = swp d 0 t.length := ⟨_, rfl⟩
  have hes : e.size = t.length + 1 := by rw [he, Go.Sort.size_swp]; exact hs0
  have hel : e[t.length]! = c := by rw [he, Go.Sort.swp_right d 0 t.length (by omega)]; exact hc0
  have g : ∀ i, i ≠ 0 → i < t.length → e[i]! = d[i]! := fun i h1 h2 => by rw [he]; exact Go.Sort.swp_other d 0 t.length i h1 (by omega)
  have hpe : PermIn 0 d.size d e := by rw [he]; exact Go.Sort.swp_permIn d 0 d.size 0 t.length (Nat.le_refl _) (by omega) (Nat.zero_le _) (by omega) (Nat.le_refl _)
  rw [← he]
  have h1 := Go.Sort.sift swo_gtC t.length 0 0 t.length 0 e (by omega) (by omega) (Nat.le_refl _) (fun i _ hi hne k hk hlt => by
      have := h i (by omega) k hk (by omega)
      rw [Nat.zero_add, Nat.zero_add] at this ⊢
      rw [g i hne hi, g k (by omega) hlt]
      exact this) (fun p _ hp => by omega)
  rw [Nat.zero_add] at h1
  obtain ⟨f, hf⟩ : ∃ f : Array Cu, f = siftDown gtC t.length 0 0 e := ⟨_, rfl⟩
  rw [← hf] at h1 ⊢
  have hfs : f.size = t.length + 1 := by rw [h1.2.1]; exact hes
  have hfl : f[t.length]! = c := by rw [h1.2.2.1 t.length (.inr (Nat.le_refl _))]; exact hel
  have hpf : PermIn 0 d.size d f := by
    refine Go.Sort.permIn_trans d e f 0 d.size hpe ?_
    exact Go.Sort.permIn_mono e f 0 t.length 0 d.size (Nat.le_refl _) (by omega) (by omega) h1.2
  have hps : f.pop.size = t.length := by simp [hfs]
  refine ⟨?_, ?_⟩
  · intro i hi k hk hlt
    rw [hps] at hi hlt
    have := h1.1 i (Nat.zero_le _) hi k hk hlt
    rw [Nat.zero_add, Nat.zero_add] at this ⊢
    have q : ∀ j, j < t.length → f.pop[j]! = f[j]! := fun j hj => by
      rw [getElem!_pos f.pop j (by omega), getElem!_pos f j (by omega)]; simp
    rw [q i hi, q k hlt]
    exact this
  · have hP := perm_of_permIn hpf
    rw [hd] at hP
    have hdl : f.toList = f.pop.toList ++ [c] := by
      rw [Array.toList_pop]
      have hlen : f.toList.length = t.length + 1 := by rw [Array.length_toList]; exact hfs
      have hne : f.toList ≠ [] := by intro q; rw [q] at hlen; simp at hlen
      have hgl : f.toList.getLast hne = c := by
        rw [List.getLast_eq_getElem]
        have : f[t.length]! = f[t.length]'(by omega) := getElem!_pos f t.length (by omega)
        rw [this] at hfl
        rw [← hfl]
        simp [hfs]
      have := List.dropLast_concat_getLast hne
      rw [hgl] at this
      exact this.symm
    rw [hdl] at hP
    have hP2 : (c :: f.pop.toList).Perm (c :: t) := (List.perm_append_singleton c f.pop.toList).symm.trans hP
    exact hP2.cons_inv

/-- The heap's least one gives the next of all. -/
theorem flow_min {A : Nat → Ent → Prop} {N : Nat} {P : List (Nat × Ent)} {c : Cu} {t : List Cu} (hh : Heap ⟨c :: t⟩) (hpos : ∀ x ∈ c :: t, x.pos < x.r.es.length) (h : Flow A N P ((c :: t).map fl)) :
    (∀ p ∈ P, Lt2 p (c.age, c.head)) ∧ Flow A N (P ++ [(c.age, c.head)]) ((c.age, c.r.es.drop (c.pos + 1)) :: t.map fl) := by
  have e : (c :: t).map fl = (c.age, c.head :: c.r.es.drop (c.pos + 1)) :: t.map fl := by
    rw [List.map_cons]
    simp only [fl, Cu.rest_cons (hpos c (by simp))]
  rw [e] at h
  refine ⟨h.next, h.step (fun p hp => ?_)⟩
  obtain ⟨x, hx, rfl⟩ := List.mem_map.1 hp
  refine ⟨x.head, x.r.es.drop (x.pos + 1), Cu.rest_cons (hpos x (List.mem_cons_of_mem _ hx)), ?_⟩
  have := heap_min hh (c := x) (by simp [hx])
  exact lessC_false.1 this
end Go.Proofs.Ytnncedndlhfdkac

/-
  The step of the heap in memory.
-/
namespace Go.Proofs.Ytnncedndlhfdkac
open Go.ChangeShapes Go.WideShapes Go.ChangeAt Go.RowKit Go.Deep
set_option linter.unusedVariables false
set_option linter.unusedSimpArgs false
set_option maxRecDepth 100000
open Go.Sort (siftDown heapBuild swp PermIn)

/-- The heap, ordered, and what is still to come of it. -/
structure HeapOk (A : Nat → Ent → Prop) (N : Nat) (S : Nat → Prop) (hp base g cap : Nat) (w : World) (P : List (Nat × Ent)) (d : Array Cu) : Prop where
  mem : HeapW w hp base g cap d
  heap : Heap d
  flow : Flow A N P (d.toList.map fl)
  blks : d.toList.Pairwise fun a b => a.blk ≠ b.blk
  inG : S g
  inH : S hp
  inC : ∀ c ∈ d, S c.blk
  few : d.size ≤ 1048576

theorem meth_adv (a : Addr) (w : World) : (method 300 117 (.pointer (some a)) "loop.example/s01854/impl.advance").run Try.prog w = .ok (147, .pointer (some a)) w := by kernel_rfl

theorem HeapW.onTop {w : World} {hp base g cap : Nat} {c : Cu} {t : List Cu} (h : HeapW w hp base g cap ⟨c :: t⟩) (hb : (c :: t).Pairwise fun a b => a.blk ≠ b.blk) (hn : c.pos + 1 < c.r.es.length) :
    HeapW (w.setCell ⟨c.blk, 1, none⟩ (.int .i64 (c.pos + 1 : Nat))) hp base g cap ⟨c.on :: t⟩ := by
  have hc : c ∈ (⟨c :: t⟩ : Array Cu) := by simp
  have hg : Chg (fun k => k = c.blk) w (w.setCell ⟨c.blk, 1, none⟩ (.int .i64 (c.pos + 1 : Nat))) := Chg.of_set _ _ _ _ rfl
  have hhi := h.high c hc
  have hlo := h.low c hc
  have hm : ∀ x ∈ (⟨c.on :: t⟩ : Array Cu), x = c.on ∨ x ∈ t := fun x hx => by simpa using hx
  have ht : ∀ x ∈ t, x ∈ (⟨c :: t⟩ : Array Cu) := fun x hx => by simp [hx]
  exact {
    hdr := by rw [World.cell?_setCell_other _ _ _ _ (fun q => hhi.2.2 (congrArg Addr.block q))]; exact h.hdr
    free := fun j => by rw [World.frozen?_setCell]; exact h.free j
    lt := by have := hg.size; have := h.lt; omega
    ne := h.ne
    row := World.ownsRow.kept (show OwnH w base g cap ⟨c.on :: t⟩ from h.row) (grown_set w c.blk 1 _) (.inr (fun q => hhi.2.1 (Option.some.inj q).symm))
    own := h.own
    cur := fun x hx => by
      rcases hm x hx with rfl | hx
      · exact (h.cur c hc).on (by omega) hn
      · have hne := (List.pairwise_cons.1 hb).1 x hx
        exact (h.cur x (ht x hx)).chg hg (fun q => hne q.symm) (fun q => by have := h.low x (ht x hx); omega)
    low := fun x hx => by
      rcases hm x hx with rfl | hx
      · exact hlo
      · exact h.low x (ht x hx)
    high := fun x hx => by
      rcases hm x hx with rfl | hx
      · exact hhi
      · exact h.high x (ht x hx) }

set_option maxHeartbeats 2000000 in
theorem step_core (A : Nat → Ent → Prop) (N : Nat) (S : Nat → Prop) (hp base g cap : Nat) (w : World) (P : List (Nat × Ent)) (c : Cu) (t : List Cu) (h : HeapOk A N S hp base g cap w P ⟨c :: t⟩) :
    Calls Try.prog 44 #[.pointer (some ⟨hp, 0, none⟩)] w fun e w' => e = .returned (.tuple #[]) ∧ ∃ d', HeapOk A N S hp base g cap w' (P ++ [(c.age, c.head)]) d' ∧ Chg S w w' := by
  have H0 : Hid (HeapOk A N S hp base g cap w P ⟨c :: t⟩) := h
  have hc : c ∈ (⟨c :: t⟩ : Array Cu) := by simp
  have hfew : t.length + 1 ≤ 1048576 := h.few
  have hF : Hid ((∀ p ∈ P, Lt2 p (c.age, c.head)) ∧ Flow A N (P ++ [(c.age, c.head)]) ((c.age, c.r.es.drop (c.pos + 1)) :: t.map fl)) := flow_min h.heap (fun x hx => (h.mem.cur x (by simpa using hx)).here) h.flow
  have c0 : w.cell? ⟨hp, 0, none⟩ = some (.slice (some ⟨g, 0, none⟩) (t.length + 1) cap) := h.mem.hdr
  have c1 : w.cell? ⟨g, 0, none⟩ = some (ifc c) := h.mem.row.cell (i := 0) (by simp)
  have mA := meth_adv
  have HC : Hid (CuAt w c) := h.mem.cur c hc
  have hz : (0 : Int) < ((t.length + 1 : Nat) : Int) := by omega
  clear h
  by_cases hn : c.pos + 1 < c.r.es.length
  · go_enter Try.func44, Try.ntmps44
    go_wp2_with fail
    refine (advance_more c _ HC.out hn).mono ?_
    rintro e w1 ⟨rfl, w0, hb0, rfl⟩
    have H1 : Hid (HeapW (w0.setCell ⟨c.blk, 1, none⟩ (.int .i64 (c.pos + 1 : Nat))) hp base g cap ⟨c.on :: t⟩) := (H0.out.mem.below hb0).onTop H0.out.blks hn
    have hC1 : Chg S w (w0.setCell ⟨c.blk, 1, none⟩ (.int .i64 (c.pos + 1 : Nat))) := (Chg.of_below hb0).trans (Chg.of_set _ _ _ _ (H0.out.inC c hc))
    generalize w0.setCell ⟨c.blk, 1, none⟩ (.int .i64 (c.pos + 1 : Nat)) = W1 at *
    have HC1 : Hid (Chg S w W1) := hC1
    clear hC1 c0 c1
    go_wp2_with fail
    refine (fix_core hp base g cap ⟨c.on :: t⟩ _ H1.out hfew).mono ?_
    rintro e w2 ⟨rfl, hH2, hC2⟩
    have hx := heap_fix (c' := c.on) H0.out.heap
    have H2 : Hid (HeapOk A N S hp base g cap w2 (P ++ [(c.age, c.head)]) (siftDown gtC (t.length + 1) 0 0 ⟨c.on :: t⟩) ∧ Chg S w w2) := by
      refine ⟨⟨hH2, hx.1, ?_, ?_, H0.out.inG, H0.out.inH, ?_, ?_⟩, HC1.out.trans (hC2.mono (fun k q => by rw [q]; exact H0.out.inG))⟩
      · exact (hF.out.2 : Flow A N _ ((c.on :: t).map fl)).perm (hx.2.map fl).symm
      · exact (hx.2.pairwise_iff (fun h => Ne.symm h)).2 (List.pairwise_cons.2 ⟨fun a ha => (List.pairwise_cons.1 H0.out.blks).1 a ha, (List.pairwise_cons.1 H0.out.blks).2⟩)
      · intro x hx'
        have := hx.2.mem_iff.1 (Array.mem_toList_iff.2 hx')
        rcases List.mem_cons.1 this with rfl | q
        · exact H0.out.inC c hc
        · exact H0.out.inC x (by simp [q])
      · rw [size_sift]; exact hfew
    clear hH2 hC2 hx
    go_wp2_with fail
    (try simp only [Exit.inBlock, Exit.then])
    refine bodyPost_ret (results_none rfl _ _ _) rfl ?_
    exact ⟨rfl, _, H2.out.1, H2.out.2⟩
  · go_enter Try.func44, Try.ntmps44
    go_wp2_with fail
    refine (advance_last c _ HC.out hn).mono ?_
    rintro e w1 ⟨rfl, hb1⟩
    have H1 : Hid (HeapW w1 hp base g cap ⟨c :: t⟩ ∧ Chg S w w1) := ⟨H0.out.mem.below hb1, Chg.of_below hb1⟩
    clear hb1 c0 c1
    go_wp2_with fail
    refine (pop_core hp base g cap ⟨c :: t⟩ _ H1.out.1 (by simp) hfew).mono ?_
    rintro e w2 ⟨⟨v, rfl⟩, hH2, hC2⟩
    have hx := heap_pop H0.out.heap
    have hH2' : HeapW w2 hp base g cap (siftDown gtC t.length 0 0 (swp ⟨c :: t⟩ 0 t.length)).pop := hH2
    have H2 : Hid (HeapOk A N S hp base g cap w2 (P ++ [(c.age, c.head)]) (siftDown gtC t.length 0 0 (swp ⟨c :: t⟩ 0 t.length)).pop ∧ Chg S w w2) := by
      refine ⟨⟨hH2', hx.1, ?_, ?_, H0.out.inG, H0.out.inH, ?_, ?_⟩, H1.out.2.trans (hC2.mono (fun k q => q.elim (fun q => q ▸ H0.out.inG) (fun q => q ▸ H0.out.inH)))⟩
      · have hf := hF.out.2
        rw [List.drop_of_length_le (by omega)] at hf
        exact hf.drop.perm (hx.2.map fl).symm
      · exact (hx.2.pairwise_iff (fun h => Ne.symm h)).2 (List.pairwise_cons.1 H0.out.blks).2
      · intro x hx'
        have := hx.2.mem_iff.1 (Array.mem_toList_iff.2 hx')
        exact H0.out.inC x (by simp [this])
      · have := hx.2.length_eq
        rw [Array.length_toList] at this
        omega
    clear hH2 hH2' hC2 hx
    go_wp2_with fail
    go_end0
    exact ⟨rfl, _, H2.out.1, H2.out.2⟩
end Go.Proofs.Ytnncedndlhfdkac

/-
  slices.BinarySearchFunc over entries; impl.firstAt, impl.entriesIn.
-/
namespace Go.Proofs.Ytnncedndlhfdkac
open Go.ChangeShapes Go.WideShapes Go.ChangeAt Go.RowKit Go.Deep
set_option linter.unusedVariables false
set_option linter.unusedSimpArgs false
set_option maxRecDepth 100000

/-- Up to 'i' the entries stand before the key, from there on they don't. -/
def CutAt (es : List Ent) (k : Ent) (i : Nat) : Prop := i ≤ es.length ∧ (∀ (t : Nat) (x : Ent), t < i → es[t]? = some x → keyCmp x k = -1) ∧ (∀ (t : Nat) (x : Ent), i ≤ t → es[t]? = some x → ¬ keyCmp x k = -1)

set_option maxHeartbeats 4000000 in
theorem bsearch_core (b off cap : Nat) (es : List Ent) (e : Ent) (w : World) (hE : EntsAt w b off es) (hB : b < w.heap.size) (hlen : es.length ≤ 1048576)
    (hmono : ∀ (i j : Nat) (x y : Ent), i ≤ j → es[i]? = some x → es[j]? = some y → keyCmp y e = -1 → keyCmp x e = -1) :
    Calls Try.prog 115 #[.slice (some ⟨b, off, none⟩) es.length cap, .agg #[.string e.row, .string e.fam, .string e.qual, .int .u64 e.ts, .int .i64 e.kind, .string e.val], .func (.func 71) #[] #[]] w fun r w' =>
      ∃ (i : Nat) (f : Value), r = .returned (.tuple #[.int .i64 i, f]) ∧ CutAt es e i ∧ Below w.heap.size w w' := by
  obtain ⟨W0, hW0⟩ : ∃ W0 : World, W0 = w.alloc (Obj.cells #[.string e.row, .string e.fam, .string e.qual, .int .u64 e.ts, .int .i64 e.kind, .string e.val] 63) := ⟨_, rfl⟩
  have hb0 : Below w.heap.size w W0 := by rw [hW0]; exact (Below.refl _ _).alloc (Nat.le_refl _) _
  have hz0 : w.heap.size < W0.heap.size := by rw [hW0]; simp
  have HE : Hid (EntsAt W0 b off es) := hE.below hb0 hB
  have HX : Hid (EntsAt W0 w.heap.size 0 [e]) := by show EntsAt W0 w.heap.size 0 [e]; rw [hW0]; exact ent_box w e
  have HM : Hid (∀ (i j : Nat) (x y : Ent), i ≤ j → es[i]? = some x → es[j]? = some y → keyCmp y e = -1 → keyCmp x e = -1) := hmono
  clear hE hmono
  go_enter Try.func115, Try.ntmps115
  go_wp2_with fail
  rw [← hW0]
  clear hW0
  go_loopw [9, 10] (fun i j wr => ∃ lo hi : Nat, i = .int .i64 lo ∧ j = .int .i64 hi ∧ lo ≤ hi ∧ hi ≤ es.length ∧ (∀ (t : Nat) (x : Ent), t < lo → es[t]? = some x → keyCmp x e = -1) ∧ (∀ (t : Nat) (x : Ent), hi ≤ t → es[t]? = some x → ¬ keyCmp x e = -1) ∧ Below W0.heap.size W0 wr) (fun i j _ => (intOf j).toNat - (intOf i).toNat)
  case atStart => exact ⟨0, es.length, rfl, rfl, Nat.zero_le _, Nat.le_refl _, fun t x ht => by omega, fun t x ht hx => by have := (List.getElem?_eq_some_iff.1 hx).1; omega, Below.refl _ _⟩
  case round =>
    obtain ⟨lo, hi, rfl, rfl, hlh, hhi, hA, hZ, hb⟩ := hrel
    have HA : Hid ((∀ (t : Nat) (x : Ent), t < lo → es[t]? = some x → keyCmp x e = -1) ∧ (∀ (t : Nat) (x : Ent), hi ≤ t → es[t]? = some x → ¬ keyCmp x e = -1)) := ⟨hA, hZ⟩
    have hs := hb.size
    clear hA hZ
    by_cases hlt : lo < hi
    · have zl : (lo : Int) < (hi : Int) := by omega
      go_upto_region 5 with fail
      obtain ⟨m, hm⟩ : ∃ m : Nat, m = (lo + hi) / 2 := ⟨_, rfl⟩
      have em : ((lo : Int) + (hi : Int)) / 2 = (m : Int) := by omega
      have hm1 : lo ≤ m := by omega
      have hm2 : m < hi := by omega
      rw [em]
      clear em hm
      obtain ⟨v, hv⟩ : ∃ v, es[m]? = some v := ⟨_, List.getElem?_eq_getElem (by omega)⟩
      obtain ⟨q0, q1, q2, q3, q4, q5⟩ := ents_out (HE.out.below hb (by omega)) (by omega) hv
      obtain ⟨r0, r1, r2, r3, r4, r5⟩ := ents_out (HX.out.below hb (by omega)) (by omega) (rfl : [e][0]? = some e)
      simp only [Nat.zero_add, Nat.zero_mul] at q0 q1 q2 q3 q4 q5 r0 r1 r2 r3 r4 r5
      have HV : Hid (es[m]? = some v) := hv
      clear hv
      have inh : Nonempty (Out wr) := ⟨⟨wr, Below.refl _ _⟩⟩
      have zm : (m : Int) < (es.length : Int) := by omega
      refine wp_region_out (by kernel_rfl) (by kernel_rfl) ?_
      repeat (go_big_quiet_step ((go_at_call 71; exact Calls.out_of (compare_any v e _))))
      refine wpQuiet_nil ?_
      rintro wy ⟨⟨wx, hby⟩, rfl⟩
      have hb2 : Below W0.heap.size W0 wy := hb.trans (hby.mono hs)
      clear q0 q1 q2 q3 q4 q5 r0 r1 r2 r3 r4 r5
      by_cases hk : keyCmp v e < 0
      · have HK : Hid (keyCmp v e = -1) := by
          rcases keyCmp_vals v e with h | h | h
          · exact h
          · omega
          · omega
        have HN : Hid (∀ (t : Nat) (x : Ent), t < m + 1 → es[t]? = some x → keyCmp x e = -1) := fun t x ht hx => HM.out t m x v (by omega) hx HV.out HK.out
        go_wp2_with fail
        go_roundw
        case rel => exact ⟨m + 1, hi, by go_num, rfl, by omega, hhi, HN.out, HA.out.2, hb2⟩
        case measure => go_light; simp [intOf]; omega
      · have HN : Hid (∀ (t : Nat) (x : Ent), m ≤ t → es[t]? = some x → ¬ keyCmp x e = -1) := fun t x ht hx q => by
          have := HM.out m t v x ht HV.out hx q
          omega
        go_wp2_with fail
        go_roundw
        case rel => exact ⟨lo, m, rfl, rfl, hm1, by omega, HA.out.1, HN.out, hb2⟩
        case measure => go_light; simp [intOf]; omega
    · obtain rfl : lo = hi := by omega
      have HC : Hid (CutAt es e lo) := ⟨hhi, HA.out.1, HA.out.2⟩
      have hbw : Below w.heap.size w wr := hb0.trans (hb.mono (by omega))
      have zl : ¬ (lo : Int) < (lo : Int) := by omega
      by_cases hn : lo < es.length
      · obtain ⟨v, hv⟩ : ∃ v, es[lo]? = some v := ⟨_, List.getElem?_eq_getElem hn⟩
        have zm : (lo : Int) < (es.length : Int) := by omega
        go_upto_region 8 with fail
        obtain ⟨q0, q1, q2, q3, q4, q5⟩ := ents_out (HE.out.below hb (by omega)) (by omega) hv
        obtain ⟨r0, r1, r2, r3, r4, r5⟩ := ents_out (HX.out.below hb (by omega)) (by omega) (rfl : [e][0]? = some e)
        simp only [Nat.zero_add, Nat.zero_mul] at q0 q1 q2 q3 q4 q5 r0 r1 r2 r3 r4 r5
        clear hv
        have inh : Nonempty (Out wr) := ⟨⟨wr, Below.refl _ _⟩⟩
        refine wp_region_out (by kernel_rfl) (by kernel_rfl) ?_
        repeat (go_big_quiet_step ((go_at_call 71; exact Calls.out_of (compare_any v e _))))
        refine wpQuiet_nil ?_
        rintro wy ⟨⟨wx, hby⟩, rfl⟩
        go_wp2_with fail
        go_ret2
        first | exact ⟨lo, _, rfl, HC.out, hbw.trans (hby.mono (by have := hbw.size; omega))⟩ | exact ⟨lo, ⟨_, rfl⟩, HC.out, hbw.trans (hby.mono (by have := hbw.size; omega))⟩
      · have zm : ¬ (lo : Int) < (es.length : Int) := by omega
        go_upto_region 8 with fail
        have inh : Nonempty (Out wr) := ⟨⟨wr, Below.refl _ _⟩⟩
        refine wp_region_out (by kernel_rfl) (by kernel_rfl) ?_
        repeat (go_big_quiet_step (fail))
        refine wpQuiet_nil ?_
        rintro wy ⟨⟨wx, hby⟩, rfl⟩
        go_wp2_with fail
        go_ret2
        first | exact ⟨lo, _, rfl, HC.out, hbw.trans (hby.mono (by have := hbw.size; omega))⟩ | exact ⟨lo, ⟨_, rfl⟩, HC.out, hbw.trans (hby.mono (by have := hbw.size; omega))⟩

/-- It stands before every valid entry of the row. -/
def lstE (row : ByteArray) : Ent := ⟨row, ⟨#[]⟩, ⟨#[]⟩, 18446744073709551615, 2, ⟨#[]⟩⟩
theorem cB_empty {a : ByteArray} (h : 1 ≤ a.size) : cB a ⟨#[]⟩ = 1 := by
  obtain ⟨⟨l⟩⟩ := a
  cases l with
  | nil => simp [ByteArray.size] at h
  | cons x l => simp [cB, Lib.compareBytes]
theorem cB_less_iff (a b : ByteArray) : Op.bytesLess a.toList b.toList = true ↔ cB a b = -1 := by
  constructor
  · exact cB_less
  · intro h
    cases hl : Op.bytesLess a.toList b.toList
    · cases he : (a.toList == b.toList)
      · have := cB_more hl he
        omega
      · have : a = b := toList_inj (by simpa using he)
        subst this
        have := cB_zero.2 (rfl : a = a)
        omega
    · rfl
theorem least_iff {x : Ent} (hv : x.vld = true) (row : ByteArray) : keyCmp x (lstE row) = -1 ↔ Op.bytesLess x.row.toList row.toList = true := by
  have hf : 1 ≤ x.fam.size := by
    unfold Ent.vld vE at hv
    have := of_decide_eq_true hv
    omega
  rw [cB_less_iff]
  unfold keyCmp lstE firstOf
  simp only [cB_empty hf]
  by_cases h : cB x.row row = 0
  · simp [h]
  · simp [h]
/-- Where a row begins. -/
def RowAt (es : List Ent) (row : ByteArray) (i : Nat) : Prop := i ≤ es.length ∧ ∀ (t : Nat) (x : Ent), es[t]? = some x → (t < i ↔ Op.bytesLess x.row.toList row.toList = true)
theorem rowAt_of {es : List Ent} (hg : GoodR es) {row : ByteArray} {i : Nat} (h : CutAt es (lstE row) i) : RowAt es row i := by
  refine ⟨h.1, fun t x hx => ?_⟩
  have hv := hg.1.2 x (List.mem_of_getElem? hx)
  rw [← least_iff hv]
  constructor
  · intro ht; exact h.2.1 t x ht hx
  · intro hk
    by_cases ht : t < i
    · exact ht
    · exact absurd hk (h.2.2 t x (by omega) hx)

set_option maxHeartbeats 1000000 in
theorem firstAt_core (r : Rm) (row : ByteArray) (w : World) (hr : r.at w) (hg : GoodR r.es) :
    Calls Try.prog 98 #[.agg #[.slice (some ⟨r.b, r.off, none⟩) r.es.length r.cap], .string row] w fun e w' =>
      ∃ i : Nat, e = .returned (.int .i64 i) ∧ RowAt r.es row i ∧ Below w.heap.size w w' := by
  obtain ⟨rb, ro, rc, es⟩ := r
  simp only at *
  obtain ⟨Wa, hWa⟩ : ∃ Wa : World, Wa = w.alloc (Obj.cells #[.slice (some ⟨rb, ro, none⟩) es.length rc] 40) := ⟨_, rfl⟩
  obtain ⟨W0, hW0⟩ : ∃ W0 : World, W0 = Wa.alloc (Obj.cells #[.string row, .string ⟨#[]⟩, .string ⟨#[]⟩, .int .u64 18446744073709551615, .int .i64 2, .string ⟨#[]⟩] 63) := ⟨_, rfl⟩
  have hba : Below w.heap.size w Wa := by rw [hWa]; exact (Below.refl _ _).alloc (Nat.le_refl _) _
  have hza : Wa.heap.size = w.heap.size + 1 := by rw [hWa]; simp
  have hbb : Below Wa.heap.size Wa W0 := by rw [hW0]; exact (Below.refl _ _).alloc (Nat.le_refl _) _
  have HR : Hid (EntsAt W0 rb ro es ∧ rb < W0.heap.size) := ⟨(hr.below hba).ents.below hbb (hr.below hba).lt, ((hr.below hba).below hbb).lt⟩
  have hb0 : Below w.heap.size w W0 := hba.trans (hbb.mono (by omega))
  have hL : es.length ≤ 1048576 := by have := hg.1.1; omega
  have HG : Hid (GoodR es) := hg
  have HM : Hid (∀ (i j : Nat) (x y : Ent), i ≤ j → es[i]? = some x → es[j]? = some y → keyCmp y (lstE row) = -1 → keyCmp x (lstE row) = -1) := by
    intro i j x y hij hx hy hk
    by_cases h : i = j
    · subst h; rw [hx] at hy; simp at hy; subst hy; exact hk
    · exact keyCmp_trans (ord_get (ord_of_good hg) (by omega) hx hy) hk
  clear hr hg
  go_enter Try.func98, Try.ntmps98
  go_wp2_with fail
  rw [← hWa, ← hW0]
  clear hWa hW0
  refine (bsearch_core rb ro rc es (lstE row) _ HR.out.1 HR.out.2 hL HM.out).mono ?_
  rintro e w1 ⟨i, f, rfl, hc, hb1⟩
  have HC : Hid (RowAt es row i) := rowAt_of HG.out hc
  have hbw := hb0.trans (hb1.mono hb0.size)
  clear hc hb1
  go_wp2_with fail
  go_ret
  exact ⟨i, rfl, HC.out, hbw⟩
end Go.Proofs.Ytnncedndlhfdkac

/-
  impl.entriesIn.
-/
namespace Go.Proofs.Ytnncedndlhfdkac
open Go.ChangeShapes Go.WideShapes Go.ChangeAt Go.RowKit Go.Deep
set_option linter.unusedVariables false
set_option linter.unusedSimpArgs false
set_option maxRecDepth 100000

/-- A part of a run. -/
def Rm.part (r : Rm) (i n : Nat) : Rm := ⟨r.b, r.off + i * 6, r.cap - i, (r.es.drop i).take n⟩
theorem Rm.at.part {w : World} {r : Rm} (h : r.at w) {i n : Nat} (hi : i + n ≤ r.es.length) : (r.part i n).at w := by
  refine ⟨?_, h.lt, ?_, ?_⟩
  · intro j e he
    show _ ∧ _
    simp only [Rm.part] at he ⊢
    rw [List.getElem?_take] at he
    by_cases hj : j < n
    · rw [if_pos hj, List.getElem?_drop] at he
      have := h.ents (i + j) e he
      rw [show r.off + (i + j) * 6 = r.off + i * 6 + j * 6 by omega] at this
      exact this
    · rw [if_neg hj] at he; cases he
  · have := h.len
    simp [Rm.part]; omega
  · have := h.cap
    simp only [Rm.part]
    omega
theorem part_len {r : Rm} {i n : Nat} (hi : i + n ≤ r.es.length) : (r.part i n).es.length = n := by simp [Rm.part]; omega
theorem mem_part {r : Rm} {i n : Nat} {x : Ent} : x ∈ (r.part i n).es ↔ ∃ t, i ≤ t ∧ t < i + n ∧ r.es[t]? = some x := by
  constructor
  · intro h
    obtain ⟨j, hj⟩ := List.getElem?_of_mem h
    simp only [Rm.part] at hj
    rw [List.getElem?_take] at hj
    by_cases hn : j < n
    · rw [if_pos hn, List.getElem?_drop] at hj
      exact ⟨i + j, by omega, by omega, hj⟩
    · rw [if_neg hn] at hj; cases hj
  · rintro ⟨t, h1, h2, h3⟩
    refine List.mem_of_getElem? (i := t - i) ?_
    simp only [Rm.part]
    rw [List.getElem?_take, if_pos (by omega), List.getElem?_drop, show i + (t - i) = t by omega]
    exact h3
/-- What of a run lies in a range. -/
structure PartOf (r p : Rm) (lo : ByteArray) (hh : Bool) (hi : ByteArray) : Prop where
  blk : p.b = r.b
  ord : Ord p.es
  mem : ∀ x, x ∈ p.es ↔ x ∈ r.es ∧ inR lo hh hi x.row = true
  len : p.es.length ≤ r.es.length
theorem part_of {r : Rm} (hg : GoodR r.es) {lo hi : ByteArray} {hh : Bool} {i j : Nat} (h1 : RowAt r.es lo i) (h2 : (hh = true → RowAt r.es hi j) ∧ (hh = false → j = r.es.length)) : PartOf r (r.part i (max i j - i)) lo hh hi := by
  refine ⟨rfl, ?_, fun x => ?_, ?_⟩
  · exact ((ord_of_good hg).drop (i := i)).take
  · rw [mem_part]
    constructor
    · rintro ⟨t, a1, a2, a3⟩
      refine ⟨List.mem_of_getElem? a3, ?_⟩
      unfold inR
      have b1 : Op.bytesLess x.row.toList lo.toList = false := by
        cases hb : Op.bytesLess x.row.toList lo.toList
        · rfl
        · have := (h1.2 t x a3).2 hb; omega
      rw [b1]
      cases hh
      · rfl
      · have := (h2.1 rfl).2 t x a3
        rw [this.1 (by omega)]; rfl
    · rintro ⟨hx, hr⟩
      obtain ⟨t, ht⟩ := List.getElem?_of_mem hx
      have hl := (List.getElem?_eq_some_iff.1 ht).1
      unfold inR at hr
      rw [Bool.and_eq_true] at hr
      have c1 : i ≤ t := by
        by_cases q : t < i
        · have := (h1.2 t x ht).1 q
          rw [this] at hr
          simp at hr
        · omega
      have c2 : t < j := by
        cases hh
        · have := h2.2 rfl; omega
        · refine ((h2.1 rfl).2 t x ht).2 ?_
          simpa using hr.2
      exact ⟨t, c1, by omega, ht⟩
  · simp [Rm.part]; omega
/-- Where the part of a run lies. -/
def WhereP (r p : Rm) (lo : ByteArray) : Prop := ∃ i, RowAt r.es lo i ∧ p.off = (if r.cap = i then r.off else r.off + i * 6) ∧ p.cap = r.cap - i

set_option maxHeartbeats 2000000 in
theorem entriesIn_at (r : Rm) (lo hi : ByteArray) (hh : Bool) (w : World) (hr : r.at w) (hg : GoodR r.es) :
    Calls Try.prog 75 #[.agg #[.slice (some ⟨r.b, r.off, none⟩) r.es.length r.cap], .agg #[.string lo, .bool hh, .string hi]] w fun e w' =>
      ∃ p : Rm, e = .returned (.slice (some ⟨p.b, p.off, none⟩) p.es.length p.cap) ∧ p.at w' ∧ PartOf r p lo hh hi ∧ Below w.heap.size w w' ∧ WhereP r p lo := by
  have HR : Hid (r.at w ∧ GoodR r.es) := ⟨hr, hg⟩
  have hL : r.es.length ≤ 1048576 := by have := hg.1.1; omega
  have hcl := hr.len
  have hcm := hr.cap
  unfold maxLen at hcm
  clear hr hg
  obtain ⟨Wa, hWa⟩ : ∃ Wa : World, Wa = w.alloc (Obj.cells #[.slice (some ⟨r.b, r.off, none⟩) r.es.length r.cap] 40) := ⟨_, rfl⟩
  obtain ⟨W0, hW0⟩ : ∃ W0 : World, W0 = Wa.alloc (Obj.cells #[.string lo, .bool hh, .string hi] 31) := ⟨_, rfl⟩
  have hba : Below w.heap.size w Wa := by rw [hWa]; exact (Below.refl _ _).alloc (Nat.le_refl _) _
  have hza : Wa.heap.size = w.heap.size + 1 := by rw [hWa]; simp
  have hbb : Below Wa.heap.size Wa W0 := by rw [hW0]; exact (Below.refl _ _).alloc (Nat.le_refl _) _
  have hz0 : W0.heap.size = w.heap.size + 1 + 1 := by rw [hW0]; simp [hza]
  have hb0 : Below w.heap.size w W0 := hba.trans (hbb.mono (by omega))
  have HC : Hid (∀ wx, Below W0.heap.size W0 wx → wx.cell? ⟨w.heap.size, 0, none⟩ = some (.slice (some ⟨r.b, r.off, none⟩) r.es.length r.cap) ∧ wx.cell? ⟨w.heap.size + 1, 1, none⟩ = some (.bool hh) ∧ wx.cell? ⟨w.heap.size + 1, 2, none⟩ = some (.string hi) ∧ r.at wx) := by
    intro wx hb
    have hat : r.at wx := ((HR.out.1.below hba).below hbb).below hb
    rw [hb.cell (p := ⟨w.heap.size, 0, none⟩) (by show w.heap.size < W0.heap.size; omega), hb.cell (p := ⟨w.heap.size + 1, 1, none⟩) (by show w.heap.size + 1 < W0.heap.size; omega), hb.cell (p := ⟨w.heap.size + 1, 2, none⟩) (by show w.heap.size + 1 < W0.heap.size; omega)]
    refine ⟨?_, ?_, ?_, hat⟩
    · rw [hbb.cell (p := ⟨w.heap.size, 0, none⟩) (by show w.heap.size < Wa.heap.size; omega), hWa]; simp
    · rw [hW0, ← hza]; simp
    · rw [hW0, ← hza]; simp
  have HA0 : Hid (r.at W0) := (HR.out.1.below hba).below hbb
  go_enter Try.func75, Try.ntmps75
  go_wp2_with fail
  rw [← hWa, ← hW0]
  clear hWa hW0
  refine (firstAt_core r lo _ HA0.out HR.out.2).mono ?_
  rintro e w1 ⟨i, rfl, hi1, hb1⟩
  have HI : Hid (RowAt r.es lo i) := hi1
  have hil := hi1.1
  clear hi1
  obtain ⟨c0, c1, c2, hat⟩ := HC.out w1 hb1
  have HA1 : Hid (r.at w1) := hat
  have hs1 := hb1.size
  clear hat
  have fin : ¬ r.cap = i → ∀ (j : Nat) (wx : World), Below W0.heap.size W0 wx → ((hh = true → RowAt r.es hi j) ∧ (hh = false → j = r.es.length)) → ∃ p : Rm, Ending.returned (Value.slice (some ⟨r.b, r.off + i * 6, none⟩) ((max (i : Int) (j : Int)).toNat - i) (r.cap - i)) = .returned (.slice (some ⟨p.b, p.off, none⟩) p.es.length p.cap) ∧ p.at wx ∧ PartOf r p lo hh hi ∧ Below w.heap.size w wx ∧ WhereP r p lo := by
    intro hci j wx hb hj
    have hjl : j ≤ r.es.length := by
      cases hh
      · rw [hj.2 rfl]; exact Nat.le_refl _
      · exact (hj.1 rfl).1
    refine ⟨r.part i (max i j - i), ?_, (HC.out wx hb).2.2.2.part (by omega), part_of HR.out.2 HI.out hj, hb0.trans (hb.mono (by omega)), i, HI.out, ?_, rfl⟩
    rotate_left
    · rw [if_neg hci]; rfl
    rw [part_len (by omega), show (max (i : Int) (j : Int)).toNat - i = max i j - i by omega]; rfl
  have HF : Hid (¬ r.cap = i → ∀ (j : Nat) (wx : World), Below W0.heap.size W0 wx → ((hh = true → RowAt r.es hi j) ∧ (hh = false → j = r.es.length)) → ∃ p : Rm, Ending.returned (Value.slice (some ⟨r.b, r.off + i * 6, none⟩) ((max (i : Int) (j : Int)).toNat - i) (r.cap - i)) = .returned (.slice (some ⟨p.b, p.off, none⟩) p.es.length p.cap) ∧ p.at wx ∧ PartOf r p lo hh hi ∧ Below w.heap.size w wx ∧ WhereP r p lo) := fin
  have fin2 : r.cap = i → ∀ (j : Nat) (wx : World), Below W0.heap.size W0 wx → ((hh = true → RowAt r.es hi j) ∧ (hh = false → j = r.es.length)) → ∃ p : Rm, Ending.returned (Value.slice (some ⟨r.b, r.off, none⟩) ((max (i : Int) (j : Int)).toNat - i) 0) = .returned (.slice (some ⟨p.b, p.off, none⟩) p.es.length p.cap) ∧ p.at wx ∧ PartOf r p lo hh hi ∧ Below w.heap.size w wx ∧ WhereP r p lo := by
    intro hci j wx hb hj
    have hjl : j ≤ r.es.length := by
      cases hh
      · rw [hj.2 rfl]; exact Nat.le_refl _
      · exact (hj.1 rfl).1
    have hp := part_of HR.out.2 HI.out hj
    have hn : (r.part i (max i j - i)).es = [] := List.eq_nil_of_length_eq_zero (by rw [part_len (by omega)]; omega)
    refine ⟨⟨r.b, r.off, 0, []⟩, ?_, ⟨fun j e he => by simp at he, (HC.out wx hb).2.2.2.lt, by simp, by simp [maxLen]⟩, ⟨rfl, List.Pairwise.nil, fun x => ?_, by simp⟩, hb0.trans (hb.mono (by omega)), i, HI.out, by rw [if_pos hci], by show 0 = r.cap - i; omega⟩
    · rw [show (max (i : Int) (j : Int)).toNat - i = 0 by omega]; rfl
    · have := hp.mem x
      rw [hn] at this
      exact this
  have HF2 : Hid (r.cap = i → ∀ (j : Nat) (wx : World), Below W0.heap.size W0 wx → ((hh = true → RowAt r.es hi j) ∧ (hh = false → j = r.es.length)) → ∃ p : Rm, Ending.returned (Value.slice (some ⟨r.b, r.off, none⟩) ((max (i : Int) (j : Int)).toNat - i) 0) = .returned (.slice (some ⟨p.b, p.off, none⟩) p.es.length p.cap) ∧ p.at wx ∧ PartOf r p lo hh hi ∧ Below w.heap.size w wx ∧ WhereP r p lo) := fin2
  clear fin fin2
  cases hh
  · by_cases hci : r.cap = i
    · have HCI : Hid (r.cap = i) := hci
      go_wp2_with fail
      go_ret
      exact HF2.out HCI.out r.es.length w1 hb1 ⟨fun q => by simp at q, fun _ => rfl⟩
    · have HCI : Hid (¬ r.cap = i) := hci
      go_wp2_with fail
      go_ret
      exact HF.out HCI.out r.es.length w1 hb1 ⟨fun q => by simp at q, fun _ => rfl⟩
  · go_wp2_with fail
    refine (firstAt_core r hi _ HA1.out HR.out.2).mono ?_
    rintro e w2 ⟨j, rfl, hj1, hb2⟩
    have hjl := hj1.1
    have HJ : Hid (RowAt r.es hi j) := hj1
    have hb3 := hb1.trans (hb2.mono (by omega))
    clear c0 c1 c2 hj1
    obtain ⟨c0, c1, c2, hat⟩ := HC.out w2 hb3
    clear hat
    by_cases hci : r.cap = i
    · have HCI : Hid (r.cap = i) := hci
      go_wp2_with fail
      go_ret
      exact HF2.out HCI.out j w2 hb3 ⟨fun _ => HJ.out, fun q => by simp at q⟩
    · have HCI : Hid (¬ r.cap = i) := hci
      go_wp2_with fail
      go_ret
      exact HF.out HCI.out j w2 hb3 ⟨fun _ => HJ.out, fun q => by simp at q⟩
theorem entriesIn_core (r : Rm) (lo hi : ByteArray) (hh : Bool) (w : World) (hr : r.at w) (hg : GoodR r.es) :
    Calls Try.prog 75 #[.agg #[.slice (some ⟨r.b, r.off, none⟩) r.es.length r.cap], .agg #[.string lo, .bool hh, .string hi]] w fun e w' =>
      ∃ p : Rm, e = .returned (.slice (some ⟨p.b, p.off, none⟩) p.es.length p.cap) ∧ p.at w' ∧ PartOf r p lo hh hi ∧ Below w.heap.size w w' :=
  (entriesIn_at r lo hi hh w hr hg).mono fun e w' ⟨p, h1, h2, h3, h4, _⟩ => ⟨p, h1, h2, h3, h4⟩
end Go.Proofs.Ytnncedndlhfdkac

/-
  The cursors that are opened, with and without memory.
-/
namespace Go.Proofs.Ytnncedndlhfdkac
open Go.ChangeShapes Go.WideShapes Go.ChangeAt Go.RowKit Go.Deep
set_option linter.unusedVariables false
set_option linter.unusedSimpArgs false
set_option maxRecDepth 100000

/-- The cursors of the first 'k' runs: those that have something in the range. -/
structure OpenTo (l : List Rm) (lo : ByteArray) (hh : Bool) (hi : ByteArray) (k : Nat) (cs : List Cu) : Prop where
  mem : ∀ (a : Nat) (x : Ent), (a < k ∧ (∃ r, l[a]? = some r ∧ x ∈ r.es) ∧ inR lo hh hi x.row = true) ↔ ∃ c ∈ cs, c.age = a ∧ x ∈ c.r.es
  age : ∀ c ∈ cs, c.age < k
  zero : ∀ c ∈ cs, c.pos = 0 ∧ Ord c.r.es
  ages : cs.Pairwise fun a b => a.age ≠ b.age
  blks : cs.Pairwise fun a b => a.blk ≠ b.blk
  sum : sumL (cs.map fl) ≤ 10000 * k
  few : cs.length ≤ k
  src : ∀ c ∈ cs, ∃ r ∈ l, c.r.b = r.b
theorem OpenTo.perm {l : List Rm} {lo hi : ByteArray} {hh : Bool} {k : Nat} {cs ds : List Cu} (h : OpenTo l lo hh hi k cs) (hp : cs.Perm ds) : OpenTo l lo hh hi k ds where
  mem := fun a x => (h.mem a x).trans ⟨fun ⟨c, hc, q⟩ => ⟨c, hp.mem_iff.1 hc, q⟩, fun ⟨c, hc, q⟩ => ⟨c, hp.mem_iff.2 hc, q⟩⟩
  age := fun c hc => h.age c (hp.mem_iff.2 hc)
  zero := fun c hc => h.zero c (hp.mem_iff.2 hc)
  ages := (hp.pairwise_iff (fun h => Ne.symm h)).1 h.ages
  blks := (hp.pairwise_iff (fun h => Ne.symm h)).1 h.blks
  sum := by
    have : sumL (ds.map fl) = sumL (cs.map fl) := (((hp.map fl).map (fun p : Nat × List Ent => p.2.length)).sum_nat).symm
    rw [this]; exact h.sum
  few := by rw [← hp.length_eq]; exact h.few
  src := fun c hc => h.src c (hp.mem_iff.2 hc)
theorem openTo_zero (l : List Rm) (lo hi : ByteArray) (hh : Bool) : OpenTo l lo hh hi 0 [] where
  mem := fun a x => ⟨fun h => by omega, fun ⟨c, hc, _⟩ => by simp at hc⟩
  age := fun c hc => by simp at hc
  zero := fun c hc => by simp at hc
  ages := List.Pairwise.nil
  blks := List.Pairwise.nil
  sum := by simp [sumL]
  few := by simp
  src := fun c hc => by simp at hc
theorem openTo_mem {l : List Rm} {lo hi : ByteArray} {hh : Bool} {k : Nat} {cs : List Cu} {r p : Rm} (h : OpenTo l lo hh hi k cs) (hr : l[k]? = some r) (hp : PartOf r p lo hh hi) (a : Nat) (x : Ent) :
    (a < k + 1 ∧ (∃ r, l[a]? = some r ∧ x ∈ r.es) ∧ inR lo hh hi x.row = true) ↔ (∃ c ∈ cs, c.age = a ∧ x ∈ c.r.es) ∨ (a = k ∧ x ∈ p.es) := by
  rw [← h.mem a x]
  constructor
  · rintro ⟨h1, ⟨r', h2, h3⟩, h4⟩
    by_cases hk : a = k
    · subst hk
      rw [hr] at h2
      simp at h2
      subst h2
      exact .inr ⟨rfl, (hp.mem x).2 ⟨h3, h4⟩⟩
    · exact .inl ⟨by omega, ⟨r', h2, h3⟩, h4⟩
  · rintro (⟨h1, h2, h3⟩ | ⟨rfl, h2⟩)
    · exact ⟨by omega, h2, h3⟩
    · obtain ⟨h3, h4⟩ := (hp.mem x).1 h2
      exact ⟨by omega, ⟨r, hr, h3⟩, h4⟩
theorem openTo_skip {l : List Rm} {lo hi : ByteArray} {hh : Bool} {k : Nat} {cs : List Cu} {r p : Rm} (h : OpenTo l lo hh hi k cs) (hr : l[k]? = some r) (hp : PartOf r p lo hh hi) (h0 : p.es = []) : OpenTo l lo hh hi (k + 1) cs where
  mem := fun a x => (openTo_mem h hr hp a x).trans (by rw [h0]; simp)
  age := fun c hc => by have := h.age c hc; omega
  zero := h.zero
  ages := h.ages
  blks := h.blks
  sum := by have := h.sum; omega
  few := by have := h.few; omega
  src := h.src
theorem openTo_push {l : List Rm} {lo hi : ByteArray} {hh : Bool} {k B : Nat} {cs : List Cu} {r p : Rm} (h : OpenTo l lo hh hi k cs) (hr : l[k]? = some r) (hg : GoodR r.es) (hp : PartOf r p lo hh hi) (hB : ∀ c ∈ cs, c.blk ≠ B) :
    OpenTo l lo hh hi (k + 1) (cs ++ [⟨B, p, 0, k⟩]) where
  mem := fun a x => (openTo_mem h hr hp a x).trans (by
    constructor
    · rintro (⟨c, hc, q⟩ | ⟨rfl, q⟩)
      · exact ⟨c, List.mem_append_left _ hc, q⟩
      · exact ⟨⟨B, p, 0, a⟩, by simp, rfl, q⟩
    · rintro ⟨c, hc, q1, q2⟩
      rcases List.mem_append.1 hc with hc | hc
      · exact .inl ⟨c, hc, q1, q2⟩
      · simp at hc
        subst hc
        exact .inr ⟨q1.symm, q2⟩)
  age := fun c hc => by
    rcases List.mem_append.1 hc with hc | hc
    · have := h.age c hc; omega
    · simp at hc
      subst hc
      show k < k + 1
      omega
  zero := fun c hc => by
    rcases List.mem_append.1 hc with hc | hc
    · exact h.zero c hc
    · simp at hc
      subst hc
      exact ⟨rfl, hp.ord⟩
  ages := List.pairwise_append.2 ⟨h.ages, by simp, fun a ha b hb => by
    simp at hb
    subst hb
    have := h.age a ha
    show a.age ≠ k
    omega⟩
  blks := List.pairwise_append.2 ⟨h.blks, by simp, fun a ha b hb => by
    simp at hb
    subst hb
    exact hB a ha⟩
  sum := by
    have h1 := h.sum
    have h2 := hp.len
    have h3 := hg.1.1
    simp [sumL, fl, Cu.rest] at h1 ⊢
    omega
  few := by have := h.few; simp; omega
  src := fun c hc => by
    rcases List.mem_append.1 hc with hc | hc
    · exact h.src c hc
    · simp at hc
      subst hc
      exact ⟨r, List.mem_of_getElem? hr, hp.blk⟩
/-- What the heap's flow begins with. -/
theorem flow_open {l : List Rm} {lo hi : ByteArray} {hh : Bool} {cs : List Cu} (h : OpenTo l lo hh hi l.length cs) : Flow (fun a x => (∃ j, At (esM l) a j x) ∧ inR lo hh hi x.row = true) (sumL (cs.map fl)) [] (cs.map fl) where
  sorted := List.Pairwise.nil
  ahead := fun p hp => by simp at hp
  all := fun a x => by
    have hm := h.mem a x
    constructor
    · rintro ⟨⟨j, es, h1, h2⟩, h3⟩
      rw [List.getElem?_map] at h1
      cases hl : l[a]? with
      | none => rw [hl] at h1; cases h1
      | some r =>
        rw [hl] at h1
        simp at h1
        subst h1
        obtain ⟨c, hc, q1, q2⟩ := hm.1 ⟨(List.getElem?_eq_some_iff.1 hl).1, ⟨r, hl, List.mem_of_getElem? h2⟩, h3⟩
        refine .inr ⟨fl c, List.mem_map.2 ⟨c, hc, rfl⟩, q1, ?_⟩
        show x ∈ c.r.es.drop c.pos
        rw [(h.zero c hc).1]; exact q2
    · rintro (h1 | ⟨c', hc', q1, q2⟩)
      · simp at h1
      · obtain ⟨c, hc, rfl⟩ := List.mem_map.1 hc'
        have q3 : x ∈ c.r.es.drop c.pos := q2
        rw [(h.zero c hc).1] at q3
        obtain ⟨_, ⟨r, hr, hx⟩, h3⟩ := hm.2 ⟨c, hc, q1, q3⟩
        obtain ⟨j, hj⟩ := List.getElem?_of_mem hx
        exact ⟨⟨j, r.es, by rw [List.getElem?_map, hr]; rfl, hj⟩, h3⟩
  ages := by
    rw [List.pairwise_map]
    exact h.ages
  ord := fun c' hc' => by
    obtain ⟨c, hc, rfl⟩ := List.mem_map.1 hc'
    show Ord (c.r.es.drop c.pos)
    rw [(h.zero c hc).1]; exact (h.zero c hc).2
  count := by simp

/-- The row of cursors, in memory. -/
structure RowOk (w : World) (base g cap : Nat) (d : Array Cu) : Prop where
  row : OwnH w base g cap d
  cur : ∀ c ∈ d, CuAt w c
  low : ∀ c ∈ d, c.r.b < base
  high : ∀ c ∈ d, base ≤ c.blk ∧ ¬ c.blk = g
theorem RowOk.below {w w' : World} {base g cap : Nat} {d : Array Cu} (h : RowOk w base g cap d) (hb : Below w.heap.size w w') : RowOk w' base g cap d :=
  ⟨h.row.below hb h.row.lt.2, fun c hc => (h.cur c hc).below hb, h.low, h.high⟩
theorem HeapW.rowOk {w : World} {hp base g cap : Nat} {d : Array Cu} (h : HeapW w hp base g cap d) : RowOk w base g cap d := ⟨h.row, h.cur, h.low, fun c hc => ⟨(h.high c hc).1, (h.high c hc).2.1⟩⟩

/-- How the opening stands. -/
structure OInv (W : World) (hv : Nat) (l : List Rm) (lo : ByteArray) (hh : Bool) (hi : ByteArray) (k g cp : Nat) (d : Array Cu) (w : World) : Prop where
  below : Below W.heap.size W w
  hdr : w.cell? ⟨hv, 0, none⟩ = some (.slice (some ⟨g, 0, none⟩) d.size cp)
  free : ∀ j, w.frozen? ⟨hv, j, none⟩ = false
  lt : hv < w.heap.size
  own : W.heap.size < hv
  new : W.heap.size < g
  ne : ¬ hv = g
  apart : ∀ c ∈ d, W.heap.size < c.blk ∧ ¬ c.blk = hv
  row : RowOk w W.heap.size g cp d
  opened : OpenTo l lo hh hi k d.toList
  rg0 : w.cell? ⟨W.heap.size, 0, none⟩ = some (.string lo)
  rg1 : w.cell? ⟨W.heap.size, 1, none⟩ = some (.bool hh)
  rg2 : w.cell? ⟨W.heap.size, 2, none⟩ = some (.string hi)
theorem OInv.step {W : World} {hv : Nat} {l : List Rm} {lo hi : ByteArray} {hh : Bool} {k g cp : Nat} {d : Array Cu} {w w' : World} (h : OInv W hv l lo hh hi k g cp d w) (hb : Below w.heap.size w w') : OInv W hv l lo hh hi k g cp d w' where
  below := h.below.trans (hb.mono h.below.size)
  hdr := by rw [hb.cell (p := ⟨hv, 0, none⟩) h.lt]; exact h.hdr
  free := fun j => by rw [hb.frozen (p := ⟨hv, j, none⟩) h.lt]; exact h.free j
  lt := by have := hb.size; have := h.lt; omega
  own := h.own
  new := h.new
  ne := h.ne
  apart := h.apart
  row := h.row.below hb
  opened := h.opened
  rg0 := by rw [hb.cell (p := ⟨W.heap.size, 0, none⟩) (by have := h.own; have := h.lt; show W.heap.size < w.heap.size; omega)]; exact h.rg0
  rg1 := by rw [hb.cell (p := ⟨W.heap.size, 1, none⟩) (by have := h.own; have := h.lt; show W.heap.size < w.heap.size; omega)]; exact h.rg1
  rg2 := by rw [hb.cell (p := ⟨W.heap.size, 2, none⟩) (by have := h.own; have := h.lt; show W.heap.size < w.heap.size; omega)]; exact h.rg2

theorem cu_new (w : World) (p : Rm) (k : Nat) (hp : p.at w) (h0 : 0 < p.es.length) (hs : p.es.length ≤ 1048576) (hk : k ≤ 1048576) :
    CuAt (w.alloc (Obj.cells #[.slice (some ⟨p.b, p.off, none⟩) p.es.length p.cap, .int .i64 0, .int .i64 k] 119)) ⟨w.heap.size, p, 0, k⟩ where
  slice := by simp
  pos := by simp
  age := by simp
  free := fun j => World.ownsRow.frozenAt (World.ownsRow_lit (base := 0) (e := 119) (size := 3) w #[.slice (some ⟨p.b, p.off, none⟩) p.es.length p.cap, .int .i64 0, .int .i64 k] 1 (Nat.zero_le _) (by decide) rfl) j
  lt := by simp
  ents := hp.below ((Below.refl _ _).alloc (Nat.le_refl _) _)
  here := h0
  short := hs
  young := hk

theorem OInv.push {W : World} {hv : Nat} {l : List Rm} {lo hi : ByteArray} {hh : Bool} {k g cp : Nat} {d : Array Cu} {w w3 w4 : World} (h : OInv W hv l lo hh hi k g cp d w) {r p : Rm} (hr : l[k]? = some r) (hg : GoodR r.es) (hrb : r.b < W.heap.size) (hp : PartOf r p lo hh hi) (hat : p.at w) (h0 : 0 < p.es.length) (hk : k ≤ 1048576)
    (hb3 : Below (w.heap.size + 1) (w.alloc (Obj.cells #[.slice (some ⟨p.b, p.off, none⟩) p.es.length p.cap, .int .i64 0, .int .i64 k] 119)) w3) {g' cp' : Nat} (hO : OwnH w4 W.heap.size g' cp' (d.push ⟨w.heap.size, p, 0, k⟩)) (hgr : w3.grownBy w4 (some g)) (hgg : g = g' ∨ g' = w3.heap.size) :
    OInv W hv l lo hh hi (k + 1) g' cp' (d.push ⟨w.heap.size, p, 0, k⟩) (w4.setCell ⟨hv, 0, none⟩ (.slice (some ⟨g', 0, none⟩) (d.size + 1) cp')) := by
  have hbA : Below w.heap.size w (w.alloc (Obj.cells #[.slice (some ⟨p.b, p.off, none⟩) p.es.length p.cap, .int .i64 0, .int .i64 k] 119)) := (Below.refl _ _).alloc (Nat.le_refl _) _
  have hzA : (w.alloc (Obj.cells #[.slice (some ⟨p.b, p.off, none⟩) p.es.length p.cap, .int .i64 0, .int .i64 k] 119)).heap.size = w.heap.size + 1 := by simp
  have hnew := cu_new w p k hat h0 (by have := hp.len; have := hg.1.1; omega) hk
  generalize w.alloc (Obj.cells #[.slice (some ⟨p.b, p.off, none⟩) p.es.length p.cap, .int .i64 0, .int .i64 k] 119) = wA at *
  rw [← hzA] at hb3
  have hs3 := hb3.size
  have hs4 := hgr.size
  have hlt := h.lt
  have hown := h.own
  have hgl := h.row.row.lt
  have hne' : ¬ hv = g' := by
    rcases hgg with q | q
    · rw [← q]; exact h.ne
    · omega
  have h3 : OInv W hv l lo hh hi k g cp d w3 := (h.step hbA).step hb3
  have hC4 : Chg (fun k => k = g) w3 w4 := Chg.of_grown hgr (fun k hk => by cases hk; rfl)
  have hC5 : Chg (fun k => k = hv) w4 (w4.setCell ⟨hv, 0, none⟩ (.slice (some ⟨g', 0, none⟩) (d.size + 1) cp')) := Chg.of_set _ _ _ _ rfl
  have hs5 := hC5.size
  have c4 : w4.cell? ⟨hv, 0, none⟩ = some (.slice (some ⟨g, 0, none⟩) d.size cp) := by rw [hC4.cell (p := ⟨hv, 0, none⟩) h3.lt h.ne]; exact h3.hdr
  have hmem : ∀ c ∈ d.push ⟨w.heap.size, p, 0, k⟩, c ∈ d ∨ c = ⟨w.heap.size, p, 0, k⟩ := fun c hc => by simpa using hc
  have hcu : ∀ c ∈ d.push ⟨w.heap.size, p, 0, k⟩, CuAt w3 c ∧ ¬ c.blk = g ∧ ¬ c.blk = hv ∧ c.r.b < W.heap.size ∧ W.heap.size < c.blk ∧ c.blk < w3.heap.size := fun c hc => by
    rcases hmem c hc with hc | rfl
    · have q := h3.row.cur c hc
      exact ⟨q, (h.row.high c hc).2, (h.apart c hc).2, h.row.low c hc, (h.apart c hc).1, q.lt⟩
    · have q := hnew.below hb3
      refine ⟨q, ?_, ?_, ?_, ?_, q.lt⟩
      · show ¬ w.heap.size = g; omega
      · show ¬ w.heap.size = hv; omega
      · show p.b < W.heap.size
        rw [hp.blk]; exact hrb
      · show W.heap.size < w.heap.size; omega
  have hbig := h3.below.size
  exact {
    below := (Chg.below (Chg.below h3.below hC4 h3.below.size (fun k q => by omega)) hC5 (by omega) (fun k q => by omega))
    hdr := by rw [World.cell?_setCell_same _ _ _ c4]; simp
    free := fun j => by
      rw [World.frozen?_setCell, hC4.frozen (p := ⟨hv, j, none⟩) h3.lt h.ne]; exact h3.free j
    lt := by omega
    own := h.own
    new := by
      rcases hgg with q | q
      · rw [← q]; exact h.new
      · omega
    ne := hne'
    apart := fun c hc => ⟨(hcu c hc).2.2.2.2.1, (hcu c hc).2.2.1⟩
    row := {
      row := World.ownsRow.kept hO (grown_set w4 hv 0 _) (.inr (fun q => hne' (Option.some.inj q).symm))
      cur := fun c hc => by
        obtain ⟨q1, q2, q3, q4, q5, q6⟩ := hcu c hc
        exact (q1.chg hC4 q2 (by omega)).chg hC5 q3 (by omega)
      low := fun c hc => (hcu c hc).2.2.2.1
      high := fun c hc => by
        obtain ⟨q1, q2, q3, q4, q5, q6⟩ := hcu c hc
        refine ⟨by omega, ?_⟩
        rcases hgg with q | q
        · rw [← q]; exact q2
        · omega }
    opened := by
      have := openTo_push (B := w.heap.size) h.opened hr hg hp (fun c hc => by
        have := (h.row.cur c (by simpa using hc)).lt
        omega)
      simpa using this
    rg0 := by
      have hx : W.heap.size < w3.heap.size := by omega
      rw [hC5.cell (p := ⟨W.heap.size, 0, none⟩) (by show W.heap.size < w4.heap.size; omega) (by show ¬ W.heap.size = hv; omega), hC4.cell (p := ⟨W.heap.size, 0, none⟩) hx (by have := h.new; show ¬ W.heap.size = g; omega)]
      exact h3.rg0
    rg1 := by
      have hx : W.heap.size < w3.heap.size := by omega
      rw [hC5.cell (p := ⟨W.heap.size, 1, none⟩) (by show W.heap.size < w4.heap.size; omega) (by show ¬ W.heap.size = hv; omega), hC4.cell (p := ⟨W.heap.size, 1, none⟩) hx (by have := h.new; show ¬ W.heap.size = g; omega)]
      exact h3.rg1
    rg2 := by
      have hx : W.heap.size < w3.heap.size := by omega
      rw [hC5.cell (p := ⟨W.heap.size, 2, none⟩) (by show W.heap.size < w4.heap.size; omega) (by show ¬ W.heap.size = hv; omega), hC4.cell (p := ⟨W.heap.size, 2, none⟩) hx (by have := h.new; show ¬ W.heap.size = g; omega)]
      exact h3.rg2 }
end Go.Proofs.Ytnncedndlhfdkac

