import Derived.Deep.RegionHeld3
import Derived.Test.YtjphalbjimggcaePkAN
import Derived.Test.YtjphalbjimggcaePkAJ
import Derived.Test.YtjphalbjimggcaePkAG
/-
  A cursor in memory: its entry, its age, its move.
-/
namespace Go.Proofs.Ytjphalbjimggcae
open Go.ChangeShapes Go.WideShapes Go.ChangeAt Go.RowKit Go.Deep
set_option linter.unusedVariables false
set_option linter.unusedSimpArgs false

structure CuAt (w : World) (c : Cu) : Prop where
  slice : w.cell? ⟨c.blk, 0, none⟩ = some (.slice (some ⟨c.r.b, c.r.off, none⟩) c.r.es.length c.r.cap)
  pos : w.cell? ⟨c.blk, 1, none⟩ = some (.int .i64 c.pos)
  age : w.cell? ⟨c.blk, 2, none⟩ = some (.int .i64 c.age)
  free : ∀ j, w.frozen? ⟨c.blk, j, none⟩ = false
  lt : c.blk < w.heap.size
  ents : c.r.at w
  here : c.pos < c.r.es.length
  short : c.r.es.length ≤ 1048576
  young : c.age ≤ 1048576
theorem CuAt.below {w w' : World} {c : Cu} (h : CuAt w c) (hb : Below w.heap.size w w') : CuAt w' c where
  slice := by rw [hb.cell (p := ⟨c.blk, 0, none⟩) h.lt]; exact h.slice
  pos := by rw [hb.cell (p := ⟨c.blk, 1, none⟩) h.lt]; exact h.pos
  age := by rw [hb.cell (p := ⟨c.blk, 2, none⟩) h.lt]; exact h.age
  free := fun j => by rw [hb.frozen (p := ⟨c.blk, j, none⟩) h.lt]; exact h.free j
  lt := by have := hb.size; have := h.lt; omega
  ents := h.ents.below hb
  here := h.here
  short := h.short
  young := h.young

set_option maxHeartbeats 1000000 in
theorem entry_core (c : Cu) (w : World) (h : CuAt w c) :
    Calls Try.prog 161 #[.pointer (some ⟨c.blk, 0, none⟩)] w fun e w' => e = .returned c.head.v ∧ Below w.heap.size w w' := by
  obtain ⟨c0, c1, c2, c3, c4, c5⟩ := h.ents.ents c.pos c.head (Cu.head_get h.here)
  have hs := h.slice
  have hp := h.pos
  have hl := h.lt
  have hr := h.ents.lt
  have hh := h.here
  have z1 : (0 : Int) ≤ (c.pos : Int) := by omega
  have z2 : (c.pos : Int) < (c.r.es.length : Int) := by omega
  have n1 := World.new_ne w _ hs
  have n2 := World.new_ne w _ hp
  have n3 := World.new_ne w _ c0
  simp only at n1 n2 n3
  clear h
  unfold Ent.v
  generalize c.head = e at *
  obtain ⟨blk, ⟨rb, ro, rc, es⟩, pos, age⟩ := c
  simp only at *
  go_enter Try.func161, Try.ntmps161
  go_upto_region 1 with fail
  go_region_held3 (fun w' => w'.cell? ⟨blk, 0, none⟩ = some (.slice (some ⟨rb, ro, none⟩) es.length rc) ∧ w'.cell? ⟨blk, 1, none⟩ = some (.int .i64 pos) ∧ w'.cell? ⟨rb, ro + pos * 6, none⟩ = some (.string e.row) ∧ w'.cell? ⟨rb, ro + pos * 6 + 1, none⟩ = some (.string e.fam) ∧ w'.cell? ⟨rb, ro + pos * 6 + 2, none⟩ = some (.string e.qual) ∧
    w'.cell? ⟨rb, ro + pos * 6 + 3, none⟩ = some (.int .u64 e.ts) ∧ w'.cell? ⟨rb, ro + pos * 6 + 4, none⟩ = some (.int .i64 e.kind) ∧ w'.cell? ⟨rb, ro + pos * 6 + 5, none⟩ = some (.string e.val)) (go_keep) (fail)
  go_wp2
  refine bodyPost_ret (v := .agg #[.string e.row, .string e.fam, .string e.qual, .int .u64 e.ts, .int .i64 e.kind, .string e.val]) (by simp [results, Try.results161, go_sem]) rfl ⟨rfl, ?_⟩
  exact ((Below.refl _ _).alloc (Nat.le_refl _) _).drew

set_option maxHeartbeats 400000 in
theorem age_core (c : Cu) (w : World) (h : CuAt w c) :
    Calls Try.prog 160 #[.pointer (some ⟨c.blk, 0, none⟩)] w fun e w' => e = .returned (.int .i64 c.age) ∧ Below w.heap.size w w' := by
  have ha := h.age
  go_enter Try.func160, Try.ntmps160
  go_wp2
  go_ret
  exact ⟨rfl, Below.refl _ _⟩

theorem CuAt.chg {S : Nat → Prop} {w w' : World} {c : Cu} (h : CuAt w c) (hb : Chg S w w') (h1 : ¬ S c.blk) (h2 : ¬ S c.r.b) : CuAt w' c where
  slice := by rw [hb.cell (p := ⟨c.blk, 0, none⟩) h.lt h1]; exact h.slice
  pos := by rw [hb.cell (p := ⟨c.blk, 1, none⟩) h.lt h1]; exact h.pos
  age := by rw [hb.cell (p := ⟨c.blk, 2, none⟩) h.lt h1]; exact h.age
  free := fun j => by rw [hb.frozen (p := ⟨c.blk, j, none⟩) h.lt h1]; exact h.free j
  lt := by have := hb.size; have := h.lt; omega
  ents := h.ents.chg hb h2
  here := h.here
  short := h.short
  young := h.young

/-- The cursor, one further. -/
def Cu.on (c : Cu) : Cu := { c with pos := c.pos + 1 }
theorem CuAt.on {w : World} {c : Cu} (h : CuAt w c) (hb : ¬ c.r.b = c.blk) (hn : c.pos + 1 < c.r.es.length) : CuAt (w.setCell ⟨c.blk, 1, none⟩ (.int .i64 (c.pos + 1 : Nat))) c.on := by
  have hg : Chg (fun k => k = c.blk) w (w.setCell ⟨c.blk, 1, none⟩ (.int .i64 (c.pos + 1 : Nat))) := Chg.of_set w c.blk 1 _ rfl
  exact {
    slice := by
      show World.cell? _ ⟨c.blk, 0, none⟩ = _
      rw [World.cell?_setCell_other _ _ _ _ (by simp)]; exact h.slice
    pos := World.cell?_setCell_same _ _ _ h.pos
    age := by
      show World.cell? _ ⟨c.blk, 2, none⟩ = _
      rw [World.cell?_setCell_other _ _ _ _ (by simp)]; exact h.age
    free := fun j => by
      show World.frozen? _ ⟨c.blk, j, none⟩ = _
      rw [World.frozen?_setCell]; exact h.free j
    lt := by have := hg.size; have := h.lt; show c.blk < _; omega
    ents := h.ents.chg hg hb
    here := hn
    short := h.short
    young := h.young }

set_option maxHeartbeats 1000000 in
theorem advance_more (c : Cu) (w : World) (h : CuAt w c) (hn : c.pos + 1 < c.r.es.length) :
    Calls Try.prog 159 #[.pointer (some ⟨c.blk, 0, none⟩)] w fun e w' =>
      e = .returned (.bool true) ∧ ∃ w1, Below w.heap.size w w1 ∧ w' = w1.setCell ⟨c.blk, 1, none⟩ (.int .i64 (c.pos + 1 : Nat)) := by
  have hs := h.slice
  have hp := h.pos
  have hh := h.here
  have hq := h.short
  have hf := h.free 1
  clear h
  obtain ⟨blk, ⟨rb, ro, rc, es⟩, pos, age⟩ := c
  simp only at *
  have z : ¬ ((es.length : Int) ≤ (pos : Int) + 1) := by omega
  go_enter Try.func159, Try.ntmps159
  go_upto_region 1 with fail
  go_quiet (fail)
  go_wp2
  go_ret
  exact ⟨rfl, _, below_drewN (Below.refl _ _) _, rfl⟩
set_option maxHeartbeats 1000000 in
theorem advance_last (c : Cu) (w : World) (h : CuAt w c) (hn : ¬ c.pos + 1 < c.r.es.length) :
    Calls Try.prog 159 #[.pointer (some ⟨c.blk, 0, none⟩)] w fun e w' => e = .returned (.bool false) ∧ Below w.heap.size w w' := by
  have hs := h.slice
  have hp := h.pos
  have hh := h.here
  have hq := h.short
  clear h
  obtain ⟨blk, ⟨rb, ro, rc, es⟩, pos, age⟩ := c
  simp only at *
  have z : (es.length : Int) ≤ (pos : Int) + 1 := by omega
  go_enter Try.func159, Try.ntmps159
  go_upto_region 1 with fail
  go_quiet (fail)
  go_wp2
  go_ret
  exact ⟨rfl, below_drewN (Below.refl _ _) _⟩
end Go.Proofs.Ytjphalbjimggcae

/-
  The heap of cursors in memory: its order, its exchange.
-/
namespace Go.Proofs.Ytjphalbjimggcae
open Go.ChangeShapes Go.WideShapes Go.ChangeAt Go.RowKit Go.Deep
set_option linter.unusedVariables false
set_option linter.unusedSimpArgs false
set_option maxRecDepth 100000

abbrev ifc (c : Cu) : Value := .iface 124 (.pointer (some ⟨c.blk, 0, none⟩))
def OwnH (w : World) (base g cap : Nat) (d : Array Cu) : Prop := w.ownsRow base 95 1 (.slice (some ⟨g, 0, none⟩) d.size cap) d.size (d.toList.map ifc)
theorem OwnH.lt {w : World} {base g cap : Nat} {d : Array Cu} (h : OwnH w base g cap d) : base ≤ g ∧ g < w.heap.size := World.ownsRow.lt h g rfl
theorem OwnH.cell {w : World} {base g cap : Nat} {d : Array Cu} (h : OwnH w base g cap d) {i : Nat} (hi : i < d.size) : w.cell? ⟨g, i, none⟩ = some (ifc d[i]!) := by
  have := World.ownsRow.cellAt h i (by omega)
  rw [this, List.getElem?_map]
  simp [hi]
theorem OwnH.below {B : Nat} {w w' : World} {base g cap : Nat} {d : Array Cu} (h : OwnH w base g cap d) (hb : Below B w w') (hg : g < B) : OwnH w' base g cap d := by
  refine ⟨h.1, ?_⟩
  rcases h.2 with hn | ⟨g', cap', cur, hv, h1, h2, rest⟩
  · exact .inl hn
  · simp only [Value.slice.injEq, Option.some.injEq, Addr.mk.injEq, and_true, true_and] at hv
    obtain ⟨rfl, rfl⟩ := hv
    exact .inr ⟨g, cap, cur, rfl, h1, by rw [hb.block g hg]; exact h2, rest⟩

theorem Out.entry {w : World} {c : Cu} (h : CuAt w c) (n : Out w) : Calls Try.prog 161 #[.pointer (some ⟨c.blk, 0, none⟩)] n.u fun e w'' => e = .returned c.head.v ∧ ∃ m : Out w, w'' = m.u :=
  Calls.out_of (entry_core c n.u (h.below n.out))
theorem Out.age {w : World} {c : Cu} (h : CuAt w c) (n : Out w) : Calls Try.prog 160 #[.pointer (some ⟨c.blk, 0, none⟩)] n.u fun e w'' => e = .returned (.int .i64 c.age) ∧ ∃ m : Out w, w'' = m.u :=
  Calls.out_of (age_core c n.u (h.below n.out))
theorem meth_age (a : Addr) (w : World) : (method 337 124 (.pointer (some a)) "loop.example/s01854/impl.age").run Try.prog w = .ok (160, .pointer (some a)) w := by kernel_rfl
theorem meth_entry (a : Addr) (w : World) : (method 337 124 (.pointer (some a)) "loop.example/s01854/impl.entry").run Try.prog w = .ok (161, .pointer (some a)) w := by kernel_rfl

set_option maxHeartbeats 2000000 in
theorem less_core (base g cap : Nat) (d : Array Cu) (i j : Nat) (w : World) (hO : OwnH w base g cap d) (hC : ∀ c ∈ d, CuAt w c) (hi : i < d.size) (hj : j < d.size) :
    Calls Try.prog 157 #[.slice (some ⟨g, 0, none⟩) d.size cap, .int .i64 i, .int .i64 j] w fun e w' => e = .returned (.bool (lessC d[i]! d[j]!)) ∧ Below w.heap.size w w' := by
  have hg := hO.lt.2
  have HO : Hid (OwnH w base g cap d) := hO
  have HI : Hid (CuAt w d[i]!) := hC _ (by rw [getElem!_pos d i hi]; simp)
  have HJ : Hid (CuAt w d[j]!) := hC _ (by rw [getElem!_pos d j hj]; simp)
  have c1 : ∀ n : Out w, n.u.cell? ⟨g, i, none⟩ = some (ifc d[i]!) := fun n => (HO.out.below n.out hg).cell hi
  have c2 : ∀ n : Out w, n.u.cell? ⟨g, j, none⟩ = some (ifc d[j]!) := fun n => (HO.out.below n.out hg).cell hj
  clear hO hC
  obtain ⟨a, hai⟩ : ∃ a, Hid (d[i]! = a) := ⟨_, rfl⟩
  obtain ⟨b, hbj⟩ : ∃ b, Hid (d[j]! = b) := ⟨_, rfl⟩
  rw [hai.out] at HI c1 ⊢
  rw [hbj.out] at HJ c2 ⊢
  have z1 : (i : Int) < (d.size : Int) := by omega
  have z2 : (j : Int) < (d.size : Int) := by omega
  have inh : Nonempty (Out w) := ⟨⟨w, Below.refl _ _⟩⟩
  go_enter Try.func157, Try.ntmps157
  go_upto_region 1 with fail
  refine wp_region_out (by kernel_rfl) (by kernel_rfl) ?_
  have mE := meth_entry
  have mA := meth_age
  repeat (go_big_quiet_step ((first | (go_at_call 161; refine Out.entry ?_ _; first | exact HI.out | exact HJ.out) | (go_at_call 54; exact Calls.out_of (compare_any _ _ _)))))
  refine wpQuiet_nil ?_
  rintro wy ⟨⟨wx, hby⟩, rfl⟩
  have HI2 : Hid (CuAt wy a) := HI.out.below hby
  have HJ2 : Hid (CuAt wy b) := HJ.out.below hby
  have hsz := hby.size
  clear c1 c2
  by_cases hk : keyCmp a.head b.head = 0
  · have hl : lessC a b = decide (a.age < b.age) := by unfold lessC; rw [if_pos hk]
    have c1 : ∀ n : Out wy, n.u.cell? ⟨g, i, none⟩ = some (ifc d[i]!) := fun n => ((HO.out.below hby hg).below n.out (by omega)).cell hi
    have c2 : ∀ n : Out wy, n.u.cell? ⟨g, j, none⟩ = some (ifc d[j]!) := fun n => ((HO.out.below hby hg).below n.out (by omega)).cell hj
    rw [hai.out] at c1
    rw [hbj.out] at c2
    rw [hk]
    have inh2 : Nonempty (Out wy) := ⟨⟨wy, Below.refl _ _⟩⟩
    go_upto_region 4 with fail
    refine wp_region_out (by kernel_rfl) (by kernel_rfl) ?_
    repeat (go_big_quiet_step ((go_at_call 160; refine Out.age ?_ _; first | exact HI2.out | exact HJ2.out)))
    refine wpQuiet_nil ?_
    rintro wz ⟨⟨wv, hbz⟩, rfl⟩
    go_wp2_with fail
    go_ret
    exact ⟨by rw [hl]; simp, hby.trans (hbz.mono hsz)⟩
  · have hl : lessC a b = decide (keyCmp a.head b.head < 0) := by unfold lessC; rw [if_neg hk]
    go_wp2_with fail
    go_ret
    exact ⟨by rw [hl]; simp, hby⟩

theorem cell?_setCell_some {w : World} {p q : Addr} {x v : Value} (h : w.cell? q = some v) : ∃ v', (w.setCell p x).cell? q = some v' := by
  by_cases e : p = q
  · subst e; exact ⟨x, World.cell?_setCell_same w p x h⟩
  · exact ⟨v, (World.cell?_setCell_other w p q x e).trans h⟩

set_option maxHeartbeats 2000000 in
theorem swap_cells (g cap n i j : Nat) (x y : Value) (w : World) (hx : x.oneCell' = true) (hy : y.oneCell' = true) (hi : i < n) (hj : j < n) (ci : w.cell? ⟨g, i, none⟩ = some (.iface 124 x)) (cj : w.cell? ⟨g, j, none⟩ = some (.iface 124 y))
    (fi : w.frozen? ⟨g, i, none⟩ = false) (fj : w.frozen? ⟨g, j, none⟩ = false) :
    Calls Try.prog 158 #[.slice (some ⟨g, 0, none⟩) n cap, .int .i64 i, .int .i64 j] w fun e w' =>
      e = .returned (.tuple #[]) ∧ ∃ q, w' = ((w.setCell ⟨g, i, none⟩ (.iface 124 y)).setCell ⟨g, j, none⟩ (.iface 124 x)).drewN q := by
  obtain ⟨v', hy'⟩ := cell?_setCell_some (w := w) (p := ⟨g, i, none⟩) (x := .iface 124 y) (q := ⟨g, j, none⟩) cj
  have z1 : (i : Int) < (n : Int) := by omega
  have z2 : (j : Int) < (n : Int) := by omega
  go_enter Try.func158, Try.ntmps158
  go_wp2
  go_region
  all_goals (try go_wp2)
  all_goals go_end0
  all_goals exact ⟨rfl, 1, rfl⟩

theorem meth_len0 (a : Addr) (w : World) : (method 337 128 (.pointer (some a)) "Len").run Try.prog w = ((do let v ← loadVar 90 a; pure (43, v)) : Sem (FuncId × Value)).run Try.prog w := by kernel_rfl
end Go.Proofs.Ytjphalbjimggcae

