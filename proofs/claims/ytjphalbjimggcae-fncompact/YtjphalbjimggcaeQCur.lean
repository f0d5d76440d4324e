/-
  A cursor in memory: its entry, its age, its move.
-/
import Derived.Test.YtjphalbjimggcaeQHeapM
import Derived.Deep.RegionHeld3
import Derived.Test.YtjphalbjimggcaeQRmC
namespace Go.Proofs.Ytjphalbjimggcae
open Go.ChangeShapes Go.WideShapes Go.ChangeAt Go.RowKit Go.Deep
set_option linter.unusedVariables false
set_option linter.unusedSimpArgs false

structure CuAt (w : World) (c : Cu) : Prop where
  slice : w.cell? ⟨c.blk, 0, none⟩ = some (.slice (some ⟨c.r.b, c.r.off, none⟩) c.r.es.length c.r.cap)
  pos : w.cell? ⟨c.blk, 1, none⟩ = some (.int .i64 c.pos)
  age : w.cell? ⟨c.blk, 2, none⟩ = some (.int .i64 c.age)
  free : ∀ j, w.frozen? ⟨c.blk, j, none⟩ = false
  lt : c.blk < w.heap.size
  ents : c.r.at w
  here : c.pos < c.r.es.length
  short : c.r.es.length ≤ 1048576
  young : c.age ≤ 1048576
theorem CuAt.below {w w' : World} {c : Cu} (h : CuAt w c) (hb : Below w.heap.size w w') : CuAt w' c where
  slice := by rw [hb.cell (p := ⟨c.blk, 0, none⟩) h.lt]; exact h.slice
  pos := by rw [hb.cell (p := ⟨c.blk, 1, none⟩) h.lt]; exact h.pos
  age := by rw [hb.cell (p := ⟨c.blk, 2, none⟩) h.lt]; exact h.age
  free := fun j => by rw [hb.frozen (p := ⟨c.blk, j, none⟩) h.lt]; exact h.free j
  lt := by have := hb.size; have := h.lt; omega
  ents := h.ents.below hb
  here := h.here
  short := h.short
  young := h.young

set_option maxHeartbeats 1000000 in
theorem entry_core (c : Cu) (w : World) (h : CuAt w c) :
    Calls Try.prog 161 #[.pointer (some ⟨c.blk, 0, none⟩)] w fun e w' => e = .returned c.head.v ∧ Below w.heap.size w w' := by
  obtain ⟨c0, c1, c2, c3, c4, c5⟩ := h.ents.ents c.pos c.head (Cu.head_get h.here)
  have hs := h.slice
  have hp := h.pos
  have hl := h.lt
  have hr := h.ents.lt
  have hh := h.here
  have z1 : (0 : Int) ≤ (c.pos : Int) := by omega
  have z2 : (c.pos : Int) < (c.r.es.length : Int) := by omega
  have n1 := World.new_ne w _ hs
  have n2 := World.new_ne w _ hp
  have n3 := World.new_ne w _ c0
  simp only at n1 n2 n3
  clear h
  unfold Ent.v
  generalize c.head = e at *
  obtain ⟨blk, ⟨rb, ro, rc, es⟩, pos, age⟩ := c
  simp only at *
  go_enter Try.func161, Try.ntmps161
  go_upto_region 1 with fail
  go_region_held3 (fun w' => w'.cell? ⟨blk, 0, none⟩ = some (.slice (some ⟨rb, ro, none⟩) es.length rc) ∧ w'.cell? ⟨blk, 1, none⟩ = some (.int .i64 pos) ∧ w'.cell? ⟨rb, ro + pos * 6, none⟩ = some (.string e.row) ∧ w'.cell? ⟨rb, ro + pos * 6 + 1, none⟩ = some (.string e.fam) ∧ w'.cell? ⟨rb, ro + pos * 6 + 2, none⟩ = some (.string e.qual) ∧
    w'.cell? ⟨rb, ro + pos * 6 + 3, none⟩ = some (.int .u64 e.ts) ∧ w'.cell? ⟨rb, ro + pos * 6 + 4, none⟩ = some (.int .i64 e.kind) ∧ w'.cell? ⟨rb, ro + pos * 6 + 5, none⟩ = some (.string e.val)) (go_keep) (fail)
  go_wp2
  refine bodyPost_ret (v := .agg #[.string e.row, .string e.fam, .string e.qual, .int .u64 e.ts, .int .i64 e.kind, .string e.val]) (by simp [results, Try.results161, go_sem]) rfl ⟨rfl, ?_⟩
  exact ((Below.refl _ _).alloc (Nat.le_refl _) _).drew

set_option maxHeartbeats 400000 in
theorem age_core (c : Cu) (w : World) (h : CuAt w c) :
    Calls Try.prog 160 #[.pointer (some ⟨c.blk, 0, none⟩)] w fun e w' => e = .returned (.int .i64 c.age) ∧ Below w.heap.size w w' := by
  have ha := h.age
  go_enter Try.func160, Try.ntmps160
  go_wp2
  go_ret
  exact ⟨rfl, Below.refl _ _⟩

theorem CuAt.chg {S : Nat → Prop} {w w' : World} {c : Cu} (h : CuAt w c) (hb : Chg S w w') (h1 : ¬ S c.blk) (h2 : ¬ S c.r.b) : CuAt w' c where
  slice := by rw [hb.cell (p := ⟨c.blk, 0, none⟩) h.lt h1]; exact h.slice
  pos := by rw [hb.cell (p := ⟨c.blk, 1, none⟩) h.lt h1]; exact h.pos
  age := by rw [hb.cell (p := ⟨c.blk, 2, none⟩) h.lt h1]; exact h.age
  free := fun j => by rw [hb.frozen (p := ⟨c.blk, j, none⟩) h.lt h1]; exact h.free j
  lt := by have := hb.size; have := h.lt; omega
  ents := h.ents.chg hb h2
  here := h.here
  short := h.short
  young := h.young

/-- The cursor, one further. -/
def Cu.on (c : Cu) : Cu := { c with pos := c.pos + 1 }
theorem CuAt.on {w : World} {c : Cu} (h : CuAt w c) (hb : ¬ c.r.b = c.blk) (hn : c.pos + 1 < c.r.es.length) : CuAt (w.setCell ⟨c.blk, 1, none⟩ (.int .i64 (c.pos + 1 : Nat))) c.on := by
  have hg : Chg (fun k => k = c.blk) w (w.setCell ⟨c.blk, 1, none⟩ (.int .i64 (c.pos + 1 : Nat))) := Chg.of_set w c.blk 1 _ rfl
  exact {
    slice := by
      show World.cell? _ ⟨c.blk, 0, none⟩ = _
      rw [World.cell?_setCell_other _ _ _ _ (by simp)]; exact h.slice
    pos := World.cell?_setCell_same _ _ _ h.pos
    age := by
      show World.cell? _ ⟨c.blk, 2, none⟩ = _
      rw [World.cell?_setCell_other _ _ _ _ (by simp)]; exact h.age
    free := fun j => by
      show World.frozen? _ ⟨c.blk, j, none⟩ = _
      rw [World.frozen?_setCell]; exact h.free j
    lt := by have := hg.size; have := h.lt; show c.blk < _; omega
    ents := h.ents.chg hg hb
    here := hn
    short := h.short
    young := h.young }

set_option maxHeartbeats 1000000 in
theorem advance_more (c : Cu) (w : World) (h : CuAt w c) (hn : c.pos + 1 < c.r.es.length) :
    Calls Try.prog 159 #[.pointer (some ⟨c.blk, 0, none⟩)] w fun e w' =>
      e = .returned (.bool true) ∧ ∃ w1, Below w.heap.size w w1 ∧ w' = w1.setCell ⟨c.blk, 1, none⟩ (.int .i64 (c.pos + 1 : Nat)) := by
  have hs := h.slice
  have hp := h.pos
  have hh := h.here
  have hq := h.short
  have hf := h.free 1
  clear h
  obtain ⟨blk, ⟨rb, ro, rc, es⟩, pos, age⟩ := c
  simp only at *
  have z : ¬ ((es.length : Int) ≤ (pos : Int) + 1) := by omega
  go_enter Try.func159, Try.ntmps159
  go_upto_region 1 with fail
  go_quiet (fail)
  go_wp2
  go_ret
  exact ⟨rfl, _, below_drewN (Below.refl _ _) _, rfl⟩
set_option maxHeartbeats 1000000 in
theorem advance_last (c : Cu) (w : World) (h : CuAt w c) (hn : ¬ c.pos + 1 < c.r.es.length) :
    Calls Try.prog 159 #[.pointer (some ⟨c.blk, 0, none⟩)] w fun e w' => e = .returned (.bool false) ∧ Below w.heap.size w w' := by
  have hs := h.slice
  have hp := h.pos
  have hh := h.here
  have hq := h.short
  clear h
  obtain ⟨blk, ⟨rb, ro, rc, es⟩, pos, age⟩ := c
  simp only at *
  have z : (es.length : Int) ≤ (pos : Int) + 1 := by omega
  go_enter Try.func159, Try.ntmps159
  go_upto_region 1 with fail
  go_quiet (fail)
  go_wp2
  go_ret
  exact ⟨rfl, below_drewN (Below.refl _ _) _⟩
end Go.Proofs.Ytjphalbjimggcae
