/-
  The order of keys as slices.SortFunc asks it: impl's compare lays blocks, turns none.
-/
import Derived.Test.YtjphalbjimggcacKeyOrd
import Derived.Sort.Grow
namespace Go.Proofs.Ytjphalbjimggcac
open Go.ChangeShapes Go.WideShapes Go.ChangeAt Go.RowKit Go.Deep Go.Sort
set_option linter.unusedVariables false
set_option maxRecDepth 100000

/-- Only new blocks. -/
def Lays (w w' : World) : Prop := ∃ os, w' = grow w os
theorem Lays.refl (w : World) : Lays w w := ⟨#[], by simp⟩
theorem Lays.alloc {w w' : World} (h : Lays w w') (o : Obj) : Lays w (w'.alloc o) := by
  obtain ⟨os, rfl⟩ := h
  exact ⟨os ++ #[o], by rw [alloc_eq_grow, grow_grow]⟩
theorem Lays.trans {a b c : World} (h : Lays a b) (k : Lays b c) : Lays a c := by
  obtain ⟨os, rfl⟩ := h
  obtain ⟨os', rfl⟩ := k
  exact ⟨os ++ os', grow_grow _ _ _⟩
theorem Lays.below {a b : World} (h : Lays a b) : Below a.heap.size a b := by
  obtain ⟨os, rfl⟩ := h
  refine ⟨rfl, rfl, rfl, by simp, fun k hk => ?_⟩
  unfold grow
  simp [Array.getElem?_append_left hk]

set_option maxHeartbeats 400000 in
theorem compareColumns_lays (a b : Ent) (w : World) :
    Calls Try.prog 59 #[a.v, b.v] w fun e w' => e = .returned (.int .i64 (colCmp a b)) ∧ Lays w w' := by
  unfold colCmp firstOf Ent.v
  by_cases h1 : cB a.row b.row = 0
  · have g1 : (cB a.row b.row != 0) = false := by simp [h1]
    rw [if_pos h1]
    clear h1
    by_cases h2 : cB a.fam b.fam = 0
    · have g2 : (cB a.fam b.fam != 0) = false := by simp [h2]
      rw [if_pos h2]
      clear h2
      go_enter Try.func59, Try.ntmps59
      go_wp2_with (go_at_call 75; refine (stringsCompare_any _ _ _).mono ?_; rintro e w' ⟨rfl, rfl⟩)
      go_ret
      exact ⟨rfl, ((Lays.refl _).alloc _).alloc _⟩
    · have g2 : (cB a.fam b.fam != 0) = true := by simp [h2]
      rw [if_neg h2]
      clear h2
      go_enter Try.func59, Try.ntmps59
      go_wp2_with (go_at_call 75; refine (stringsCompare_any _ _ _).mono ?_; rintro e w' ⟨rfl, rfl⟩)
      go_ret
      exact ⟨rfl, ((Lays.refl _).alloc _).alloc _⟩
  · have g1 : (cB a.row b.row != 0) = true := by simp [h1]
    rw [if_neg h1]
    clear h1
    go_enter Try.func59, Try.ntmps59
    go_wp2_with (go_at_call 75; refine (stringsCompare_any _ _ _).mono ?_; rintro e w' ⟨rfl, rfl⟩)
    go_ret
    exact ⟨rfl, ((Lays.refl _).alloc _).alloc _⟩

set_option maxHeartbeats 400000 in
theorem compare_lays (a b : Ent) (w : World) :
    Calls Try.prog 42 #[a.v, b.v] w fun e w' => e = .returned (.int .i64 (keyCmp a b)) ∧ Lays w w' := by
  by_cases h1 : colCmp a b = 0
  · have g1 : (colCmp a b != 0) = false := by simp [h1]
    by_cases ha : a.kind = 2
    · have ga : (a.kind == 2) = true := by simp [ha]
      by_cases hb : b.kind = 2
      · have gb : (b.kind == 2) = true := by simp [hb]
        have H : Hid (keyCmp a b = tsCmp a.ts b.ts) := keyCmp_ts h1 (by simp [ha, hb])
        clear h1 ha hb
        go_enter Try.func42, Try.ntmps42
        go_wp2_with fail
        refine (compareColumns_lays a b _).mono ?_
        rintro e w1 ⟨rfl, hl1⟩
        have hb1 := hl1.below
        obtain ⟨hc1, hf1⟩ := bcell hb1
        have hz1 : w.heap.size + 1 < w1.heap.size := by have := hb1.size; simp at this; omega
        go_wp2_with fail
        refine (cmpU64_any _ _ _).mono ?_
        rintro e w2 ⟨rfl, rfl⟩
        go_wp2_with fail
        go_ret
        exact ⟨ret_int H.out.symm, (((Lays.refl _).alloc _).alloc _).trans hl1⟩
      · have gb : (b.kind == 2) = false := by simp [hb]
        have H : Hid (keyCmp a b = -1) := keyCmp_del1 h1 ha hb
        clear h1 ha hb
        go_enter Try.func42, Try.ntmps42
        go_wp2_with fail
        refine (compareColumns_lays a b _).mono ?_
        rintro e w1 ⟨rfl, hl1⟩
        have hb1 := hl1.below
        obtain ⟨hc1, hf1⟩ := bcell hb1
        have hz1 : w.heap.size + 1 < w1.heap.size := by have := hb1.size; simp at this; omega
        go_wp2_with fail
        go_ret
        exact ⟨ret_int H.out.symm, (((Lays.refl _).alloc _).alloc _).trans hl1⟩
    · have ga : (a.kind == 2) = false := by simp [ha]
      by_cases hb : b.kind = 2
      · have gb : (b.kind == 2) = true := by simp [hb]
        have H : Hid (keyCmp a b = 1) := keyCmp_del2 h1 ha hb
        clear h1 ha hb
        go_enter Try.func42, Try.ntmps42
        go_wp2_with fail
        refine (compareColumns_lays a b _).mono ?_
        rintro e w1 ⟨rfl, hl1⟩
        have hb1 := hl1.below
        obtain ⟨hc1, hf1⟩ := bcell hb1
        have hz1 : w.heap.size + 1 < w1.heap.size := by have := hb1.size; simp at this; omega
        go_wp2_with fail
        go_ret
        exact ⟨ret_int H.out.symm, (((Lays.refl _).alloc _).alloc _).trans hl1⟩
      · have gb : (b.kind == 2) = false := by simp [hb]
        have H : Hid (keyCmp a b = tsCmp a.ts b.ts) := keyCmp_ts h1 (by simp [ha, hb])
        clear h1 ha hb
        go_enter Try.func42, Try.ntmps42
        go_wp2_with fail
        refine (compareColumns_lays a b _).mono ?_
        rintro e w1 ⟨rfl, hl1⟩
        have hb1 := hl1.below
        obtain ⟨hc1, hf1⟩ := bcell hb1
        have hz1 : w.heap.size + 1 < w1.heap.size := by have := hb1.size; simp at this; omega
        go_wp2_with fail
        refine (cmpU64_any _ _ _).mono ?_
        rintro e w2 ⟨rfl, rfl⟩
        go_wp2_with fail
        go_ret
        exact ⟨ret_int H.out.symm, (((Lays.refl _).alloc _).alloc _).trans hl1⟩
  · have g1 : (colCmp a b != 0) = true := by simp [h1]
    have H : Hid (keyCmp a b = colCmp a b) := keyCmp_ne h1
    clear h1
    go_enter Try.func42, Try.ntmps42
    go_wp2_with fail
    refine (compareColumns_lays a b _).mono ?_
    rintro e w1 ⟨rfl, hl1⟩
    have hb1 := hl1.below
    go_wp2_with fail
    go_ret
    exact ⟨ret_int H.out.symm, (((Lays.refl _).alloc _).alloc _).trans hl1⟩


theorem cmp_swo : ∀ x y z : Ent, (keyCmp x y < 0) = (keyCmp x y = -1) ∧ True := fun x y z => ⟨by
  rcases keyCmp_vals x y with h | h | h <;> rw [h] <;> simp, trivial⟩
end Go.Proofs.Ytjphalbjimggcac
