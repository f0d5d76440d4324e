import Derived.Lib.AppendZeros
import Derived.Test.YtlgeffinhbodeafGreatPkAM
/-
  slices.Grow and slices.Concat over runs.
-/
namespace Go.Proofs.YtlgeffinhbodeafGreat
open Go.ChangeShapes Go.WideShapes Go.ChangeAt Go.RowKit Go.Deep
set_option linter.unusedVariables false
set_option linter.unusedSimpArgs false
set_option maxRecDepth 100000

/-- A new row without elements. -/
def CatPost (e size : Nat) (w : World) (xs : List Value) (n : Nat) (r : Ending) (w' : World) : Prop := ∃ v : Value, r = .returned v ∧ w'.ownsRow w.heap.size e size v n xs ∧ Below w.heap.size w w'
def GrowPost (e size : Nat) (w : World) (r : Ending) (w' : World) : Prop := ∃ v : Value, r = .returned v ∧ w'.ownsRow w.heap.size e size v 0 [] ∧ Below w.heap.size w w'
theorem grow_row (w : World) (t : TypeId) (z : Array Value) (size n c : Nat) (hz : z.size = size) (hn : n ≤ c) (hc : c ≤ maxLen) :
    (w.drew.alloc (.cells (Builtin.zeroCells z n ++ Builtin.zeroCells z (c - n)) t)).ownsRow w.heap.size t size (.slice (some ⟨w.heap.size, 0, none⟩) 0 c) 0 [] := by
  refine ⟨by simp, .inr ⟨w.heap.size, c, _, rfl, Nat.le_refl _, heap_alloc_new w.drew _, Nat.zero_le _, hc, ?_, by simp⟩⟩
  rw [Array.size_append, size_zeroCells, size_zeroCells, hz, ← Nat.add_mul]
  congr 1
  omega

set_option maxHeartbeats 2000000 in
theorem growR_core (n : Nat) (w : World) (hn : n ≤ 2 ^ 30) :
    Calls Tryz.prog 60 #[.slice none 0 0, .int .i64 n] w fun r w' => GrowPost 58 1 w r w' := by
  obtain ⟨i, hi, hz0, hz1, hz2⟩ := info_parts Tryz.infoRun
  by_cases h0 : n = 0
  · subst h0
    go_enter Tryz.func60, Tryz.ntmps60
    go_wp2_with fail
    go_ret
    exact ⟨_, rfl, World.ownsRow_nil .., Below.refl _ _⟩
  · have hp : 0 < n := by omega
    have HG : Hid (n ≤ grownCap w n 0 58 ∧ grownCap w n 0 58 ≤ maxLen) := ⟨grownCap_ge w n 0 _, grownCap_le_maxLen w n 0 _ (by unfold maxLen; omega)⟩
    have HRun : Hid (∀ ty, (Builtin.append_ #[54, 3] ty #[.slice none 0 0, .int .i64 n]).run Tryz.prog w = .ok (.slice (some ⟨w.heap.size, 0, none⟩) n (grownCap w n 0 58)) (w.drew.alloc (.cells (Builtin.zeroCells #[.slice none 0 0] n ++ Builtin.zeroCells #[.slice none 0 0] (grownCap w n 0 58 - n)) 58))) := fun ty =>
      Go.Lib.run_append_nil_zeros w 54 3 ty 58 i (.agg #[.slice none 0 0]) .i64 .i64 Tryz.underlying54 Tryz.underlying3 hi hz0 n hp (by omega) (by omega) (by rw [hz2]; omega)
    obtain ⟨c, hc⟩ : ∃ c, c = grownCap w n 0 58 := ⟨_, rfl⟩
    rw [← hc] at HG HRun
    have hcm := HG.out.2
    have hcn := HG.out.1
    unfold maxLen at hcm
    have zp : (0 : Int) < (n : Int) := by omega
    clear h0 hc hi hz0 hz1 hz2
    go_enter Tryz.func60, Tryz.ntmps60
    go_wp2_with (at_builtin; refine Go.Lib.wpList_append_run _ rfl _ _ _ _ rfl _ _ rfl rfl _ _ (HRun.out _) ?_)
    obtain ⟨W1, hW1⟩ : ∃ W1 : World, W1 = (w.drew.alloc (.cells (Builtin.zeroCells #[.slice none 0 0] n ++ Builtin.zeroCells #[.slice none 0 0] (c - n)) 58)) := ⟨_, rfl⟩
    have HO : Hid (W1.ownsRow w.heap.size 58 1 (.slice (some ⟨w.heap.size, 0, none⟩) 0 c) 0 [] ∧ Below w.heap.size w W1) := by
      rw [hW1]
      exact ⟨grow_row w _ _ 1 n c rfl hcn (by unfold maxLen; omega), (Below.refl _ _).drew.alloc (by simp) _⟩
    go_ret
    rw [hW1] at HO
    exact ⟨_, rfl, HO.out.1, HO.out.2⟩

/-- A slice of runs, as cells. -/
structure Pt where
  b : Nat
  off : Nat
  cap : Nat
  us : List Value
structure Pt.at (w : World) (p : Pt) : Prop where
  cells : ∀ j u, p.us[j]? = some u → w.cell? ⟨p.b, p.off + j, none⟩ = some u
  one : ∀ u ∈ p.us, u.oneCell' = true
  lt : p.b < w.heap.size
theorem Pt.at.below {w w' : World} {p : Pt} (h : p.at w) (hb : Below w.heap.size w w') : p.at w' := ⟨fun j u hu => by rw [hb.cell (p := ⟨p.b, p.off + j, none⟩) (by exact h.lt)]; exact h.cells j u hu, h.one, by have := hb.size; have := h.lt; omega⟩
def PtsAt (w : World) (sb : Nat) (ps : List Pt) : Prop := ∀ i p, ps[i]? = some p → w.cell? ⟨sb, i, none⟩ = some (.slice (some ⟨p.b, p.off, none⟩) p.us.length p.cap) ∧ p.at w
theorem PtsAt.below {w w' : World} {sb : Nat} {ps : List Pt} (h : PtsAt w sb ps) (hb : Below w.heap.size w w') (hlt : sb < w.heap.size) : PtsAt w' sb ps := fun i p hp => ⟨by rw [hb.cell (p := ⟨sb, i, none⟩) (by exact hlt)]; exact (h i p hp).1, (h i p hp).2.below hb⟩
def allU (ps : List Pt) : List Value := ps.flatMap Pt.us
theorem allU_take {ps : List Pt} {k : Nat} {p : Pt} (h : ps[k]? = some p) : allU (ps.take (k + 1)) = allU (ps.take k) ++ p.us := by
  unfold allU
  rw [List.take_add_one, h, List.flatMap_append]; simp
theorem allU_le (ps : List Pt) (k : Nat) : (allU (ps.take k)).length ≤ (allU ps).length := by
  have h : allU ps = allU (ps.take k) ++ allU (ps.drop k) := by
    unfold allU
    rw [← List.flatMap_append, List.take_append_drop]
  rw [h, List.length_append]
  omega

set_option maxHeartbeats 4000000 in
theorem concatR_core (sb : Nat) (ps : List Pt) (w : World) (h : PtsAt w sb ps) (hB : sb < w.heap.size) (hn : (allU ps).length ≤ 2 ^ 28) (hm : ps.length ≤ 1000) :
    Calls Tryz.prog 32 #[.slice (some ⟨sb, 0, none⟩) ps.length ps.length] w fun r w' => CatPost 58 1 w (allU ps) (allU ps).length r w' := by
  have HP : Hid (PtsAt w sb ps) := h
  clear h
  go_enter Tryz.func32, Tryz.ntmps32
  go_wp2_with fail
  go_loopw [3, 11] (fun s i wr => ∃ (k x : Nat), k ≤ ps.length ∧ i = .int .i64 k ∧ s = .int .i64 x ∧ x = (allU (ps.take k)).length ∧ Below w.heap.size w wr) (fun _ i _ => ps.length - (intOf i).toNat)
  case atStart => exact ⟨0, 0, Nat.zero_le _, rfl, rfl, rfl, Below.refl _ _⟩
  case round =>
    obtain ⟨k, x, hk, rfl, rfl, hx, hb0⟩ := hrel
    have hs0 := hb0.size
    have HX : Hid (x = (allU (ps.take k)).length) := hx
    have hxl : x ≤ 2 ^ 28 := by have := allU_le ps k; omega
    clear hx
    by_cases hlt : k < ps.length
    · obtain ⟨p, hp⟩ : ∃ p, ps[k]? = some p := ⟨_, List.getElem?_eq_getElem hlt⟩
      obtain ⟨c0, _⟩ := (HP.out.below hb0 hB) k p hp
      have HX2 : Hid (x + p.us.length = (allU (ps.take (k + 1))).length) := by
        have h1 := HX.out
        show x + p.us.length = (allU (ps.take (k + 1))).length
        rw [allU_take hp, List.length_append, ← h1]
      have hx2 : x + p.us.length ≤ 2 ^ 28 := by have := HX2.out; have := allU_le ps (k + 1); omega
      clear hp
      have zk : (k : Int) < (ps.length : Int) := by omega
      have zz : ¬ (x : Int) + (p.us.length : Int) < 0 := by omega
      go_wp2_with fail
      go_roundw
      case rel => go_light; exact ⟨k + 1, x + p.us.length, by omega, by go_num, by go_num, HX2.out, hb0⟩
      case measure => go_light; simp [intOf]; omega
    · have zk : ¬ (k : Int) < (ps.length : Int) := by omega
      go_wp2_with fail
      refine (growR_core x _ (by omega)).mono ?_
      rintro e w1 ⟨v, rfl, hO1, hb1⟩
      have HO1 : Hid (w1.ownsRow w.heap.size 58 1 v 0 [] ∧ Below w.heap.size w w1) := ⟨row_mono hO1 hs0, hb0.trans (hb1.mono hs0)⟩
      clear hO1 hb1
      go_wp2_with fail
      go_loopw [6, 27] (fun o i wr => ∃ (k : Nat) (v : Value), k ≤ ps.length ∧ i = .int .i64 k ∧ o = v ∧ wr.ownsRow w.heap.size 58 1 v (allU (ps.take k)).length (allU (ps.take k)) ∧ Below w.heap.size w wr) (fun _ i _ => ps.length - (intOf i).toNat)
      case atStart => exact ⟨0, v, Nat.zero_le _, rfl, rfl, HO1.out.1, HO1.out.2⟩
      case round =>
        obtain ⟨v0, hv0⟩ : ∃ v0 : Value, v0 = u6 := ⟨_, rfl⟩
        subst hv0
        obtain ⟨k, v, hk, rfl, hov, hO, hb⟩ := hrel
        rw [← hov] at hO
        clear hov
        have HO : Hid (wr.ownsRow w.heap.size 58 1 v0 (allU (ps.take k)).length (allU (ps.take k))) := hO
        have hs := hb.size
        clear hO
        by_cases hlt : k < ps.length
        · obtain ⟨p, hp⟩ : ∃ p, ps[k]? = some p := ⟨_, List.getElem?_eq_getElem hlt⟩
          obtain ⟨c0, hat⟩ := (HP.out.below hb hB) k p hp
          have HD : Hid (ps[k]? = some p ∧ p.at wr) := ⟨hp, hat⟩
          have hpl : (allU (ps.take k)).length + p.us.length ≤ 2 ^ 28 := by
            have h1 := allU_le ps (k + 1)
            rw [allU_take hp, List.length_append] at h1
            omega
          clear hp hat
          have zk : (k : Int) < (ps.length : Int) := by omega
          go_wp2_with (at_builtin; refine wpList_append_runO _ rfl _ _ rfl w.heap.size v0 (allU (ps.take k)) p.b p.off p.us.length p.cap p.us rfl rfl rfl HO.out HD.out.2.cells HD.out.2.one ?hl ?hb ?_)
          case hl => omega
          case hb => omega
          intro v' w2 hA
          have HN : Hid (w2.ownsRow w.heap.size 58 1 v' (allU (ps.take (k + 1))).length (allU (ps.take (k + 1)))) := by
            show World.ownsRow _ _ _ _ _ _ _
            rw [allU_take HD.out.1]
            exact hA.row
          have hb2 : Below w.heap.size w w2 := hb.grown hA.grown hs (fun q hq => row_blk HO.out q hq)
          clear hA
          go_wp2_with fail
          go_roundw
          case rel => go_light; exact ⟨k + 1, v', by omega, by go_num, rfl, HN.out, hb2⟩
          case measure => go_light; simp [intOf]; omega
        · have zk : ¬ (k : Int) < (ps.length : Int) := by omega
          have HF : Hid (wr.ownsRow w.heap.size 58 1 v0 (allU ps).length (allU ps)) := by
            have h1 := HO.out
            rw [List.take_of_length_le (by omega)] at h1
            exact h1
          go_wp2_with fail
          go_ret
          exact ⟨v0, rfl, HF.out, hb⟩
end Go.Proofs.YtlgeffinhbodeafGreat

/-
  slices.Grow and slices.Concat over tablets.
-/
namespace Go.Proofs.YtlgeffinhbodeafGreat
open Go.ChangeShapes Go.WideShapes Go.ChangeAt Go.RowKit Go.Deep
set_option linter.unusedVariables false
set_option linter.unusedSimpArgs false
set_option maxRecDepth 100000

set_option maxHeartbeats 2000000 in
theorem growT_core (n : Nat) (w : World) (hn : n ≤ 2 ^ 30) :
    Calls Tryz.prog 96 #[.slice none 0 0, .int .i64 n] w fun r w' => GrowPost 56 2 w r w' := by
  obtain ⟨i, hi, hz0, hz1, hz2⟩ := info_parts Tryz.infoTab
  by_cases h0 : n = 0
  · subst h0
    go_enter Tryz.func96, Tryz.ntmps96
    go_wp2_with fail
    go_ret
    exact ⟨_, rfl, World.ownsRow_nil .., Below.refl _ _⟩
  · have hp : 0 < n := by omega
    have HG : Hid (n ≤ grownCap w n 0 56 ∧ grownCap w n 0 56 ≤ maxLen) := ⟨grownCap_ge w n 0 _, grownCap_le_maxLen w n 0 _ (by unfold maxLen; omega)⟩
    have HRun : Hid (∀ ty, (Builtin.append_ #[28, 3] ty #[.slice none 0 0, .int .i64 n]).run Tryz.prog w = .ok (.slice (some ⟨w.heap.size, 0, none⟩) n (grownCap w n 0 56)) (w.drew.alloc (.cells (Builtin.zeroCells #[.string ⟨#[]⟩, .slice none 0 0] n ++ Builtin.zeroCells #[.string ⟨#[]⟩, .slice none 0 0] (grownCap w n 0 56 - n)) 56))) := fun ty =>
      Go.Lib.run_append_nil_zeros w 28 3 ty 56 i (.agg #[.string ⟨#[]⟩, .slice none 0 0]) .i64 .i64 Tryz.underlying28 Tryz.underlying3 hi hz0 n hp (by omega) (by omega) (by rw [hz2]; omega)
    obtain ⟨c, hc⟩ : ∃ c, c = grownCap w n 0 56 := ⟨_, rfl⟩
    rw [← hc] at HG HRun
    have hcm := HG.out.2
    have hcn := HG.out.1
    unfold maxLen at hcm
    have zp : (0 : Int) < (n : Int) := by omega
    clear h0 hc hi hz0 hz1 hz2
    go_enter Tryz.func96, Tryz.ntmps96
    go_wp2_with (at_builtin; refine Go.Lib.wpList_append_run _ rfl _ _ _ _ rfl _ _ rfl rfl _ _ (HRun.out _) ?_)
    obtain ⟨W1, hW1⟩ : ∃ W1 : World, W1 = (w.drew.alloc (.cells (Builtin.zeroCells #[.string ⟨#[]⟩, .slice none 0 0] n ++ Builtin.zeroCells #[.string ⟨#[]⟩, .slice none 0 0] (c - n)) 56)) := ⟨_, rfl⟩
    have HO : Hid (W1.ownsRow w.heap.size 56 2 (.slice (some ⟨w.heap.size, 0, none⟩) 0 c) 0 [] ∧ Below w.heap.size w W1) := by
      rw [hW1]
      exact ⟨grow_row w _ _ 2 n c rfl hcn (by unfold maxLen; omega), (Below.refl _ _).drew.alloc (by simp) _⟩
    go_ret
    rw [hW1] at HO
    exact ⟨_, rfl, HO.out.1, HO.out.2⟩

/-- A slice of runs, as cells. -/
structure PtT where
  b : Nat
  off : Nat
  cap : Nat
  us : List Pr
structure PtT.at (w : World) (p : PtT) : Prop where
  cells : ∀ j u, p.us[j]? = some u → w.cell? ⟨p.b, p.off + j * 2, none⟩ = some (.string u.1) ∧ w.cell? ⟨p.b, p.off + j * 2 + 1, none⟩ = some u.2
  one : ∀ u ∈ p.us, u.2.oneCell' = true
  lt : p.b < w.heap.size
theorem PtT.at.below {w w' : World} {p : PtT} (h : p.at w) (hb : Below w.heap.size w w') : p.at w' := ⟨fun j u hu => ⟨by rw [hb.cell (p := ⟨p.b, p.off + j * 2, none⟩) (by exact h.lt)]; exact (h.cells j u hu).1, by rw [hb.cell (p := ⟨p.b, p.off + j * 2 + 1, none⟩) (by exact h.lt)]; exact (h.cells j u hu).2⟩, h.one, by have := hb.size; have := h.lt; omega⟩
def PtsAtT (w : World) (sb : Nat) (ps : List PtT) : Prop := ∀ i p, ps[i]? = some p → w.cell? ⟨sb, i, none⟩ = some (.slice (some ⟨p.b, p.off, none⟩) p.us.length p.cap) ∧ p.at w
theorem PtsAtT.below {w w' : World} {sb : Nat} {ps : List PtT} (h : PtsAtT w sb ps) (hb : Below w.heap.size w w') (hlt : sb < w.heap.size) : PtsAtT w' sb ps := fun i p hp => ⟨by rw [hb.cell (p := ⟨sb, i, none⟩) (by exact hlt)]; exact (h i p hp).1, (h i p hp).2.below hb⟩
def allP (ps : List PtT) : List Pr := ps.flatMap PtT.us
theorem allP_take {ps : List PtT} {k : Nat} {p : PtT} (h : ps[k]? = some p) : allP (ps.take (k + 1)) = allP (ps.take k) ++ p.us := by
  unfold allP
  rw [List.take_add_one, h, List.flatMap_append]; simp
theorem allP_le (ps : List PtT) (k : Nat) : (allP (ps.take k)).length ≤ (allP ps).length := by
  have h : allP ps = allP (ps.take k) ++ allP (ps.drop k) := by
    unfold allP
    rw [← List.flatMap_append, List.take_append_drop]
  rw [h, List.length_append]
  omega

set_option maxHeartbeats 4000000 in
theorem concatT_core (sb : Nat) (ps : List PtT) (w : World) (h : PtsAtT w sb ps) (hB : sb < w.heap.size) (hn : (allP ps).length ≤ 2 ^ 28) (hm : ps.length ≤ 1000) :
    Calls Tryz.prog 76 #[.slice (some ⟨sb, 0, none⟩) ps.length ps.length] w fun r w' => CatPost 56 2 w (cellsP (allP ps)) (allP ps).length r w' := by
  have HP : Hid (PtsAtT w sb ps) := h
  clear h
  go_enter Tryz.func76, Tryz.ntmps76
  go_wp2_with fail
  go_loopw [3, 11] (fun s i wr => ∃ (k x : Nat), k ≤ ps.length ∧ i = .int .i64 k ∧ s = .int .i64 x ∧ x = (allP (ps.take k)).length ∧ Below w.heap.size w wr) (fun _ i _ => ps.length - (intOf i).toNat)
  case atStart => exact ⟨0, 0, Nat.zero_le _, rfl, rfl, rfl, Below.refl _ _⟩
  case round =>
    obtain ⟨k, x, hk, rfl, rfl, hx, hb0⟩ := hrel
    have hs0 := hb0.size
    have HX : Hid (x = (allP (ps.take k)).length) := hx
    have hxl : x ≤ 2 ^ 28 := by have := allP_le ps k; omega
    clear hx
    by_cases hlt : k < ps.length
    · obtain ⟨p, hp⟩ : ∃ p, ps[k]? = some p := ⟨_, List.getElem?_eq_getElem hlt⟩
      obtain ⟨c0, _⟩ := (HP.out.below hb0 hB) k p hp
      have HX2 : Hid (x + p.us.length = (allP (ps.take (k + 1))).length) := by
        have h1 := HX.out
        show x + p.us.length = (allP (ps.take (k + 1))).length
        rw [allP_take hp, List.length_append, ← h1]
      have hx2 : x + p.us.length ≤ 2 ^ 28 := by have := HX2.out; have := allP_le ps (k + 1); omega
      clear hp
      have zk : (k : Int) < (ps.length : Int) := by omega
      have zz : ¬ (x : Int) + (p.us.length : Int) < 0 := by omega
      go_wp2_with fail
      go_roundw
      case rel => go_light; exact ⟨k + 1, x + p.us.length, by omega, by go_num, by go_num, HX2.out, hb0⟩
      case measure => go_light; simp [intOf]; omega
    · have zk : ¬ (k : Int) < (ps.length : Int) := by omega
      go_wp2_with fail
      refine (growT_core x _ (by omega)).mono ?_
      rintro e w1 ⟨v, rfl, hO1, hb1⟩
      have HO1 : Hid (w1.ownsRow w.heap.size 56 2 v 0 [] ∧ Below w.heap.size w w1) := ⟨row_mono hO1 hs0, hb0.trans (hb1.mono hs0)⟩
      clear hO1 hb1
      go_wp2_with fail
      go_loopw [6, 27] (fun o i wr => ∃ (k : Nat) (v : Value), k ≤ ps.length ∧ i = .int .i64 k ∧ o = v ∧ wr.ownsRow w.heap.size 56 2 v (allP (ps.take k)).length (cellsP (allP (ps.take k))) ∧ Below w.heap.size w wr) (fun _ i _ => ps.length - (intOf i).toNat)
      case atStart => exact ⟨0, v, Nat.zero_le _, rfl, rfl, HO1.out.1, HO1.out.2⟩
      case round =>
        obtain ⟨v0, hv0⟩ : ∃ v0 : Value, v0 = u6 := ⟨_, rfl⟩
        subst hv0
        obtain ⟨k, v, hk, rfl, hov, hO, hb⟩ := hrel
        rw [← hov] at hO
        clear hov
        have HO : Hid (wr.ownsRow w.heap.size 56 2 v0 (allP (ps.take k)).length (cellsP (allP (ps.take k)))) := hO
        have hs := hb.size
        clear hO
        by_cases hlt : k < ps.length
        · obtain ⟨p, hp⟩ : ∃ p, ps[k]? = some p := ⟨_, List.getElem?_eq_getElem hlt⟩
          obtain ⟨c0, hat⟩ := (HP.out.below hb hB) k p hp
          have HD : Hid (ps[k]? = some p ∧ p.at wr) := ⟨hp, hat⟩
          have hpl : (allP (ps.take k)).length + p.us.length ≤ 2 ^ 28 := by
            have h1 := allP_le ps (k + 1)
            rw [allP_take hp, List.length_append] at h1
            omega
          clear hp hat
          have zk : (k : Int) < (ps.length : Int) := by omega
          go_wp2_with (at_builtin; refine wpList_append_tabO _ rfl _ _ rfl w.heap.size v0 (allP (ps.take k)) p.b p.off p.us.length p.cap p.us rfl rfl rfl HO.out HD.out.2.cells HD.out.2.one ?hl ?hb ?_)
          case hl => omega
          case hb => omega
          intro v' w2 hA
          have HN : Hid (w2.ownsRow w.heap.size 56 2 v' (allP (ps.take (k + 1))).length (cellsP (allP (ps.take (k + 1))))) := by
            show World.ownsRow _ _ _ _ _ _ _
            rw [allP_take HD.out.1]
            exact hA.row
          have hb2 : Below w.heap.size w w2 := hb.grown hA.grown hs (fun q hq => row_blk HO.out q hq)
          clear hA
          go_wp2_with fail
          go_roundw
          case rel => go_light; exact ⟨k + 1, v', by omega, by go_num, rfl, HN.out, hb2⟩
          case measure => go_light; simp [intOf]; omega
        · have zk : ¬ (k : Int) < (ps.length : Int) := by omega
          have HF : Hid (wr.ownsRow w.heap.size 56 2 v0 (allP ps).length (cellsP (allP ps))) := by
            have h1 := HO.out
            rw [List.take_of_length_le (by omega)] at h1
            exact h1
          go_wp2_with fail
          go_ret
          exact ⟨v0, rfl, HF.out, hb⟩
end Go.Proofs.YtlgeffinhbodeafGreat

/-
  impl's copied.
-/
namespace Go.Proofs.YtlgeffinhbodeafGreat
open Go.ChangeShapes Go.WideShapes Go.ChangeAt Go.RowKit Go.Deep
set_option linter.unusedVariables false
set_option linter.unusedSimpArgs false
set_option maxRecDepth 100000

/-- A tablet as a copy reads it: its runs may be nil. -/
structure Ty where
  lo : ByteArray
  v : Value
  l : List Rm
def Ty.tb (t : Ty) : Tb := ⟨t.lo, esM t.l⟩
def TysAt (w : World) (b off : Nat) (ts : List Ty) : Prop := ∀ i t, ts[i]? = some t → w.cell? ⟨b, off + i * 2, none⟩ = some (.string t.lo) ∧ w.cell? ⟨b, off + i * 2 + 1, none⟩ = some t.v ∧ InRms w t.v t.l
theorem TysAt.below {w w' : World} {b off : Nat} {ts : List Ty} (h : TysAt w b off ts) (hb : Below w.heap.size w w') (hlt : b < w.heap.size) : TysAt w' b off ts := by
  intro i t ht
  obtain ⟨h1, h2, h3⟩ := h i t ht
  exact ⟨by rw [hb.cell (p := ⟨b, off + i * 2, none⟩) (by exact hlt)]; exact h1, by rw [hb.cell (p := ⟨b, off + i * 2 + 1, none⟩) (by exact hlt)]; exact h2, h3.below hb⟩
def Tm.ty (t : Tm) : Ty := ⟨t.lo, t.u, t.l⟩
theorem TmsAt.tys {w : World} {b off : Nat} {ts : List Tm} (h : TmsAt w b off ts) : TysAt w b off (ts.map Tm.ty) := by
  intro i t ht
  rw [List.getElem?_map] at ht
  cases hp : ts[i]? with
  | none => rw [hp] at ht; cases ht
  | some p =>
    rw [hp] at ht
    simp at ht
    subst ht
    obtain ⟨h1, h2, h3⟩ := h i p hp
    exact ⟨h1, h2, h3.ins⟩
theorem apartT_snoc {xs : List Tx} {t : Tx} {n : Nat} (h : ApartT xs) (h1 : ∀ x ∈ xs, ∀ r ∈ x.rs, ∀ k, r.k = some k → k < n) (h2 : ∀ r ∈ t.rs, ∀ k, r.k = some k → n ≤ k) (h3 : Apart t.rs) : ApartT (xs ++ [t]) := by
  unfold ApartT
  rw [List.flatMap_append]
  refine List.pairwise_append.2 ⟨h, (by simp only [List.flatMap_cons, List.flatMap_nil, List.append_nil]; exact h3), fun a ha b hb k hk hk' => ?_⟩
  obtain ⟨x, hx, hr⟩ := List.mem_flatMap.1 ha
  simp at hb
  have q1 := h1 x hx a hr k hk
  have q2 := h2 b hb k hk'
  omega
/-- What impl's copy of a store hands back. -/
def CpIPost (w : World) (tbs : List Tb) (e : Ending) (w' : World) : Prop := ∃ (g cp : Nat) (xs : List Tx), e = .returned (.agg #[.slice (some ⟨g, 0, none⟩) xs.length cp]) ∧ OwnSt w' w.heap.size (.slice (some ⟨g, 0, none⟩) xs.length cp) xs ∧ ApartT xs ∧ xs.map Tx.tb = tbs ∧ Below w.heap.size w w'

set_option maxHeartbeats 8000000 in
theorem implCopied_core (b off cap : Nat) (ts : List Ty) (w : World) (h : TysAt w b off ts) (hB : b < w.heap.size) (hn : ts.length ≤ 1048576) (hs : ∀ t ∈ ts, t.l.length ≤ 1048576 ∧ totM t.l ≤ 1048576) :
    Calls Tryz.prog 30 #[.agg #[.slice (some ⟨b, off, none⟩) ts.length cap]] w fun e w' => CpIPost w (ts.map Ty.tb) e w' := by
  obtain ⟨iT, hiT, hzT0, hzT1, hzT2⟩ := info_parts Tryz.infoTab
  have HIT : Hid (Tryz.prog.info? 56 = some iT ∧ iT.zero = some (.agg #[.string ⟨#[]⟩, .slice none 0 0]) ∧ iT.size = 2 ∧ iT.bytes = 40) := ⟨hiT, hzT0, hzT1, hzT2⟩
  obtain ⟨iR, hiR, hzR0, hzR1, hzR2⟩ := info_parts Tryz.infoRun
  have HIR : Hid (Tryz.prog.info? 58 = some iR ∧ iR.zero = some (.agg #[.slice none 0 0]) ∧ iR.size = 1 ∧ iR.bytes = 24) := ⟨hiR, hzR0, hzR1, hzR2⟩
  clear hiT hzT0 hzT1 hzT2 hiR hzR0 hzR1 hzR2
  obtain ⟨Wa, hWa⟩ : ∃ Wa : World, Wa = (w.alloc (Obj.cells #[.slice (some ⟨b, off, none⟩) ts.length cap] 30)).alloc (Obj.cells #[.slice none 0 0] 30) := ⟨_, rfl⟩
  have hba : Below w.heap.size w Wa := by rw [hWa]; exact ((Below.refl _ _).alloc (Nat.le_refl _) _).alloc (by simp) _
  have hza : Wa.heap.size = w.heap.size + 1 + 1 := by rw [hWa]; simp
  have HWa : Hid (∀ wx, Below Wa.heap.size Wa wx → wx.cell? ⟨w.heap.size, 0, none⟩ = some (.slice (some ⟨b, off, none⟩) ts.length cap) ∧ wx.cell? ⟨w.heap.size + 1, 0, none⟩ = some (.slice none 0 0) ∧ wx.frozen? ⟨w.heap.size + 1, 0, none⟩ = false ∧ TysAt wx b off ts ∧ b < wx.heap.size) := by
    intro wx hx
    have sx := hx.size
    refine ⟨?_, ?_, ?_, (h.below hba hB).below hx (by omega), by omega⟩
    · rw [hx.cell (p := ⟨w.heap.size, 0, none⟩) (by show w.heap.size < Wa.heap.size; omega), hWa]; simp [go_sem]
    · rw [hx.cell (p := ⟨w.heap.size + 1, 0, none⟩) (by show w.heap.size + 1 < Wa.heap.size; omega), hWa]; simp [go_sem]
    · rw [hx.frozen (p := ⟨w.heap.size + 1, 0, none⟩) (by show w.heap.size + 1 < Wa.heap.size; omega), hWa]; simp [go_sem]
  have HS : Hid (∀ t ∈ ts, t.l.length ≤ 1048576 ∧ totM t.l ≤ 1048576) := hs
  clear h hs
  obtain ⟨c0, _⟩ := HWa.out Wa (Below.refl _ _)
  go_enter Tryz.func30, Tryz.ntmps30
  go_upto_region 1 with fail
  rw [← hWa]
  clear hWa
  go_wp2_with (at_make; refine wpList_make_own _ rfl _ _ 28 rfl Wa.heap.size 56 iT _ 2 Tryz.underlying28 HIT.out.1 HIT.out.2.1 HIT.out.2.2.1 _ _ _ ts.length rfl rfl rfl ?hb ?hm ?hs ?_)
  case hb => rw [HIT.out.2.2.2]; omega
  case hm => unfold maxLen; omega
  case hs => exact Nat.le_refl _
  intro w1 hown hgrow
  have HW1 : Hid (w1.ownsRow (w.heap.size + 1 + 1) 56 2 (.slice (some ⟨w.heap.size + 1 + 1, 0, none⟩) 0 ts.length) 0 []) := hown
  have hb1 : Below Wa.heap.size Wa w1 := (Below.refl _ _).grown hgrow (Nat.le_refl _) (fun k hk => by cases hk)
  clear hown hgrow c0
  obtain ⟨c0, _⟩ := HWa.out w1 hb1
  go_wp2_with fail
  clear c0
  go_loopw [3, 16] (fun o i wr => ∃ (k g cp : Nat) (xs : List Tx), k ≤ ts.length ∧ i = .int .i64 k ∧ o = .slice (some ⟨g, 0, none⟩) k cp ∧ xs.length = k ∧ xs.map Tx.tb = (ts.take k).map Ty.tb ∧ wr.ownsRow Wa.heap.size 56 2 (.slice (some ⟨g, 0, none⟩) k cp) k (cellsP (xs.map Tx.pr)) ∧ OwnTs wr Wa.heap.size xs ∧ ApartT xs ∧ Below Wa.heap.size Wa wr) (fun _ i _ => ts.length - (intOf i).toNat)
  case atStart => exact ⟨0, w.heap.size + 1 + 1, ts.length, [], Nat.zero_le _, rfl, rfl, rfl, rfl, (by rw [hza]; exact HW1.out), ⟨fun t ht => by simp at ht, fun t ht => by simp at ht⟩, List.Pairwise.nil, hb1⟩
  case round =>
    obtain ⟨wo, hwo⟩ : ∃ v : World, v = wr := ⟨_, rfl⟩
    subst hwo
    obtain ⟨k, g, cp, xs, hk, rfl, rfl, hxl, hxt, hrow, hts, hap, hb⟩ := hrel
    have HR : Hid (xs.length = k ∧ xs.map Tx.tb = (ts.take k).map Ty.tb ∧ wo.ownsRow Wa.heap.size 56 2 (.slice (some ⟨g, 0, none⟩) k cp) k (cellsP (xs.map Tx.pr)) ∧ OwnTs wo Wa.heap.size xs ∧ ApartT xs) := ⟨hxl, hxt, hrow, hts, hap⟩
    have hg := World.ownsRow.lt hrow g rfl
    have hso := hb.size
    clear hxl hxt hrow hts hap
    by_cases hlt : k < ts.length
    · obtain ⟨t, ht⟩ : ∃ t, ts[k]? = some t := ⟨_, List.getElem?_eq_getElem hlt⟩
      obtain ⟨_, _, _, d3, d4⟩ := HWa.out wo hb
      obtain ⟨e0, e1, hin⟩ := d3 k t ht
      obtain ⟨lo, tv, l⟩ := t
      simp only at e0 e1 hin
      obtain ⟨ad, vc, rfl, hcell⟩ := hin.shape
      have hl2 := HS.out _ (List.mem_of_getElem? ht)
      simp only at hl2
      have hll : l.length ≤ 1048576 := hl2.1
      have HD : Hid (ts[k]? = some ⟨lo, .slice ad l.length vc, l⟩ ∧ totM l ≤ 1048576 ∧ (∀ (i : Nat) (r : Rm), l[i]? = some r → ∃ b off, ad = some ⟨b, off, none⟩ ∧ b < wo.heap.size ∧ RmsAt wo b off l)) := ⟨ht, hl2.2, hcell⟩
      clear d3 ht hin hl2 hcell
      have zk : (k : Int) < (ts.length : Int) := by omega
      obtain ⟨W1, hW1⟩ : ∃ W1 : World, W1 = wo.alloc (Obj.cells #[.string lo, .slice ad l.length vc] 56) := ⟨_, rfl⟩
      have hbA : Below wo.heap.size wo W1 := by rw [hW1]; exact (Below.refl _ _).alloc (Nat.le_refl _) _
      have hzA : W1.heap.size = wo.heap.size + 1 := by rw [hW1]; simp
      have HC1 : Hid (∀ wx, Below W1.heap.size W1 wx → wx.cell? ⟨wo.heap.size, 0, none⟩ = some (.string lo) ∧ wx.cell? ⟨wo.heap.size, 1, none⟩ = some (.slice ad l.length vc)) := by
        intro wx hx
        constructor
        · rw [hx.cell (p := ⟨wo.heap.size, 0, none⟩) (by show wo.heap.size < W1.heap.size; omega), hW1]; simp
        · rw [hx.cell (p := ⟨wo.heap.size, 1, none⟩) (by show wo.heap.size < W1.heap.size; omega), hW1]; simp
      obtain ⟨n0, n1⟩ := HC1.out W1 (Below.refl _ _)
      go_upto_region 5 with fail
      rw [← hW1]
      clear hW1
      go_wp2_with (at_make; refine wpList_make_own _ rfl _ _ 54 rfl (wo.heap.size + 1) 58 iR _ 1 Tryz.underlying54 HIR.out.1 HIR.out.2.1 HIR.out.2.2.1 _ _ _ l.length rfl rfl rfl ?hb ?hm ?hs ?_)
      case hb => rw [HIR.out.2.2.2]; omega
      case hm => unfold maxLen; omega
      case hs => omega
      intro w2 hown hgrow
      have hb2 : Below W1.heap.size W1 w2 := (Below.refl _ _).grown hgrow (Nat.le_refl _) (fun k hk => by cases hk)
      have HW2 : Hid (w2.ownsRow (wo.heap.size + 1) 58 1 (.slice (some ⟨wo.heap.size + 1, 0, none⟩) 0 l.length) 0 []) := hown
      clear hgrow n0 n1 hown
      obtain ⟨n0, n1⟩ := HC1.out w2 hb2
      go_wp2_with fail
      clear n0 n1 e0 e1
      go_loopw [6, 27] (fun o i wr => ∃ (j g6 cp6 : Nat) (rs : List Rw), j ≤ l.length ∧ i = .int .i64 j ∧ o = .slice (some ⟨g6, 0, none⟩) j cp6 ∧ rs.length = j ∧ rs.map Rw.es = esM (l.take j) ∧ wr.ownsRow (wo.heap.size + 1) 58 1 (.slice (some ⟨g6, 0, none⟩) j cp6) j (rs.map Rw.u) ∧ (∀ r ∈ rs, OwnK wr (wo.heap.size + 1) r) ∧ Apart rs ∧ Below W1.heap.size W1 wr) (fun _ i _ => l.length - (intOf i).toNat)
      case atStart => exact ⟨0, wo.heap.size + 1, l.length, [], Nat.zero_le _, rfl, rfl, rfl, rfl, HW2.out, fun r hr => by simp at hr, List.Pairwise.nil, hb2⟩
      case round =>
        obtain ⟨wi, hwi⟩ : ∃ v : World, v = wr := ⟨_, rfl⟩
        subst hwi
        obtain ⟨j, g6, cp6, rs, hj, rfl, rfl, hrl, hes, hrow, hks, hap, hbi⟩ := hrel
        have HRi : Hid (rs.length = j ∧ rs.map Rw.es = esM (l.take j) ∧ wi.ownsRow (wo.heap.size + 1) 58 1 (.slice (some ⟨g6, 0, none⟩) j cp6) j (rs.map Rw.u) ∧ (∀ r ∈ rs, OwnK wi (wo.heap.size + 1) r) ∧ Apart rs) := ⟨hrl, hes, hrow, hks, hap⟩
        have hg6 := World.ownsRow.lt hrow g6 rfl
        have hsi := hbi.size
        clear hrl hes hrow hks hap
        by_cases hjl : j < l.length
        · obtain ⟨r, hr⟩ : ∃ r, l[j]? = some r := ⟨_, List.getElem?_eq_getElem hjl⟩
          obtain ⟨b', off', rfl, hB', hat⟩ := HD.out.2.2 j r hr
          have hbw : Below wo.heap.size wo wi := hbA.trans (hbi.mono (by omega))
          obtain ⟨m0, ha⟩ := (hat.below hbw hB') j r hr
          have hrt : r.es.length ≤ 1048576 := by have := totM_mem (List.mem_of_getElem? hr); have := HD.out.2.1; omega
          have HRr : Hid (l[j]? = some r ∧ r.at wi) := ⟨hr, ha⟩
          clear hr ha hat
          have zj : (j : Int) < (l.length : Int) := by omega
          obtain ⟨W3, hW3⟩ : ∃ W3 : World, W3 = wi.alloc (Obj.cells #[.slice (some ⟨r.b, r.off, none⟩) r.es.length r.cap] 58) := ⟨_, rfl⟩
          have hb3 : Below wi.heap.size wi W3 := by rw [hW3]; exact (Below.refl _ _).alloc (Nat.le_refl _) _
          have hz3 : W3.heap.size = wi.heap.size + 1 := by rw [hW3]; simp
          have p0 : W3.cell? ⟨wi.heap.size, 0, none⟩ = some (.slice (some ⟨r.b, r.off, none⟩) r.es.length r.cap) := by rw [hW3]; simp
          go_upto_region 9 with fail
          rw [← hW3]
          clear hW3
          go_wp2_with fail
          refine (clone_core r _ (HRr.out.2.below hb3) hrt).mono ?_
          rintro e w4 ⟨g4, cp4, rfl, hO4, hb4⟩
          have HO4 : Hid (OwnE w4 W3.heap.size g4 cp4 r.es) := hO4
          have hb34 : Below wi.heap.size wi w4 := hb3.trans (hb4.mono (by omega))
          have s4 := hb34.size
          have hus : (rs.map Rw.u).length = j := by rw [List.length_map]; exact HRi.out.1
          have HR4 : Hid ((w4.alloc (Obj.cells #[.slice (some ⟨g4, 0, none⟩) r.es.length cp4] 58)).ownsRow (wo.heap.size + 1) 58 1 (.slice (some ⟨g6, 0, none⟩) j cp6) (rs.map Rw.u).length (rs.map Rw.u)) := by
            show World.ownsRow _ _ _ _ _ _ _
            rw [hus]
            exact World.ownsRow.alloc (row_below HRi.out.2.2.1 hb34) _
          clear hO4 p0 m0
          go_wp2_with (at_builtin; refine wpList_append_runO _ rfl _ _ rfl (wo.heap.size + 1) (.slice (some ⟨g6, 0, none⟩) j cp6) (rs.map Rw.u) w4.heap.size 0 1 1 [.slice (some ⟨g4, 0, none⟩) r.es.length cp4] rfl rfl rfl HR4.out one_cell_new ?h1 ?hl ?hb ?_)
          case h1 => intro u hu; simp at hu; subst hu; rfl
          case hl => rw [hus]; simp; omega
          case hb => simp; omega
          intro v' w5 hA5
          have hz : (rs.map Rw.u ++ [Value.slice (some ⟨g4, 0, none⟩) r.es.length cp4]).length = j + 1 := by simp [hus]
          obtain ⟨g5, cp5, rfl⟩ := hA5.form (by intro q; cases q)
          have hO5 := hA5.row
          rw [hz] at hO5 ⊢
          have hgr5 := hA5.grown
          clear hA5
          have HN : Hid (∃ rs' : List Rw, rs'.length = j + 1 ∧ rs'.map Rw.es = esM (l.take (j + 1)) ∧ w5.ownsRow (wo.heap.size + 1) 58 1 (.slice (some ⟨g5, 0, none⟩) (j + 1) cp5) (j + 1) (rs'.map Rw.u) ∧ (∀ r ∈ rs', OwnK w5 (wo.heap.size + 1) r) ∧ Apart rs') := by
            obtain ⟨q1, q2, q3, q4, q5⟩ := HRi.out
            have hbz : Below w4.heap.size w4 (w4.alloc (Obj.cells #[.slice (some ⟨g4, 0, none⟩) r.es.length cp4] 58)) := (Below.refl _ _).alloc (Nat.le_refl _) _
            have hkk : ∀ x : Rw, OwnK w4 (wo.heap.size + 1) x → OwnK w5 (wo.heap.size + 1) x := fun x hx => by
              refine (hx.below hbz).kept hgr5 (fun k' hk' q => ?_)
              have hq : g6 = k' := Option.some.inj q
              subst hq
              rcases hx with ⟨h0, _⟩ | ⟨g2, cp2, h1, h2, hE⟩
              · rw [h0] at hk'; cases hk'
              · rw [h1] at hk'
                have e2 : g2 = g6 := Option.some.inj hk'
                subst e2
                exact own_apart (row_below q3 hb34) hE (by decide) _ rfl rfl
            refine ⟨rs ++ [⟨.slice (some ⟨g4, 0, none⟩) r.es.length cp4, r.es, some g4⟩], by simp [q1], ?_, ?_, ?_, ?_⟩
            · rw [List.map_append, q2, List.take_add_one, HRr.out.1]; simp [esM]
            · rw [List.map_append]
              exact hO5
            · intro x hx
              rcases List.mem_append.1 hx with hx | hx
              · exact hkk x ((q4 x hx).below hb34)
              · simp at hx
                subst hx
                exact hkk _ ((OwnK.mono (.inr ⟨g4, cp4, rfl, rfl, HO4.out⟩) (by omega)))
            · refine apart_snoc (n := wi.heap.size) q5 (fun x hx k' hk' => ((q4 x hx).key hk').2) (fun k' hk' => ?_)
              have e2 : g4 = k' := Option.some.inj hk'
              subst e2
              have := HO4.out.lt.1
              omega
          have hb5 : Below W1.heap.size W1 w5 := ((hbi.trans (hb34.mono hsi)).alloc (by omega) _).grown hgr5 (by simp; omega) (fun q hq => by have e : g6 = q := Option.some.inj hq; have := hg6.1; omega)
          clear hO5 hgr5 hus hz
          go_wp2_with fail
          go_roundw
          case rel =>
            go_light
            obtain ⟨rs', a1, a2, a3, a4, a5⟩ := HN.out
            exact ⟨j + 1, g5, cp5, rs', by omega, by go_num, rfl, a1, a2, a3, a4, a5, hb5⟩
          case measure => go_light; simp [intOf]; omega
        · have zj : ¬ (j : Int) < (l.length : Int) := by omega
          obtain ⟨n0, n1⟩ := HC1.out wi hbi
          have hbw : Below wo.heap.size wo wi := hbA.trans (hbi.mono (by omega))
          have s4 := hbw.size
          have hus : (xs.map Tx.pr).length = k := by rw [List.length_map]; exact HR.out.1
          have HR4 : Hid ((wi.alloc (Obj.cells #[.string lo, .slice (some ⟨g6, 0, none⟩) j cp6] 56)).ownsRow Wa.heap.size 56 2 (.slice (some ⟨g, 0, none⟩) k cp) (xs.map Tx.pr).length (cellsP (xs.map Tx.pr))) := by
            show World.ownsRow _ _ _ _ _ _ _
            rw [hus]
            exact World.ownsRow.alloc (row_below HR.out.2.2.1 hbw) _
          go_wp2_with (at_builtin; refine wpList_append_tabO _ rfl _ _ rfl Wa.heap.size (.slice (some ⟨g, 0, none⟩) k cp) (xs.map Tx.pr) wi.heap.size 0 1 1 [(lo, .slice (some ⟨g6, 0, none⟩) j cp6)] rfl rfl rfl HR4.out two_cells_new ?h1 ?hl ?hb ?_)
          case h1 => first | rfl | (intro p hp; simp at hp; subst hp; rfl)
          case hl => first | omega | (rw [hus]; simp; omega)
          case hb => first | omega | (simp; omega)
          intro v' w5 hA5
          have hz : (xs.map Tx.pr ++ [(lo, Value.slice (some ⟨g6, 0, none⟩) j cp6)]).length = k + 1 := by simp [hus]
          obtain ⟨g5, cp5, rfl⟩ := hA5.form (.inr (by simp))
          have HA5 : Hid (AppT (wi.alloc (Obj.cells #[.string lo, .slice (some ⟨g6, 0, none⟩) j cp6] 56)) w5 (w.heap.size + 1 + 1) (.slice (some ⟨g, 0, none⟩) k cp) (.slice (some ⟨g5, 0, none⟩) (xs.map Tx.pr ++ [(lo, Value.slice (some ⟨g6, 0, none⟩) j cp6)]).length cp5) (xs.map Tx.pr) [(lo, .slice (some ⟨g6, 0, none⟩) j cp6)]) := hA5
          rw [hz] at HA5 ⊢
          clear hA5
          have HN : Hid (∃ xs' : List Tx, xs'.length = k + 1 ∧ xs'.map Tx.tb = (ts.take (k + 1)).map Ty.tb ∧ w5.ownsRow Wa.heap.size 56 2 (.slice (some ⟨g5, 0, none⟩) (k + 1) cp5) (k + 1) (cellsP (xs'.map Tx.pr)) ∧ OwnTs w5 Wa.heap.size xs' ∧ ApartT xs') := by
            obtain ⟨q1, q2, q3, q4, q5⟩ := HR.out
            obtain ⟨r1, r2, r3, r4, r5⟩ := HRi.out
            rw [List.take_of_length_le (by omega)] at r2
            have hA := HA5.out
            rw [← hza] at hA
            have hbz : Below wi.heap.size wi (wi.alloc (Obj.cells #[.string lo, .slice (some ⟨g6, 0, none⟩) j cp6] 56)) := (Below.refl _ _).alloc (Nat.le_refl _) _
            have hrow1 := World.ownsRow.alloc (row_below q3 hbw) (Obj.cells #[.string lo, .slice (some ⟨g6, 0, none⟩) j cp6] 56)
            have hro : OwnRow wi (wo.heap.size + 1) (.slice (some ⟨g6, 0, none⟩) j cp6) rs := OwnRow.of (us := rs.map Rw.u) (by rw [List.length_map, r1]; exact r3) rfl
            have ht1 : OwnTs wi Wa.heap.size (xs ++ [⟨lo, .slice (some ⟨g6, 0, none⟩) j cp6, rs⟩]) := (q4.below hbw).snoc (hro.mono (by omega)) (fun r hr => (r4 r hr).mono (by omega))
            have ht2 : OwnTs w5 Wa.heap.size (xs ++ [⟨lo, .slice (some ⟨g6, 0, none⟩) j cp6, rs⟩]) := (ht1.below hbz).grown hrow1 hA.grown
            refine ⟨xs ++ [⟨lo, .slice (some ⟨g6, 0, none⟩) j cp6, rs⟩], by simp [q1], ?_, ?_, ht2, ?_⟩
            · rw [List.take_add_one, HD.out.1, List.map_append, List.map_append, q2]
              simp [Tx.tb, Ty.tb, r2]
            · have h5 := hA.row
              rw [hz] at h5
              rw [List.map_append]
              exact h5
            · refine apartT_snoc (n := wo.heap.size) q5 (fun x hx r hr k' hk' => ((q4.ents x hx r hr).key hk').2) (fun r hr k' hk' => ?_) r5
              have := ((r4 r hr).key hk').1
              omega
          have hb5 : Below Wa.heap.size Wa w5 := ((hb.trans (hbw.mono hso)).alloc (by omega) _).grown HA5.out.grown (by simp; omega) (fun j hj => by cases hj; exact hg.1)
          clear hus hz n0 n1
          go_wp2_with fail
          go_roundw
          case rel =>
            go_light
            obtain ⟨xs', a1, a2, a3, a4, a5⟩ := HN.out
            exact ⟨k + 1, g5, cp5, xs', by omega, by go_num, rfl, a1, a2, a3, a4, a5, hb5⟩
          case measure => go_light; simp [intOf]; omega
    · have zk : ¬ (k : Int) < (ts.length : Int) := by omega
      obtain ⟨_, d1, d2, _⟩ := HWa.out wo hb
      have HF : Hid (xs.length = k ∧ OwnSt (wo.setCell ⟨w.heap.size + 1, 0, none⟩ (.slice (some ⟨g, 0, none⟩) k cp)) w.heap.size (.slice (some ⟨g, 0, none⟩) k cp) xs ∧ ApartT xs ∧ xs.map Tx.tb = ts.map Ty.tb ∧ Below w.heap.size w (wo.setCell ⟨w.heap.size + 1, 0, none⟩ (.slice (some ⟨g, 0, none⟩) k cp))) := by
        obtain ⟨q1, q2, q3, q4, q5⟩ := HR.out
        rw [List.take_of_length_le (by omega)] at q2
        have hq := row_set q3 (w.heap.size + 1) 0 (.slice (some ⟨g, 0, none⟩) k cp) (by omega)
        have ht := q4.set (w.heap.size + 1) 0 (.slice (some ⟨g, 0, none⟩) k cp) (by omega)
        exact ⟨q1, ⟨ownTRow_of (row_mono hq (by omega)) q1, fun t ht' => (ht.runs t ht').mono (by omega), fun t ht' r hr => (ht.ents t ht' r hr).mono (by omega)⟩, q5, q2, ((hba.trans (hb.mono (by omega))).setCell (by show w.heap.size ≤ w.heap.size + 1; omega) _)⟩
      go_wp2_with fail
      refine bodyPost_ret (v := .agg #[.slice (some ⟨g, 0, none⟩) k cp]) (by simp [results, Tryz.results30, go_sem, d1]) rfl ⟨g, cp, xs, by rw [HF.out.1], by rw [HF.out.1]; exact HF.out.2.1, HF.out.2.2.1, HF.out.2.2.2.1, HF.out.2.2.2.2⟩
end Go.Proofs.YtlgeffinhbodeafGreat

/-
  impl's replaced.
-/
namespace Go.Proofs.YtlgeffinhbodeafGreat
open Go.ChangeShapes Go.WideShapes Go.ChangeAt Go.RowKit Go.Deep
set_option linter.unusedVariables false
set_option linter.unusedSimpArgs false
set_option maxRecDepth 100000

def Ty.pr (t : Ty) : Pr := (t.lo, t.v)
theorem TysAt.cells {w : World} {b off : Nat} {ts : List Ty} (h : TysAt w b off ts) : ∀ j u, (ts.map Ty.pr)[j]? = some u → w.cell? ⟨b, off + j * 2, none⟩ = some (.string u.1) ∧ w.cell? ⟨b, off + j * 2 + 1, none⟩ = some u.2 := by
  intro j u hu
  rw [List.getElem?_map] at hu
  cases hp : ts[j]? with
  | none => rw [hp] at hu; cases hu
  | some p =>
    rw [hp] at hu
    simp at hu
    subst hu
    obtain ⟨h1, h2, _⟩ := h j p hp
    exact ⟨h1, h2⟩
theorem TysAt.one {w : World} {b off : Nat} {ts : List Ty} (h : TysAt w b off ts) : ∀ u ∈ ts.map Ty.pr, u.2.oneCell' = true := by
  intro u hu
  obtain ⟨t, ht, rfl⟩ := List.mem_map.1 hu
  obtain ⟨j, hj⟩ := List.getElem?_of_mem ht
  exact (h j t hj).2.2.one
theorem TysAt.take {w : World} {b off : Nat} {ts : List Ty} (h : TysAt w b off ts) (n : Nat) : TysAt w b off (ts.take n) := by
  intro i t ht
  rw [List.getElem?_take] at ht
  by_cases hi : i < n
  · rw [if_pos hi] at ht; exact h i t ht
  · rw [if_neg hi] at ht; cases ht
theorem TysAt.drop {w : World} {b off : Nat} {ts : List Ty} (h : TysAt w b off ts) (n : Nat) : TysAt w b (off + n * 2) (ts.drop n) := by
  intro i t ht
  rw [List.getElem?_drop] at ht
  have := h (n + i) t ht
  rw [show off + (n + i) * 2 = off + n * 2 + i * 2 by omega] at this
  exact this
theorem OwnSt.mono {w : World} {base base' : Nat} {v : Value} {ts : List Tx} (h : OwnSt w base v ts) (hb : base' ≤ base) : OwnSt w base' v ts := by
  refine ⟨?_, fun t ht => (h.runs t ht).mono hb, fun t ht r hr => (h.ents t ht r hr).mono hb⟩
  rcases h.row with q | ⟨g, cp, hv, hO⟩
  · exact .inl q
  · exact .inr ⟨g, cp, hv, hO.mono hb⟩
/-- Tablets read again out of a row of the call's own. -/
theorem tys_row {w : World} {base g n cp : Nat} {ts : List Ty} (h : w.ownsRow base 56 2 (.slice (some ⟨g, 0, none⟩) n cp) n (cellsP (ts.map Ty.pr))) (hn : n = ts.length) (hin : ∀ t ∈ ts, InRms w t.v t.l) : TysAt w g 0 ts := by
  subst hn
  have hO : OwnP w base g cp (ts.map Ty.pr) := by
    unfold OwnP
    rw [List.length_map]
    exact h
  intro i t ht
  obtain ⟨c0, c1⟩ := hO.cells (p := t.pr) (i := i) (by rw [List.getElem?_map, ht]; rfl)
  rw [Nat.zero_add]
  exact ⟨c0, c1, hin t (List.mem_of_getElem? ht)⟩

set_option maxHeartbeats 8000000 in
theorem implReplaced_core (b off cap : Nat) (ts os : List Ty) (fr til ob : Nat) (w : World) (h : TysAt w b off ts) (hB : b < w.heap.size) (ho : TysAt w ob 0 os) (hoB : ob < w.heap.size) (hn : ts.length ≤ 1000) (hon : os.length ≤ 1000) (hcap : ts.length ≤ cap) (hcm : cap ≤ maxLen) (h1 : fr ≤ til) (h2 : til ≤ ts.length) (h0 : 0 < os.length)
    (hs : ∀ t ∈ ts ++ os, t.l.length ≤ 1048576 ∧ totM t.l ≤ 1048576) :
    Calls Tryz.prog 46 #[.agg #[.slice (some ⟨b, off, none⟩) ts.length cap], .int .i64 fr, .int .i64 til, .slice (some ⟨ob, 0, none⟩) os.length os.length] w fun e w' => CpIPost w ((ts.take fr ++ os ++ ts.drop til).map Ty.tb) e w' := by
  obtain ⟨Wa, hWa⟩ : ∃ Wa : World, Wa = (w.alloc (Obj.cells #[.slice (some ⟨b, off, none⟩) ts.length cap] 30)).alloc (Obj.cells #[.slice none 0 0] 30) := ⟨_, rfl⟩
  have hba : Below w.heap.size w Wa := by rw [hWa]; exact ((Below.refl _ _).alloc (Nat.le_refl _) _).alloc (by simp) _
  have hza : Wa.heap.size = w.heap.size + 1 + 1 := by rw [hWa]; simp
  have HWa : Hid (∀ wx, Below Wa.heap.size Wa wx → wx.cell? ⟨w.heap.size, 0, none⟩ = some (.slice (some ⟨b, off, none⟩) ts.length cap) ∧ wx.cell? ⟨w.heap.size + 1, 0, none⟩ = some (.slice none 0 0) ∧ wx.frozen? ⟨w.heap.size + 1, 0, none⟩ = false ∧ TysAt wx b off ts ∧ TysAt wx ob 0 os) := by
    intro wx hx
    have sx := hx.size
    refine ⟨?_, ?_, ?_, (h.below hba hB).below hx (by omega), (ho.below hba hoB).below hx (by omega)⟩
    · rw [hx.cell (p := ⟨w.heap.size, 0, none⟩) (by show w.heap.size < Wa.heap.size; omega), hWa]; simp [go_sem]
    · rw [hx.cell (p := ⟨w.heap.size + 1, 0, none⟩) (by show w.heap.size + 1 < Wa.heap.size; omega), hWa]; simp [go_sem]
    · rw [hx.frozen (p := ⟨w.heap.size + 1, 0, none⟩) (by show w.heap.size + 1 < Wa.heap.size; omega), hWa]; simp [go_sem]
  have HS : Hid (∀ t ∈ ts ++ os, t.l.length ≤ 1048576 ∧ totM t.l ≤ 1048576) := hs
  unfold maxLen at hcm
  clear h ho hs
  obtain ⟨c0, _⟩ := HWa.out Wa (Below.refl _ _)
  have cd : Wa.drew.cell? ⟨w.heap.size, 0, none⟩ = some (.slice (some ⟨b, off, none⟩) ts.length cap) := by simpa using c0
  go_enter Tryz.func46, Tryz.ntmps46
  go_upto_region 1 with fail
  rw [← hWa]
  clear hWa
  have hS : (fun w' : World => w'.cell? ⟨w.heap.size, 0, none⟩ = some (.slice (some ⟨b, off, none⟩) ts.length cap)) Wa.drew := cd
  have hf1 : (fr : Int) ≤ (cap : Int) := by omega
  have ht1 : (til : Int) ≤ (ts.length : Int) := by omega
  have ht2 : (til : Int) ≤ (cap : Int) := by omega
  obtain ⟨X, hX⟩ : ∃ X, X = (if cap = til then off else off + til * 2) := ⟨_, rfl⟩
  have HX : Hid (X = (if cap = til then off else off + til * 2)) := hX
  clear hX
  refine wp_region_T 13 (fun w' : World => w'.cell? ⟨w.heap.size, 0, none⟩ = some (.slice (some ⟨b, off, none⟩) ts.length cap)) (by kernel_rfl) ?_
  refine anyT_take (i := 0) (v := ?vq0) rfl (by kernel_rfl) (by kernel_rfl) (by kernel_rfl) (by kernel_rfl) (by decide) (fun _ _ _ h => h) (Or.inl ⟨by rfl, ?yq0⟩) hS ?_
  case yq0 => (intro wz hSw; (try dsimp only at hSw); go_simp; (try with_reducible rfl))
  try simp only [Act.put, List.setIfInBounds_toArray, List.set_cons_zero, List.set_cons_succ]
  refine anyT_take (i := 1) (v := ?vq1) rfl (by kernel_rfl) (by kernel_rfl) (by kernel_rfl) (by kernel_rfl) (by decide) (fun _ _ _ h => h) (Or.inl ⟨by rfl, ?yq1⟩) hS ?_
  case yq1 => (intro wz hSw; (try dsimp only at hSw); go_simp; (try with_reducible rfl))
  try simp only [Act.put, List.setIfInBounds_toArray, List.set_cons_zero, List.set_cons_succ]
  refine anyT_take (i := 2) (v := ?vq2) rfl (by kernel_rfl) (by kernel_rfl) (by kernel_rfl) (by kernel_rfl) (by decide) (fun _ _ _ h => h) (Or.inl ⟨by rfl, ?yq2⟩) hS ?_
  case yq2 => (intro wz hSw; (try dsimp only at hSw); go_simp; (try with_reducible rfl))
  try simp only [Act.put, List.setIfInBounds_toArray, List.set_cons_zero, List.set_cons_succ]
  refine anyT_take (i := 3) (v := ?vq3) rfl (by kernel_rfl) (by kernel_rfl) (by kernel_rfl) (by kernel_rfl) (by decide) (fun _ _ _ h => h) (Or.inl ⟨by rfl, ?yq3⟩) hS ?_
  case yq3 => (intro wz hSw; (try dsimp only at hSw); go_simp; (try with_reducible rfl))
  try simp only [Act.put, List.setIfInBounds_toArray, List.set_cons_zero, List.set_cons_succ]
  refine anyT_take (i := 4) (v := ?vq4) rfl (by kernel_rfl) (by kernel_rfl) (by kernel_rfl) (by kernel_rfl) (by decide) (fun _ _ _ h => h) (Or.inl ⟨by rfl, ?yq4⟩) hS ?_
  case yq4 => (intro wz hSw; (try dsimp only at hSw); go_simp; (try with_reducible rfl))
  try simp only [Act.put, List.setIfInBounds_toArray, List.set_cons_zero, List.set_cons_succ]
  refine anyT_take (i := 5) (v := ?vq5) rfl (by kernel_rfl) (by kernel_rfl) (by kernel_rfl) (by kernel_rfl) (by decide) (fun _ _ _ h => h) (Or.inl ⟨by rfl, ?yq5⟩) hS ?_
  case yq5 => (intro wz hSw; (try dsimp only at hSw); go_simp; (try with_reducible rfl))
  try simp only [Act.put, List.setIfInBounds_toArray, List.set_cons_zero, List.set_cons_succ]
  refine anyT_take (i := 6) (v := ?vq6) rfl (by kernel_rfl) (by kernel_rfl) (by kernel_rfl) (by kernel_rfl) (by decide) (fun _ _ _ h => h) (Or.inl ⟨by rfl, ?yq6⟩) hS ?_
  case yq6 => (intro wz hSw; (try dsimp only at hSw); go_simp; (try with_reducible rfl))
  try simp only [Act.put, List.setIfInBounds_toArray, List.set_cons_zero, List.set_cons_succ]
  refine anyT_take (i := 7) (v := ?vq7) rfl (by kernel_rfl) (by kernel_rfl) (by kernel_rfl) (by kernel_rfl) (by decide) (fun _ _ _ h => h) (Or.inl ⟨by rfl, ?yq7⟩) hS ?_
  case yq7 => (intro wz hSw; (try dsimp only at hSw); go_simp; (try with_reducible rfl))
  try simp only [Act.put, List.setIfInBounds_toArray, List.set_cons_zero, List.set_cons_succ]
  refine anyT_take (i := 8) (v := .slice (some ⟨b, X, none⟩) (ts.length - til) (cap - til)) rfl (by kernel_rfl) (by kernel_rfl) (by kernel_rfl) (by kernel_rfl) (by decide) (fun _ _ _ h => h) (Or.inl ⟨by rfl, ?yq8⟩) hS ?_
  case yq8 =>
    intro wz hSw
    by_cases hct : cap = til
    · have hX2 : X = off := by rw [HX.out, if_pos hct]
      have hz : cap - til = 0 := by omega
      rw [hX2, hz]
      go_simp
      try with_reducible rfl
    · have hX2 : X = off + til * 2 := by rw [HX.out, if_neg hct]
      rw [hX2]
      go_simp
      try with_reducible rfl
  try simp only [Act.put, List.setIfInBounds_toArray, List.set_cons_zero, List.set_cons_succ]
  refine anyT_one (i := 9) (by kernel_rfl) rfl (fun K hK => ?_)
  go_simp
  obtain ⟨W1, hW1⟩ : ∃ W1 : World, W1 = (Wa.alloc (Obj.cells #[.slice (some ⟨b, off, none⟩) fr cap, .slice (some ⟨ob, 0, none⟩) os.length os.length, .slice (some ⟨b, X, none⟩) (ts.length - til) (cap - til)] 28)).drew := ⟨_, rfl⟩
  have hb1 : Below Wa.heap.size Wa W1 := by rw [hW1]; exact ((Below.refl _ _).alloc (Nat.le_refl _) _).drew
  have hz1 : W1.heap.size = w.heap.size + 1 + 1 + 1 := by rw [hW1]; simp [hza]
  obtain ⟨p0, _, _, hT1, hO1⟩ := HWa.out W1 hb1
  have HPs : Hid (PtsAtT W1 (w.heap.size + 1 + 1) [⟨b, off, cap, (ts.take fr).map Ty.pr⟩, ⟨ob, 0, os.length, os.map Ty.pr⟩, ⟨b, X, cap - til, (ts.drop til).map Ty.pr⟩]) := by
    have k0 : W1.cell? ⟨w.heap.size + 1 + 1, 0, none⟩ = some (.slice (some ⟨b, off, none⟩) fr cap) := by rw [hW1, ← hza]; simp
    have k1 : W1.cell? ⟨w.heap.size + 1 + 1, 1, none⟩ = some (.slice (some ⟨ob, 0, none⟩) os.length os.length) := by rw [hW1, ← hza]; simp
    have k2 : W1.cell? ⟨w.heap.size + 1 + 1, 2, none⟩ = some (.slice (some ⟨b, X, none⟩) (ts.length - til) (cap - til)) := by rw [hW1, ← hza]; simp
    have l1 : ((ts.take fr).map Ty.pr).length = fr := by rw [List.length_map, List.length_take]; omega
    have l3 : ((ts.drop til).map Ty.pr).length = ts.length - til := by rw [List.length_map, List.length_drop]
    intro i p hp
    match i, hp with
    | 0, hp =>
      obtain rfl := Option.some.inj hp
      exact ⟨by rw [k0, l1], ⟨(hT1.take fr).cells, (hT1.take fr).one, by show b < _; omega⟩⟩
    | 1, hp =>
      obtain rfl := Option.some.inj hp
      exact ⟨by rw [k1, List.length_map], ⟨hO1.cells, hO1.one, by show ob < _; omega⟩⟩
    | 2, hp =>
      obtain rfl := Option.some.inj hp
      refine ⟨by rw [k2, l3], ?_⟩
      by_cases hct : cap = til
      · have hd : ts.drop til = [] := List.drop_eq_nil_of_le (by omega)
        rw [hd]
        exact ⟨fun j u hu => by simp at hu, fun u hu => by simp at hu, by show b < _; omega⟩
      · have hX2 : X = off + til * 2 := by rw [HX.out, if_neg hct]
        rw [hX2]
        exact ⟨(hT1.drop til).cells, (hT1.drop til).one, by show b < _; omega⟩
    | n + 3, hp => simp at hp
  have HIn : Hid (∀ t ∈ ts.take fr ++ os ++ ts.drop til, InRms W1 t.v t.l ∧ t.l.length ≤ 1048576 ∧ totM t.l ≤ 1048576) := by
    intro t ht
    rcases List.mem_append.1 ht with ht | ht
    · rcases List.mem_append.1 ht with ht | ht
      · have hm := List.mem_of_mem_take ht
        obtain ⟨j, hj⟩ := List.getElem?_of_mem hm
        exact ⟨(hT1 j t hj).2.2, HS.out t (List.mem_append_left _ hm)⟩
      · obtain ⟨j, hj⟩ := List.getElem?_of_mem ht
        exact ⟨(hO1 j t hj).2.2, HS.out t (List.mem_append_right _ ht)⟩
    · have hm := List.mem_of_mem_drop ht
      obtain ⟨j, hj⟩ := List.getElem?_of_mem hm
      exact ⟨(hT1 j t hj).2.2, HS.out t (List.mem_append_left _ hm)⟩
  have hall : allP [⟨b, off, cap, (ts.take fr).map Ty.pr⟩, ⟨ob, 0, os.length, os.map Ty.pr⟩, ⟨b, X, cap - til, (ts.drop til).map Ty.pr⟩] = (ts.take fr ++ os ++ ts.drop til).map Ty.pr := by
    simp [allP]
  obtain ⟨nts, hnts⟩ : ∃ nts, nts = ts.take fr ++ os ++ ts.drop til := ⟨_, rfl⟩
  have hnl : 0 < nts.length ∧ nts.length ≤ 3000 := by
    rw [hnts]
    simp
    omega
  rw [← hnts] at hall HIn
  have HNts : Hid (nts = ts.take fr ++ os ++ ts.drop til) := hnts
  clear hnts
  rw [← hW1]
  refine hK.out _ _ (.inr p0) ?_
  clear hK hW1 hT1 hO1
  try simp only [Act.put, List.setIfInBounds_toArray, List.set_cons_zero, List.set_cons_succ]
  refine anyT_one (i := 10) (by kernel_rfl) rfl (fun K hK => ?_)
  go_simp
  go_at_call 76
  refine (concatT_core (w.heap.size + 1 + 1) _ _ HPs.out (by omega) (by rw [hall, List.length_map]; omega) (by simp)).mono ?_
  rintro r w2 ⟨v, rfl, hO2, hb2⟩
  rw [hall, List.length_map] at hO2
  obtain ⟨g, cp, rfl⟩ : ∃ g cp, v = .slice (some ⟨g, 0, none⟩) nts.length cp := by
    rcases hO2.2 with ⟨_, q⟩ | ⟨g, cp, cur, q, _⟩
    · omega
    · exact ⟨g, cp, q⟩
  have s2 := hb2.size
  have hgl := World.ownsRow.lt hO2 g rfl
  have hb12 : Below Wa.heap.size Wa w2 := hb1.trans (hb2.mono (by omega))
  have HT2 : Hid (TysAt w2 g 0 nts ∧ g < w2.heap.size ∧ ∀ t ∈ nts, t.l.length ≤ 1048576 ∧ totM t.l ≤ 1048576) := ⟨tys_row hO2 rfl (fun t ht => (HIn.out t ht).1.below hb2), hgl.2, fun t ht => (HIn.out t ht).2⟩
  obtain ⟨q0, _, _, _⟩ := HWa.out w2 hb12
  refine hK.out _ _ (.inr q0) ?_
  clear hK hO2
  try simp only [Act.put, List.setIfInBounds_toArray, List.set_cons_zero, List.set_cons_succ]
  refine anyT_take (i := 11) (v := ?vq11) rfl (by kernel_rfl) (by kernel_rfl) (by kernel_rfl) (by kernel_rfl) (by decide) (fun _ _ _ h => h) (Or.inl ⟨by rfl, ?yq11⟩) q0 ?_
  case yq11 => (intro wz hSw; (try dsimp only at hSw); go_simp; (try with_reducible rfl))
  try simp only [Act.put, List.setIfInBounds_toArray, List.set_cons_zero, List.set_cons_succ]
  refine anyT_one (i := 12) (by kernel_rfl) rfl (fun K hK => ?_)
  go_simp
  go_at_call 30
  refine (implCopied_core g 0 cp nts _ HT2.out.1 HT2.out.2.1 (by omega) HT2.out.2.2).mono ?_
  rintro r w3 ⟨g3, cp3, xs, rfl, hS3, hA3, hE3, hb3⟩
  have s3 := hb3.size
  have hb13 : Below Wa.heap.size Wa w3 := hb12.trans (hb3.mono hb12.size)
  have HF : Hid (OwnSt w3 w2.heap.size (.slice (some ⟨g3, 0, none⟩) xs.length cp3) xs ∧ ApartT xs ∧ xs.map Tx.tb = nts.map Ty.tb) := ⟨hS3, hA3, hE3⟩
  clear q0
  obtain ⟨q0, q1, q2, _⟩ := HWa.out w3 hb13
  refine hK.out _ _ (.inr q0) ?_
  clear hK hS3 hA3 hE3
  try simp only [Act.put, List.setIfInBounds_toArray, List.set_cons_zero, List.set_cons_succ]
  refine anyT_one (i := 13) (by kernel_rfl) rfl (fun K hK => ?_)
  go_simp
  refine hK.out _ _ (.inl rfl) ?_
  clear hK
  try simp only [Act.put, List.setIfInBounds_toArray, List.set_cons_zero, List.set_cons_succ]
  refine anyT_done (by kernel_rfl) ?_
  have HG : Hid (OwnSt (w3.setCell ⟨w.heap.size + 1, 0, none⟩ (.slice (some ⟨g3, 0, none⟩) xs.length cp3)) w.heap.size (.slice (some ⟨g3, 0, none⟩) xs.length cp3) xs ∧ Below w.heap.size w (w3.setCell ⟨w.heap.size + 1, 0, none⟩ (.slice (some ⟨g3, 0, none⟩) xs.length cp3))) := by
    refine ⟨?_, (hba.trans (hb13.mono (by omega))).setCell (by show w.heap.size ≤ w.heap.size + 1; omega) _⟩
    have h5 := HF.out.1.chg (Chg.of_set w3 (w.heap.size + 1) 0 (.slice (some ⟨g3, 0, none⟩) xs.length cp3) (S := fun k => k = w.heap.size + 1) rfl) (fun k hk _ q => by omega)
    exact h5.mono (by omega)
  go_wp2_with fail
  refine bodyPost_ret (v := .agg #[.slice (some ⟨g3, 0, none⟩) xs.length cp3]) (by simp [results, Tryz.results46, go_sem, q1]) rfl ⟨g3, cp3, xs, rfl, HG.out.1, HF.out.2.1, by rw [HF.out.2.2, HNts.out]; simp, HG.out.2⟩
end Go.Proofs.YtlgeffinhbodeafGreat

