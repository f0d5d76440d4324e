import Derived.Lib.AppendZeros
import Derived.Test.YtlgeffinhbodeaeQCpS
/-
  slices.Grow and slices.Concat over runs.
-/
namespace Go.Proofs.Ytlgeffinhbodeae
open Go.ChangeShapes Go.WideShapes Go.ChangeAt Go.RowKit Go.Deep
set_option linter.unusedVariables false
set_option linter.unusedSimpArgs false
set_option maxRecDepth 100000

/-- A new row without elements. -/
def CatPost (e size : Nat) (w : World) (xs : List Value) (n : Nat) (r : Ending) (w' : World) : Prop := ∃ v : Value, r = .returned v ∧ w'.ownsRow w.heap.size e size v n xs ∧ Below w.heap.size w w'
def GrowPost (e size : Nat) (w : World) (r : Ending) (w' : World) : Prop := ∃ v : Value, r = .returned v ∧ w'.ownsRow w.heap.size e size v 0 [] ∧ Below w.heap.size w w'
theorem grow_row (w : World) (t : TypeId) (z : Array Value) (size n c : Nat) (hz : z.size = size) (hn : n ≤ c) (hc : c ≤ maxLen) :
    (w.drew.alloc (.cells (Builtin.zeroCells z n ++ Builtin.zeroCells z (c - n)) t)).ownsRow w.heap.size t size (.slice (some ⟨w.heap.size, 0, none⟩) 0 c) 0 [] := by
  refine ⟨by simp, .inr ⟨w.heap.size, c, _, rfl, Nat.le_refl _, heap_alloc_new w.drew _, Nat.zero_le _, hc, ?_, by simp⟩⟩
  rw [Array.size_append, size_zeroCells, size_zeroCells, hz, ← Nat.add_mul]
  congr 1
  omega

set_option maxHeartbeats 2000000 in
theorem growR_core (n : Nat) (w : World) (hn : n ≤ 2 ^ 30) :
    Calls Try.prog 121 #[.slice none 0 0, .int .i64 n] w fun r w' => GrowPost 30 1 w r w' := by
  obtain ⟨i, hi, hz0, hz1, hz2⟩ := info_parts Try.infoRun
  by_cases h0 : n = 0
  · subst h0
    go_enter Try.func121, Try.ntmps121
    go_wp2_with fail
    go_ret
    exact ⟨_, rfl, World.ownsRow_nil .., Below.refl _ _⟩
  · have hp : 0 < n := by omega
    have HG : Hid (n ≤ grownCap w n 0 30 ∧ grownCap w n 0 30 ≤ maxLen) := ⟨grownCap_ge w n 0 _, grownCap_le_maxLen w n 0 _ (by unfold maxLen; omega)⟩
    have HRun : Hid (∀ ty, (Builtin.append_ #[23, 3] ty #[.slice none 0 0, .int .i64 n]).run Try.prog w = .ok (.slice (some ⟨w.heap.size, 0, none⟩) n (grownCap w n 0 30)) (w.drew.alloc (.cells (Builtin.zeroCells #[.slice none 0 0] n ++ Builtin.zeroCells #[.slice none 0 0] (grownCap w n 0 30 - n)) 30))) := fun ty =>
      Go.Lib.run_append_nil_zeros w 23 3 ty 30 i (.agg #[.slice none 0 0]) .i64 .i64 Try.underlying23 Try.underlying3 hi hz0 n hp (by omega) (by omega) (by rw [hz2]; omega)
    obtain ⟨c, hc⟩ : ∃ c, c = grownCap w n 0 30 := ⟨_, rfl⟩
    rw [← hc] at HG HRun
    have hcm := HG.out.2
    have hcn := HG.out.1
    unfold maxLen at hcm
    have zp : (0 : Int) < (n : Int) := by omega
    clear h0 hc hi hz0 hz1 hz2
    go_enter Try.func121, Try.ntmps121
    go_wp2_with (at_builtin; refine Go.Lib.wpList_append_run _ rfl _ _ _ _ rfl _ _ rfl rfl _ _ (HRun.out _) ?_)
    obtain ⟨W1, hW1⟩ : ∃ W1 : World, W1 = (w.drew.alloc (.cells (Builtin.zeroCells #[.slice none 0 0] n ++ Builtin.zeroCells #[.slice none 0 0] (c - n)) 30)) := ⟨_, rfl⟩
    have HO : Hid (W1.ownsRow w.heap.size 30 1 (.slice (some ⟨w.heap.size, 0, none⟩) 0 c) 0 [] ∧ Below w.heap.size w W1) := by
      rw [hW1]
      exact ⟨grow_row w _ _ 1 n c rfl hcn (by unfold maxLen; omega), (Below.refl _ _).drew.alloc (by simp) _⟩
    go_ret
    rw [hW1] at HO
    exact ⟨_, rfl, HO.out.1, HO.out.2⟩

/-- A slice of runs, as cells. -/
structure Pt where
  b : Nat
  off : Nat
  cap : Nat
  us : List Value
structure Pt.at (w : World) (p : Pt) : Prop where
  cells : ∀ j u, p.us[j]? = some u → w.cell? ⟨p.b, p.off + j, none⟩ = some u
  one : ∀ u ∈ p.us, u.oneCell' = true
  lt : p.b < w.heap.size
theorem Pt.at.below {w w' : World} {p : Pt} (h : p.at w) (hb : Below w.heap.size w w') : p.at w' := ⟨fun j u hu => by rw [hb.cell (p := ⟨p.b, p.off + j, none⟩) (by exact h.lt)]; exact h.cells j u hu, h.one, by have := hb.size; have := h.lt; omega⟩
def PtsAt (w : World) (sb : Nat) (ps : List Pt) : Prop := ∀ i p, ps[i]? = some p → w.cell? ⟨sb, i, none⟩ = some (.slice (some ⟨p.b, p.off, none⟩) p.us.length p.cap) ∧ p.at w
theorem PtsAt.below {w w' : World} {sb : Nat} {ps : List Pt} (h : PtsAt w sb ps) (hb : Below w.heap.size w w') (hlt : sb < w.heap.size) : PtsAt w' sb ps := fun i p hp => ⟨by rw [hb.cell (p := ⟨sb, i, none⟩) (by exact hlt)]; exact (h i p hp).1, (h i p hp).2.below hb⟩
def allU (ps : List Pt) : List Value := ps.flatMap Pt.us
theorem allU_take {ps : List Pt} {k : Nat} {p : Pt} (h : ps[k]? = some p) : allU (ps.take (k + 1)) = allU (ps.take k) ++ p.us := by
  unfold allU
  rw [List.take_add_one, h, List.flatMap_append]; simp
theorem allU_le (ps : List Pt) (k : Nat) : (allU (ps.take k)).length ≤ (allU ps).length := by
  have h : allU ps = allU (ps.take k) ++ allU (ps.drop k) := by
    unfold allU
    rw [← List.flatMap_append, List.take_append_drop]
  rw [h, List.length_append]
  omega

set_option maxHeartbeats 4000000 in
theorem concatR_core (sb : Nat) (ps : List Pt) (w : World) (h : PtsAt w sb ps) (hB : sb < w.heap.size) (hn : (allU ps).length ≤ 2 ^ 28) (hm : ps.length ≤ 1000) :
    Calls Try.prog 81 #[.slice (some ⟨sb, 0, none⟩) ps.length ps.length] w fun r w' => CatPost 30 1 w (allU ps) (allU ps).length r w' := by
  have HP : Hid (PtsAt w sb ps) := h
  clear h
  go_enter Try.func81, Try.ntmps81
  go_wp2_with fail
  go_loopw [3, 11] (fun s i wr => ∃ (k x : Nat), k ≤ ps.length ∧ i = .int .i64 k ∧ s = .int .i64 x ∧ x = (allU (ps.take k)).length ∧ Below w.heap.size w wr) (fun _ i _ => ps.length - (intOf i).toNat)
  case atStart => exact ⟨0, 0, Nat.zero_le _, rfl, rfl, rfl, Below.refl _ _⟩
  case round =>
    obtain ⟨k, x, hk, rfl, rfl, hx, hb0⟩ := hrel
    have hs0 := hb0.size
    have HX : Hid (x = (allU (ps.take k)).length) := hx
    have hxl : x ≤ 2 ^ 28 := by have := allU_le ps k; omega
    clear hx
    by_cases hlt : k < ps.length
    · obtain ⟨p, hp⟩ : ∃ p, ps[k]? = some p := ⟨_, List.getElem?_eq_getElem hlt⟩
      obtain ⟨c0, _⟩ := (HP.out.below hb0 hB) k p hp
      have HX2 : Hid (x + p.us.length = (allU (ps.take (k + 1))).length) := by
        have h1 := HX.out
        show x + p.us.length = (allU (ps.take (k + 1))).length
        rw [allU_take hp, List.length_append, ← h1]
      have hx2 : x + p.us.length ≤ 2 ^ 28 := by have := HX2.out; have := allU_le ps (k + 1); omega
      clear hp
      have zk : (k : Int) < (ps.length : Int) := by omega
      have zz : ¬ (x : Int) + (p.us.length : Int) < 0 := by omega
      go_wp2_with fail
      go_roundw
      case rel => go_light; exact ⟨k + 1, x + p.us.length, by omega, by go_num, by go_num, HX2.out, hb0⟩
      case measure => go_light; simp [intOf]; omega
    · have zk : ¬ (k : Int) < (ps.length : Int) := by omega
      go_wp2_with fail
      refine (growR_core x _ (by omega)).mono ?_
      rintro e w1 ⟨v, rfl, hO1, hb1⟩
      have HO1 : Hid (w1.ownsRow w.heap.size 30 1 v 0 [] ∧ Below w.heap.size w w1) := ⟨row_mono hO1 hs0, hb0.trans (hb1.mono hs0)⟩
      clear hO1 hb1
      go_wp2_with fail
      go_loopw [6, 27] (fun o i wr => ∃ (k : Nat) (v : Value), k ≤ ps.length ∧ i = .int .i64 k ∧ o = v ∧ wr.ownsRow w.heap.size 30 1 v (allU (ps.take k)).length (allU (ps.take k)) ∧ Below w.heap.size w wr) (fun _ i _ => ps.length - (intOf i).toNat)
      case atStart => exact ⟨0, v, Nat.zero_le _, rfl, rfl, HO1.out.1, HO1.out.2⟩
      case round =>
        obtain ⟨v0, hv0⟩ : ∃ v0 : Value, v0 = u6 := ⟨_, rfl⟩
        subst hv0
        obtain ⟨k, v, hk, rfl, hov, hO, hb⟩ := hrel
        rw [← hov] at hO
        clear hov
        have HO : Hid (wr.ownsRow w.heap.size 30 1 v0 (allU (ps.take k)).length (allU (ps.take k))) := hO
        have hs := hb.size
        clear hO
        by_cases hlt : k < ps.length
        · obtain ⟨p, hp⟩ : ∃ p, ps[k]? = some p := ⟨_, List.getElem?_eq_getElem hlt⟩
          obtain ⟨c0, hat⟩ := (HP.out.below hb hB) k p hp
          have HD : Hid (ps[k]? = some p ∧ p.at wr) := ⟨hp, hat⟩
          have hpl : (allU (ps.take k)).length + p.us.length ≤ 2 ^ 28 := by
            have h1 := allU_le ps (k + 1)
            rw [allU_take hp, List.length_append] at h1
            omega
          clear hp hat
          have zk : (k : Int) < (ps.length : Int) := by omega
          go_wp2_with (at_builtin; refine wpList_append_runO _ rfl _ _ rfl w.heap.size v0 (allU (ps.take k)) p.b p.off p.us.length p.cap p.us rfl rfl rfl HO.out HD.out.2.cells HD.out.2.one ?hl ?hb ?_)
          case hl => omega
          case hb => omega
          intro v' w2 hA
          have HN : Hid (w2.ownsRow w.heap.size 30 1 v' (allU (ps.take (k + 1))).length (allU (ps.take (k + 1)))) := by
            show World.ownsRow _ _ _ _ _ _ _
            rw [allU_take HD.out.1]
            exact hA.row
          have hb2 : Below w.heap.size w w2 := hb.grown hA.grown hs (fun q hq => row_blk HO.out q hq)
          clear hA
          go_wp2_with fail
          go_roundw
          case rel => go_light; exact ⟨k + 1, v', by omega, by go_num, rfl, HN.out, hb2⟩
          case measure => go_light; simp [intOf]; omega
        · have zk : ¬ (k : Int) < (ps.length : Int) := by omega
          have HF : Hid (wr.ownsRow w.heap.size 30 1 v0 (allU ps).length (allU ps)) := by
            have h1 := HO.out
            rw [List.take_of_length_le (by omega)] at h1
            exact h1
          go_wp2_with fail
          go_ret
          exact ⟨v0, rfl, HF.out, hb⟩
end Go.Proofs.Ytlgeffinhbodeae

/-
  slices.Grow and slices.Concat over tablets.
-/
namespace Go.Proofs.Ytlgeffinhbodeae
open Go.ChangeShapes Go.WideShapes Go.ChangeAt Go.RowKit Go.Deep
set_option linter.unusedVariables false
set_option linter.unusedSimpArgs false
set_option maxRecDepth 100000

set_option maxHeartbeats 2000000 in
theorem growT_core (n : Nat) (w : World) (hn : n ≤ 2 ^ 30) :
    Calls Try.prog 154 #[.slice none 0 0, .int .i64 n] w fun r w' => GrowPost 133 2 w r w' := by
  obtain ⟨i, hi, hz0, hz1, hz2⟩ := info_parts Try.infoTab
  by_cases h0 : n = 0
  · subst h0
    go_enter Try.func154, Try.ntmps154
    go_wp2_with fail
    go_ret
    exact ⟨_, rfl, World.ownsRow_nil .., Below.refl _ _⟩
  · have hp : 0 < n := by omega
    have HG : Hid (n ≤ grownCap w n 0 133 ∧ grownCap w n 0 133 ≤ maxLen) := ⟨grownCap_ge w n 0 _, grownCap_le_maxLen w n 0 _ (by unfold maxLen; omega)⟩
    have HRun : Hid (∀ ty, (Builtin.append_ #[64, 3] ty #[.slice none 0 0, .int .i64 n]).run Try.prog w = .ok (.slice (some ⟨w.heap.size, 0, none⟩) n (grownCap w n 0 133)) (w.drew.alloc (.cells (Builtin.zeroCells #[.string ⟨#[]⟩, .slice none 0 0] n ++ Builtin.zeroCells #[.string ⟨#[]⟩, .slice none 0 0] (grownCap w n 0 133 - n)) 133))) := fun ty =>
      Go.Lib.run_append_nil_zeros w 64 3 ty 133 i (.agg #[.string ⟨#[]⟩, .slice none 0 0]) .i64 .i64 Try.underlying64 Try.underlying3 hi hz0 n hp (by omega) (by omega) (by rw [hz2]; omega)
    obtain ⟨c, hc⟩ : ∃ c, c = grownCap w n 0 133 := ⟨_, rfl⟩
    rw [← hc] at HG HRun
    have hcm := HG.out.2
    have hcn := HG.out.1
    unfold maxLen at hcm
    have zp : (0 : Int) < (n : Int) := by omega
    clear h0 hc hi hz0 hz1 hz2
    go_enter Try.func154, Try.ntmps154
    go_wp2_with (at_builtin; refine Go.Lib.wpList_append_run _ rfl _ _ _ _ rfl _ _ rfl rfl _ _ (HRun.out _) ?_)
    obtain ⟨W1, hW1⟩ : ∃ W1 : World, W1 = (w.drew.alloc (.cells (Builtin.zeroCells #[.string ⟨#[]⟩, .slice none 0 0] n ++ Builtin.zeroCells #[.string ⟨#[]⟩, .slice none 0 0] (c - n)) 133)) := ⟨_, rfl⟩
    have HO : Hid (W1.ownsRow w.heap.size 133 2 (.slice (some ⟨w.heap.size, 0, none⟩) 0 c) 0 [] ∧ Below w.heap.size w W1) := by
      rw [hW1]
      exact ⟨grow_row w _ _ 2 n c rfl hcn (by unfold maxLen; omega), (Below.refl _ _).drew.alloc (by simp) _⟩
    go_ret
    rw [hW1] at HO
    exact ⟨_, rfl, HO.out.1, HO.out.2⟩

/-- A slice of runs, as cells. -/
structure PtT where
  b : Nat
  off : Nat
  cap : Nat
  us : List Pr
structure PtT.at (w : World) (p : PtT) : Prop where
  cells : ∀ j u, p.us[j]? = some u → w.cell? ⟨p.b, p.off + j * 2, none⟩ = some (.string u.1) ∧ w.cell? ⟨p.b, p.off + j * 2 + 1, none⟩ = some u.2
  one : ∀ u ∈ p.us, u.2.oneCell' = true
  lt : p.b < w.heap.size
theorem PtT.at.below {w w' : World} {p : PtT} (h : p.at w) (hb : Below w.heap.size w w') : p.at w' := ⟨fun j u hu => ⟨by rw [hb.cell (p := ⟨p.b, p.off + j * 2, none⟩) (by exact h.lt)]; exact (h.cells j u hu).1, by rw [hb.cell (p := ⟨p.b, p.off + j * 2 + 1, none⟩) (by exact h.lt)]; exact (h.cells j u hu).2⟩, h.one, by have := hb.size; have := h.lt; omega⟩
def PtsAtT (w : World) (sb : Nat) (ps : List PtT) : Prop := ∀ i p, ps[i]? = some p → w.cell? ⟨sb, i, none⟩ = some (.slice (some ⟨p.b, p.off, none⟩) p.us.length p.cap) ∧ p.at w
theorem PtsAtT.below {w w' : World} {sb : Nat} {ps : List PtT} (h : PtsAtT w sb ps) (hb : Below w.heap.size w w') (hlt : sb < w.heap.size) : PtsAtT w' sb ps := fun i p hp => ⟨by rw [hb.cell (p := ⟨sb, i, none⟩) (by exact hlt)]; exact (h i p hp).1, (h i p hp).2.below hb⟩
def allP (ps : List PtT) : List Pr := ps.flatMap PtT.us
theorem allP_take {ps : List PtT} {k : Nat} {p : PtT} (h : ps[k]? = some p) : allP (ps.take (k + 1)) = allP (ps.take k) ++ p.us := by
  unfold allP
  rw [List.take_add_one, h, List.flatMap_append]; simp
theorem allP_le (ps : List PtT) (k : Nat) : (allP (ps.take k)).length ≤ (allP ps).length := by
  have h : allP ps = allP (ps.take k) ++ allP (ps.drop k) := by
    unfold allP
    rw [← List.flatMap_append, List.take_append_drop]
  rw [h, List.length_append]
  omega

set_option maxHeartbeats 4000000 in
theorem concatT_core (sb : Nat) (ps : List PtT) (w : World) (h : PtsAtT w sb ps) (hB : sb < w.heap.size) (hn : (allP ps).length ≤ 2 ^ 28) (hm : ps.length ≤ 1000) :
    Calls Try.prog 122 #[.slice (some ⟨sb, 0, none⟩) ps.length ps.length] w fun r w' => CatPost 133 2 w (cellsP (allP ps)) (allP ps).length r w' := by
  have HP : Hid (PtsAtT w sb ps) := h
  clear h
  go_enter Try.func122, Try.ntmps122
  go_wp2_with fail
  go_loopw [3, 11] (fun s i wr => ∃ (k x : Nat), k ≤ ps.length ∧ i = .int .i64 k ∧ s = .int .i64 x ∧ x = (allP (ps.take k)).length ∧ Below w.heap.size w wr) (fun _ i _ => ps.length - (intOf i).toNat)
  case atStart => exact ⟨0, 0, Nat.zero_le _, rfl, rfl, rfl, Below.refl _ _⟩
  case round =>
    obtain ⟨k, x, hk, rfl, rfl, hx, hb0⟩ := hrel
    have hs0 := hb0.size
    have HX : Hid (x = (allP (ps.take k)).length) := hx
    have hxl : x ≤ 2 ^ 28 := by have := allP_le ps k; omega
    clear hx
    by_cases hlt : k < ps.length
    · obtain ⟨p, hp⟩ : ∃ p, ps[k]? = some p := ⟨_, List.getElem?_eq_getElem hlt⟩
      obtain ⟨c0, _⟩ := (HP.out.below hb0 hB) k p hp
      have HX2 : Hid (x + p.us.length = (allP (ps.take (k + 1))).length) := by
        have h1 := HX.out
        show x + p.us.length = (allP (ps.take (k + 1))).length
        rw [allP_take hp, List.length_append, ← h1]
      have hx2 : x + p.us.length ≤ 2 ^ 28 := by have := HX2.out; have := allP_le ps (k + 1); omega
      clear hp
      have zk : (k : Int) < (ps.length : Int) := by omega
      have zz : ¬ (x : Int) + (p.us.length : Int) < 0 := by omega
      go_wp2_with fail
      go_roundw
      case rel => go_light; exact ⟨k + 1, x + p.us.length, by omega, by go_num, by go_num, HX2.out, hb0⟩
      case measure => go_light; simp [intOf]; omega
    · have zk : ¬ (k : Int) < (ps.length : Int) := by omega
      go_wp2_with fail
      refine (growT_core x _ (by omega)).mono ?_
      rintro e w1 ⟨v, rfl, hO1, hb1⟩
      have HO1 : Hid (w1.ownsRow w.heap.size 133 2 v 0 [] ∧ Below w.heap.size w w1) := ⟨row_mono hO1 hs0, hb0.trans (hb1.mono hs0)⟩
      clear hO1 hb1
      go_wp2_with fail
      go_loopw [6, 27] (fun o i wr => ∃ (k : Nat) (v : Value), k ≤ ps.length ∧ i = .int .i64 k ∧ o = v ∧ wr.ownsRow w.heap.size 133 2 v (allP (ps.take k)).length (cellsP (allP (ps.take k))) ∧ Below w.heap.size w wr) (fun _ i _ => ps.length - (intOf i).toNat)
      case atStart => exact ⟨0, v, Nat.zero_le _, rfl, rfl, HO1.out.1, HO1.out.2⟩
      case round =>
        obtain ⟨v0, hv0⟩ : ∃ v0 : Value, v0 = u6 := ⟨_, rfl⟩
        subst hv0
        obtain ⟨k, v, hk, rfl, hov, hO, hb⟩ := hrel
        rw [← hov] at hO
        clear hov
        have HO : Hid (wr.ownsRow w.heap.size 133 2 v0 (allP (ps.take k)).length (cellsP (allP (ps.take k)))) := hO
        have hs := hb.size
        clear hO
        by_cases hlt : k < ps.length
        · obtain ⟨p, hp⟩ : ∃ p, ps[k]? = some p := ⟨_, List.getElem?_eq_getElem hlt⟩
          obtain ⟨c0, hat⟩ := (HP.out.below hb hB) k p hp
          have HD : Hid (ps[k]? = some p ∧ p.at wr) := ⟨hp, hat⟩
          have hpl : (allP (ps.take k)).length + p.us.length ≤ 2 ^ 28 := by
            have h1 := allP_le ps (k + 1)
            rw [allP_take hp, List.length_append] at h1
            omega
          clear hp hat
          have zk : (k : Int) < (ps.length : Int) := by omega
          go_wp2_with (at_builtin; refine wpList_append_tabO _ rfl _ _ rfl w.heap.size v0 (allP (ps.take k)) p.b p.off p.us.length p.cap p.us rfl rfl rfl HO.out HD.out.2.cells HD.out.2.one ?hl ?hb ?_)
          case hl => omega
          case hb => omega
          intro v' w2 hA
          have HN : Hid (w2.ownsRow w.heap.size 133 2 v' (allP (ps.take (k + 1))).length (cellsP (allP (ps.take (k + 1))))) := by
            show World.ownsRow _ _ _ _ _ _ _
            rw [allP_take HD.out.1]
            exact hA.row
          have hb2 : Below w.heap.size w w2 := hb.grown hA.grown hs (fun q hq => row_blk HO.out q hq)
          clear hA
          go_wp2_with fail
          go_roundw
          case rel => go_light; exact ⟨k + 1, v', by omega, by go_num, rfl, HN.out, hb2⟩
          case measure => go_light; simp [intOf]; omega
        · have zk : ¬ (k : Int) < (ps.length : Int) := by omega
          have HF : Hid (wr.ownsRow w.heap.size 133 2 v0 (allP ps).length (cellsP (allP ps))) := by
            have h1 := HO.out
            rw [List.take_of_length_le (by omega)] at h1
            exact h1
          go_wp2_with fail
          go_ret
          exact ⟨v0, rfl, HF.out, hb⟩
end Go.Proofs.Ytlgeffinhbodeae

