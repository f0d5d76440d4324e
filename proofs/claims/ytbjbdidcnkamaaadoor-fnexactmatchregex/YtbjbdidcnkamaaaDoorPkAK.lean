import Derived.Test.YtbjbdidcnkamaaaDoorPkAB
import Derived.Test.YtbjbdidcnkamaaaDoorPkAA
/-
  spec's l4None, l4Empty.
-/
namespace Go.Proofs.YtbjbdidcnkamaaaDoor
open Go.ChangeShapes Go.WideShapes Go.ChangeAt Go.RowKit Go.Deep
set_option linter.unusedVariables false
set_option linter.unusedSimpArgs false
set_option maxRecDepth 100000

theorem rowsV_congr {N k : Nat} {ρ γ ρ' γ' : Nat → Nat} (h : ∀ i, i < k → ρ' i = ρ i ∧ γ' i = γ i) : rowsV N k ρ' γ' = rowsV N k ρ γ := by
  unfold rowsV
  apply List.map_congr_left
  intro i hi
  rw [List.mem_range] at hi
  rw [(h i hi).1, (h i hi).2]
def updN (ρ : Nat → Nat) (k r : Nat) : Nat → Nat := fun i => if i = k then r else ρ i
theorem updN_lt (ρ : Nat → Nat) (k r : Nat) {i : Nat} (h : i < k) : updN ρ k r i = ρ i := by simp [updN, Nat.ne_of_lt h]
theorem updN_at (ρ : Nat → Nat) (k r : Nat) : updN ρ k r k = r := by simp [updN]
/-- A row that is being filled, beside the rows that stand. -/
structure RowJ (w wi : World) (n g cp k r c j : Nat) (ρ γ : Nat → Nat) : Prop where
  row : BRow wi w.heap.size r c j (fun _ => false)
  mat : MatO wi w.heap.size g cp (n + 1) k ρ γ (fun _ _ => false)
  off : ∀ i, i < k → ρ i ≠ r
  below : Below w.heap.size w wi
theorem RowJ.move {w wi w' : World} {n g cp k r c j : Nat} {ρ γ : Nat → Nat} (h : RowJ w wi n g cp k r c j ρ γ) (hb : Below wi.heap.size wi w') : RowJ w w' n g cp k r c j ρ γ :=
  ⟨h.row.chg (S := fun _ => False) (Chg.of_below hb) (fun q => q), h.mat.below hb, h.off, h.below.trans (hb.mono h.below.size)⟩
theorem RowJ.next {w wi w' : World} {n g cp k r c j r' c' : Nat} {ρ γ : Nat → Nat} (h : RowJ w wi n g cp k r c j ρ γ) (hr : BRow w' w.heap.size r' c' (j + 1) (fun _ => false)) (hg : wi.grownBy w' (some r)) (hat : r' = r ∨ r' = wi.heap.size) : RowJ w w' n g cp k r' c' (j + 1) ρ γ := by
  have hch : Chg (fun b => b = r) wi w' := Chg.of_grown hg (fun b hb => by cases hb; rfl)
  have hlt := h.row.lt
  refine ⟨hr, h.mat.chg hch (fun q => (h.row.off h.mat.out) q.symm) (fun i hi => h.off i hi), fun i hi => ?_, Chg.below h.below hch h.below.size (fun b hb => by omega)⟩
  rcases hat with q | q
  · rw [q]; exact h.off i hi
  · rw [q]; have := (h.mat.row i hi).lt.2; omega
/-- The row is full, and stands with the others. -/
theorem RowJ.done {w wi w' : World} {n g cp k r c g' cp' : Nat} {ρ γ : Nat → Nat} (h : RowJ w wi n g cp k r c (n + 1) ρ γ) (ho : ORow w' w.heap.size g' cp' (n + 1) (k + 1) (updN ρ k r) (updN γ k c)) (hg : wi.grownBy w' (some g)) :
    MatO w' w.heap.size g' cp' (n + 1) (k + 1) (updN ρ k r) (updN γ k c) (fun _ _ => false) ∧ Below w.heap.size w w' := by
  have hch : Chg (fun b => b = g) wi w' := Chg.of_grown hg (fun b hb => by cases hb; rfl)
  have hlt := h.mat.out.lt
  refine ⟨⟨ho, fun i hi => ?_, fun i j hi hj hne => ?_⟩, Chg.below h.below hch h.below.size (fun b hb => by omega)⟩
  · by_cases e : i = k
    · subst e
      rw [updN_at, updN_at]
      exact h.row.chg hch (fun q => h.row.off h.mat.out q)
    · rw [updN_lt _ _ _ (by omega), updN_lt _ _ _ (by omega)]
      exact (h.mat.row i (by omega)).chg hch (fun q => (h.mat.row i (by omega)).off h.mat.out q)
  · by_cases e : i = k
    · subst e
      rw [updN_at, updN_lt _ _ _ (by omega)]
      exact fun q => h.off j (by omega) q.symm
    · by_cases e' : j = k
      · subst e'
        rw [updN_at, updN_lt _ _ _ (by omega)]
        exact h.off i (by omega)
      · rw [updN_lt _ _ _ (by omega), updN_lt _ _ _ (by omega)]
        exact h.mat.inj i j (by omega) (by omega) hne
set_option maxHeartbeats 4000000 in
theorem l4None_core (n : Nat) (hn : n ≤ 1000) (w : World) : Calls Tryd.prog 13 #[.int .i64 (n : Int)] w (MaP (n + 1) (fun _ _ => false) w) := by
  obtain ⟨W0, hW0⟩ : ∃ W0 : World, W0 = w.alloc (Obj.cells #[] 26) := ⟨_, rfl⟩
  have HM0 : Hid (MatO W0 w.heap.size w.heap.size 0 (n + 1) 0 (fun _ => 0) (fun _ => 0) (fun _ _ => false) ∧ Below w.heap.size w W0) := by
    rw [hW0]
    exact ⟨⟨World.ownsRow_lit w #[] 0 (Nat.le_refl _) (by decide) (by decide), fun i hi => by omega, fun i j hi => by omega⟩, (Below.refl _ _).alloc (Nat.le_refl _) _⟩
  go_enter Tryd.func13, Tryd.ntmps13
  go_upto_region 2 with fail
  rw [← hW0]
  clear hW0
  go_wp2_with fail
  go_loopw [3, 4] (fun ov iv wr => ∃ (k g cp : Nat) (ρ γ : Nat → Nat), k ≤ n + 1 ∧ iv = .int .i64 k ∧ ov = slV g k cp ∧ Hid (MatO wr w.heap.size g cp (n + 1) k ρ γ (fun _ _ => false) ∧ Below w.heap.size w wr)) (fun _ iv _ => n + 1 - (intOf iv).toNat)
  case atStart => exact ⟨0, _, 0, _, _, Nat.zero_le _, rfl, rfl, HM0.out⟩
  case round =>
    obtain ⟨k, g, cp, ρ, γ, hk, rfl, rfl, HM⟩ := hrel
    obtain ⟨Wr, hWr⟩ : ∃ Wr : World, Wr = wr := ⟨_, rfl⟩
    subst hWr
    by_cases hlt : k ≤ n
    · have zk : (k : Int) ≤ (n : Int) := by omega
      obtain ⟨W1, hW1⟩ : ∃ W1 : World, W1 = Wr.alloc (Obj.cells #[] 4) := ⟨_, rfl⟩
      obtain ⟨r0, hr0⟩ : ∃ r0, r0 = Wr.heap.size := ⟨_, rfl⟩
      have HJ1 : Hid (RowJ w W1 n g cp k r0 0 0 ρ γ) := by
        have hb1 : Below Wr.heap.size Wr W1 := by rw [hW1]; exact (Below.refl _ _).alloc (Nat.le_refl _) _
        refine ⟨?_, HM.out.1.below hb1, fun i hi q => ?_, HM.out.2.trans (hb1.mono HM.out.2.size)⟩
        · rw [hW1, hr0]; exact World.ownsRow_lit Wr #[] 0 HM.out.2.size (by decide) (by decide)
        · have := (HM.out.1.row i hi).lt.2; omega
      go_upto_region 6 with fail
      rw [← hW1, ← hr0]
      clear hW1 hr0
      go_wp2_with fail
      go_loopw [5, 6] (fun rv jv wi => ∃ (j r c : Nat), j ≤ n + 1 ∧ jv = .int .i64 j ∧ rv = slV r j c ∧ Hid (RowJ w wi n g cp k r c j ρ γ)) (fun _ jv _ => n + 1 - (intOf jv).toNat)
      case atStart => exact ⟨0, r0, 0, Nat.zero_le _, rfl, rfl, HJ1.out⟩
      case round =>
        obtain ⟨j, r, c, hj, rfl, rfl, HJ⟩ := hrel
        by_cases hlj : j ≤ n
        · have zj : (j : Int) ≤ (n : Int) := by omega
          have HA : Hid (RowJ w (wr.alloc (Obj.cells #[.bool false] 4)) n g cp k r c j ρ γ ∧ w.heap.size ≤ (wr.alloc (Obj.cells #[.bool false] 4)).heap.size) := by
            have h1 := HJ.out.move ((Below.refl wr.heap.size wr).alloc (Nat.le_refl _) (Obj.cells #[.bool false] 4))
            exact ⟨h1, h1.below.size⟩
          go_wp2_with (at_builtin; refine wpList_append_bo _ rfl _ _ rfl w.heap.size r c j wr.heap.size 1 (fun _ => false) false rfl rfl HA.out.1.row (by simp [go_sem]) rfl (by omega) HA.out.2 ?_)
          intro r' c' w' hr' hg' hat'
          have HJ2 : Hid (RowJ w w' n g cp k r' c' (j + 1) ρ γ) := HA.out.1.next hr' hg' (by simpa using hat')
          clear hr' hg' hat'
          go_wp2_with fail
          go_roundw
          case rel => exact ⟨j + 1, r', c', by omega, by go_num, rfl, HJ2.out⟩
          case measure => simp [intOf]; omega
        · obtain rfl : j = n + 1 := by omega
          have zj : ¬ (((n + 1 : Nat) : Int)) ≤ (n : Int) := by omega
          have HA : Hid (RowJ w (wr.alloc (Obj.cells #[slV r (n + 1) c] 26)) n g cp k r c (n + 1) ρ γ ∧ w.heap.size ≤ (wr.alloc (Obj.cells #[slV r (n + 1) c] 26)).heap.size ∧ ORow (wr.alloc (Obj.cells #[slV r (n + 1) c] 26)) w.heap.size g cp (n + 1) k (updN ρ k r) (updN γ k c)) := by
            have h1 := HJ.out.move ((Below.refl wr.heap.size wr).alloc (Nat.le_refl _) (Obj.cells #[slV r (n + 1) c] 26))
            refine ⟨h1, h1.below.size, ?_⟩
            have h2 := h1.mat.out
            unfold ORow at h2 ⊢
            rw [rowsV_congr (fun i hi => ⟨updN_lt ρ k r hi, updN_lt γ k c hi⟩)]
            exact h2
          go_wp2_with (at_builtin; refine wpList_append_row _ rfl _ _ rfl w.heap.size g cp (n + 1) k wr.heap.size 1 r c (updN ρ k r) (updN γ k c) rfl rfl HA.out.2.2 (by simp [go_sem]) (updN_at _ _ _) (updN_at _ _ _) (by omega) HA.out.2.1 ?_)
          intro g' cp' w' ho' hg' hat'
          have HM2 : Hid (MatO w' w.heap.size g' cp' (n + 1) (k + 1) (updN ρ k r) (updN γ k c) (fun _ _ => false) ∧ Below w.heap.size w w') := HA.out.1.done ho' hg'
          clear ho' hg' hat'
          go_wp2_with fail
          go_roundw
          case rel => exact ⟨k + 1, g', cp', updN ρ k r, updN γ k c, by omega, by go_num, rfl, HM2.out⟩
          case measure => simp [intOf]; omega
    · obtain rfl : k = n + 1 := by omega
      have zk : ¬ (((n + 1 : Nat) : Int)) ≤ (n : Int) := by omega
      go_wp2_with fail
      go_ret
      exact ⟨g, cp, ρ, γ, rfl, HM.out.1, HM.out.2⟩
end Go.Proofs.YtbjbdidcnkamaaaDoor

/-
  spec's l4Empty, l4Or.
-/
namespace Go.Proofs.YtbjbdidcnkamaaaDoor
open Go.ChangeShapes Go.WideShapes Go.ChangeAt Go.RowKit Go.Deep
set_option linter.unusedVariables false
set_option linter.unusedSimpArgs false
set_option maxRecDepth 100000

/-- As MaP, what it says where the first place is not behind the second. -/
def MaF (N : Nat) (F : Nat → Nat → Bool) (w : World) (r : Ending) (w' : World) : Prop := ∃ g cp ρ γ f, r = .returned (slV g N cp) ∧ Hid (MatO w' w.heap.size g cp N N ρ γ f ∧ ∀ i j, i ≤ j → j < N → f i j = F i j) ∧ Below w.heap.size w w'
set_option maxHeartbeats 2000000 in
theorem l4Empty_core (n : Nat) (hn : n ≤ 1000) (w : World) : Calls Tryd.prog 28 #[.int .i64 (n : Int)] w (MaF (n + 1) (fun i j => i == j) w) := by
  go_enter Tryd.func28, Tryd.ntmps28
  go_wp2_with fail
  refine (l4None_core n hn w).mono ?_
  rintro r w1 ⟨g, cp, ρ, γ, rfl, HM, hb1⟩
  have hcp := HM.out.out.caps
  go_wp2_with fail
  go_loopw [4] (fun iv wr => ∃ (k : Nat) (f : Nat → Nat → Bool), k ≤ n + 1 ∧ iv = .int .i64 k ∧ Hid (MatO wr w.heap.size g cp (n + 1) (n + 1) ρ γ f ∧ (∀ i j, i ≤ j → j < n + 1 → f i j = (i == j && decide (i < k))) ∧ Below w.heap.size w wr)) (fun iv _ => n + 1 - (intOf iv).toNat)
  case atStart => exact ⟨0, _, Nat.zero_le _, rfl, HM.out, fun i j _ _ => by simp, hb1⟩
  case round =>
    obtain ⟨k, f, hk, rfl, HJ⟩ := hrel
    by_cases hlt : k ≤ n
    · have zk : (k : Int) ≤ (n : Int) := by omega
      have hk1 : k < n + 1 := by omega
      have c0 : wr.cell? ⟨g, k, none⟩ = some (slV (ρ k) (n + 1) (γ k)) := HJ.out.1.cell hk1
      have c1 : wr.cell? ⟨ρ k, k, none⟩ = some (.bool (f k k)) := (HJ.out.1.row k hk1).cell hk1
      have z1 : wr.frozen? ⟨ρ k, k, none⟩ = false := World.ownsRow.frozenAt (HJ.out.1.row k hk1) _
      have hrc := (HJ.out.1.row k hk1).caps
      have HJ2 : Hid (MatO (wr.setCell ⟨ρ k, k, none⟩ (.bool true)) w.heap.size g cp (n + 1) (n + 1) ρ γ (upd2 f k k true) ∧ (∀ i j, i ≤ j → j < n + 1 → upd2 f k k true i j = (i == j && decide (i < k + 1))) ∧ Below w.heap.size w (wr.setCell ⟨ρ k, k, none⟩ (.bool true))) := by
        refine ⟨HJ.out.1.set hk1 hk1 true, fun i j hij hj => ?_, below_set HJ.out.2.2 (HJ.out.1.row k hk1).lt.1 _ _⟩
        unfold upd2
        by_cases e : i = k ∧ j = k
        · rw [if_pos e]; simp [e.1, e.2]
        · rw [if_neg e, HJ.out.2.1 i j hij hj]
          rw [Bool.eq_iff_iff]; simp only [Bool.or_eq_true, Bool.and_eq_true, decide_eq_true_eq, beq_iff_eq]; omega
      have zr : (k : Int) < (((n + 1 : Nat)) : Int) := by omega
      go_wp2_with fail
      go_roundw
      case rel => exact ⟨k + 1, upd2 f k k true, by omega, by go_num, HJ2.out⟩
      case measure => simp [intOf]; omega
    · obtain rfl : k = n + 1 := by omega
      have zk : ¬ (((n + 1 : Nat) : Int)) ≤ (n : Int) := by omega
      go_wp2_with fail
      go_ret
      refine ⟨g, cp, ρ, γ, f, rfl, ⟨HJ.out.1, fun i j hij hj => ?_⟩, HJ.out.2.2⟩
      rw [HJ.out.2.1 i j hij hj]
      have : i < n + 1 := by omega
      simp [this]
/-- a or b, row k filled up to j. -/
def orF (fa fb : Nat → Nat → Bool) (k j : Nat) : Nat → Nat → Bool := fun x y => (fa x y || fb x y) && (decide (x < k) || (x == k && decide (y < j)))
set_option maxHeartbeats 8000000 in
theorem l4Or_core (n ga ca gb cb : Nat) (ρa γa ρb γb : Nat → Nat) (fa fb : Nat → Nat → Bool) (w : World) (hn : n ≤ 1000) (ha : MatR w ga (n + 1) ρa γa fa) (hb : MatR w gb (n + 1) ρb γb fb) (hca : n + 1 ≤ ca) (hcb : n + 1 ≤ cb) : Calls Tryd.prog 15 #[slV ga (n + 1) ca, slV gb (n + 1) cb] w (MaF (n + 1) (fun i j => fa i j || fb i j) w) := by
  have HR : Hid (MatR w ga (n + 1) ρa γa fa ∧ MatR w gb (n + 1) ρb γb fb) := ⟨ha, hb⟩
  clear ha hb
  go_enter Tryd.func15, Tryd.ntmps15
  go_wp2_with fail
  refine (l4None_core n hn w).mono ?_
  rintro r w1 ⟨g, cp, ρ, γ, rfl, HM, hb1⟩
  have hcp := HM.out.out.caps
  go_wp2_with fail
  go_loopw [6] (fun iv wr => ∃ (k : Nat) (f : Nat → Nat → Bool), k ≤ n + 1 ∧ iv = .int .i64 k ∧ Hid (MatO wr w.heap.size g cp (n + 1) (n + 1) ρ γ f ∧ (∀ i j, i ≤ j → j < n + 1 → f i j = orF fa fb k 0 i j) ∧ Below w.heap.size w wr)) (fun iv _ => n + 1 - (intOf iv).toNat)
  case atStart => exact ⟨0, _, Nat.zero_le _, rfl, HM.out, fun i j _ _ => by simp [orF], hb1⟩
  case round =>
    obtain ⟨k, f0, hk, rfl, HJ0⟩ := hrel
    obtain ⟨Wr, hWr⟩ : ∃ Wr : World, Wr = wr := ⟨_, rfl⟩
    subst hWr
    by_cases hlt : k < n + 1
    · have zk : (k : Int) < ((n + 1 : Nat) : Int) := by omega
      go_wp2_with fail
      go_loopw [7] (fun jv wr => ∃ (j : Nat) (f : Nat → Nat → Bool), k ≤ j ∧ j ≤ n + 1 ∧ jv = .int .i64 j ∧ Hid (MatO wr w.heap.size g cp (n + 1) (n + 1) ρ γ f ∧ (∀ x y, x ≤ y → y < n + 1 → f x y = orF fa fb k j x y) ∧ Below w.heap.size w wr)) (fun jv _ => n + 1 - (intOf jv).toNat)
      case atStart => exact ⟨k, f0, Nat.le_refl _, by omega, rfl, HJ0.out.1, fun x y hxy hy => by
        rw [HJ0.out.2.1 x y hxy hy]
        unfold orF
        congr 1
        rw [Bool.eq_iff_iff]; simp only [Bool.or_eq_true, Bool.and_eq_true, decide_eq_true_eq, beq_iff_eq]; omega, HJ0.out.2.2⟩
      case round =>
        obtain ⟨j, f, hkj, hj, rfl, HJ⟩ := hrel
        by_cases hlj : j < n + 1
        · have zj : (j : Int) < ((n + 1 : Nat) : Int) := by omega
          have hra := HR.out.1.below HJ.out.2.2 (Nat.le_refl _)
          have hrb := HR.out.2.below HJ.out.2.2 (Nat.le_refl _)
          have c0 : wr.cell? ⟨g, k, none⟩ = some (slV (ρ k) (n + 1) (γ k)) := HJ.out.1.cell hlt
          have c1 : wr.cell? ⟨ρ k, j, none⟩ = some (.bool (f k j)) := (HJ.out.1.row k hlt).cell hlj
          have z1 : wr.frozen? ⟨ρ k, j, none⟩ = false := World.ownsRow.frozenAt (HJ.out.1.row k hlt) _
          have hrc := (HJ.out.1.row k hlt).caps
          have a0 := hra.out k hlt
          have a1 := hra.row k j hlt hlj
          have b0 := hrb.out k hlt
          have b1 := hrb.row k j hlt hlj
          have hc1 := HR.out.1.cap k hlt
          have hc2 := HR.out.2.cap k hlt
          have HJ2 : Hid (∀ v : Bool, v = (fa k j || fb k j) → Hid (MatO (wr.setCell ⟨ρ k, j, none⟩ (.bool v)).drew w.heap.size g cp (n + 1) (n + 1) ρ γ (upd2 f k j v) ∧ (∀ x y, x ≤ y → y < n + 1 → upd2 f k j v x y = orF fa fb k (j + 1) x y) ∧ Below w.heap.size w (wr.setCell ⟨ρ k, j, none⟩ (.bool v)).drew)) := fun v hv => by
            refine ⟨(HJ.out.1.set hlt hlj v).below ((Below.refl _ _).drew), fun x y hxy hy => ?_, (below_set HJ.out.2.2 (HJ.out.1.row k hlt).lt.1 _ _).drew⟩
            unfold upd2
            by_cases e : x = k ∧ y = j
            · rw [if_pos e, hv]; simp [orF, e.1, e.2]
            · rw [if_neg e, HJ.out.2.1 x y hxy hy]
              unfold orF
              congr 1
              rw [Bool.eq_iff_iff]; simp only [Bool.or_eq_true, Bool.and_eq_true, decide_eq_true_eq, beq_iff_eq]; omega
          obtain ⟨fav, hfa⟩ : ∃ fav, fa k j = fav := ⟨_, rfl⟩
          obtain ⟨fbv, hfb⟩ : ∃ fbv, fb k j = fbv := ⟨_, rfl⟩
          have HV : Hid (fa k j = fav ∧ fb k j = fbv) := ⟨hfa, hfb⟩
          rw [hfa] at a1
          rw [hfb] at b1
          clear hra hrb hfa hfb
          go_upto_region 8 with fail
          cases fav
          case false =>
            have hSd : (fun w' : World => w'.cell? ⟨g, k, none⟩ = some (slV (ρ k) (n + 1) (γ k)) ∧ w'.cell? ⟨ga, k, none⟩ = some (slV (ρa k) (n + 1) (γa k)) ∧ w'.cell? ⟨ρa k, j, none⟩ = some (.bool false) ∧ w'.cell? ⟨gb, k, none⟩ = some (slV (ρb k) (n + 1) (γb k)) ∧ w'.cell? ⟨ρb k, j, none⟩ = some (.bool fbv)) wr.drew := ⟨c0, a0, a1, b0, b1⟩
            refine wp_region_T 22 (fun w' : World => w'.cell? ⟨g, k, none⟩ = some (slV (ρ k) (n + 1) (γ k)) ∧ w'.cell? ⟨ga, k, none⟩ = some (slV (ρa k) (n + 1) (γa k)) ∧ w'.cell? ⟨ρa k, j, none⟩ = some (.bool false) ∧ w'.cell? ⟨gb, k, none⟩ = some (slV (ρb k) (n + 1) (γb k)) ∧ w'.cell? ⟨ρb k, j, none⟩ = some (.bool fbv)) (by kernel_rfl) ?_
            refine anyT_take (i := 0) (v := ?vf0) rfl (by kernel_rfl) (by kernel_rfl) (by kernel_rfl) (by kernel_rfl) (by decide) (fun _ _ _ h => h) (Or.inl ⟨by rfl, ?yf0⟩) hSd ?_
            case yf0 => (intro wz hSw; obtain ⟨hz0, hz1, hz2, hz3, hz4⟩ := hSw; go_simp; (try with_reducible rfl))
            try simp only [Act.put, List.getElem_toArray, List.getElem_cons_zero, List.getElem_cons_succ, List.setIfInBounds_toArray, List.set_cons_zero, List.set_cons_succ]
            refine anyT_take (i := 1) (v := ?vf1) rfl (by kernel_rfl) (by kernel_rfl) (by kernel_rfl) (by kernel_rfl) (by decide) (fun _ _ _ h => h) (Or.inl ⟨by rfl, ?yf1⟩) hSd ?_
            case yf1 => (intro wz hSw; obtain ⟨hz0, hz1, hz2, hz3, hz4⟩ := hSw; go_simp; (try with_reducible rfl))
            try simp only [Act.put, List.getElem_toArray, List.getElem_cons_zero, List.getElem_cons_succ, List.setIfInBounds_toArray, List.set_cons_zero, List.set_cons_succ]
            refine anyT_take (i := 2) (v := ?vf2) rfl (by kernel_rfl) (by kernel_rfl) (by kernel_rfl) (by kernel_rfl) (by decide) (fun _ _ _ h => h) (Or.inl ⟨by rfl, ?yf2⟩) hSd ?_
            case yf2 => (intro wz hSw; obtain ⟨hz0, hz1, hz2, hz3, hz4⟩ := hSw; go_simp; (try with_reducible rfl))
            try simp only [Act.put, List.getElem_toArray, List.getElem_cons_zero, List.getElem_cons_succ, List.setIfInBounds_toArray, List.set_cons_zero, List.set_cons_succ]
            refine anyT_take (i := 3) (v := ?vf3) rfl (by kernel_rfl) (by kernel_rfl) (by kernel_rfl) (by kernel_rfl) (by decide) (fun _ _ _ h => h) (Or.inl ⟨by rfl, ?yf3⟩) hSd ?_
            case yf3 => (intro wz hSw; obtain ⟨hz0, hz1, hz2, hz3, hz4⟩ := hSw; go_simp; (try with_reducible rfl))
            try simp only [Act.put, List.getElem_toArray, List.getElem_cons_zero, List.getElem_cons_succ, List.setIfInBounds_toArray, List.set_cons_zero, List.set_cons_succ]
            refine anyT_take (i := 4) (v := ?vf4) rfl (by kernel_rfl) (by kernel_rfl) (by kernel_rfl) (by kernel_rfl) (by decide) (fun _ _ _ h => h) (Or.inl ⟨by rfl, ?yf4⟩) hSd ?_
            case yf4 => (intro wz hSw; obtain ⟨hz0, hz1, hz2, hz3, hz4⟩ := hSw; go_simp; (try with_reducible rfl))
            try simp only [Act.put, List.getElem_toArray, List.getElem_cons_zero, List.getElem_cons_succ, List.setIfInBounds_toArray, List.set_cons_zero, List.set_cons_succ]
            refine anyT_take (i := 5) (v := ?vf5) rfl (by kernel_rfl) (by kernel_rfl) (by kernel_rfl) (by kernel_rfl) (by decide) (fun _ _ _ h => h) (Or.inl ⟨by rfl, ?yf5⟩) hSd ?_
            case yf5 => (intro wz hSw; obtain ⟨hz0, hz1, hz2, hz3, hz4⟩ := hSw; go_simp; (try with_reducible rfl))
            try simp only [Act.put, List.getElem_toArray, List.getElem_cons_zero, List.getElem_cons_succ, List.setIfInBounds_toArray, List.set_cons_zero, List.set_cons_succ]
            refine anyT_take (i := 6) (v := ?vf6) rfl (by kernel_rfl) (by kernel_rfl) (by kernel_rfl) (by kernel_rfl) (by decide) (fun _ _ _ h => h) (Or.inl ⟨by rfl, ?yf6⟩) hSd ?_
            case yf6 => (intro wz hSw; obtain ⟨hz0, hz1, hz2, hz3, hz4⟩ := hSw; go_simp; (try with_reducible rfl))
            try simp only [Act.put, List.getElem_toArray, List.getElem_cons_zero, List.getElem_cons_succ, List.setIfInBounds_toArray, List.set_cons_zero, List.set_cons_succ]
            refine anyT_take (i := 7) (v := ?vf7) rfl (by kernel_rfl) (by kernel_rfl) (by kernel_rfl) (by kernel_rfl) (by decide) (fun _ _ _ h => h) (Or.inl ⟨by rfl, ?yf7⟩) hSd ?_
            case yf7 => (intro wz hSw; obtain ⟨hz0, hz1, hz2, hz3, hz4⟩ := hSw; go_simp; (try with_reducible rfl))
            try simp only [Act.put, List.getElem_toArray, List.getElem_cons_zero, List.getElem_cons_succ, List.setIfInBounds_toArray, List.set_cons_zero, List.set_cons_succ]
            refine anyT_take (i := 8) (v := ?vf8) rfl (by kernel_rfl) (by kernel_rfl) (by kernel_rfl) (by kernel_rfl) (by decide) (fun _ _ _ h => h) (Or.inl ⟨by rfl, ?yf8⟩) hSd ?_
            case yf8 => (intro wz hSw; obtain ⟨hz0, hz1, hz2, hz3, hz4⟩ := hSw; go_simp; (try with_reducible rfl))
            try simp only [Act.put, List.getElem_toArray, List.getElem_cons_zero, List.getElem_cons_succ, List.setIfInBounds_toArray, List.set_cons_zero, List.set_cons_succ]
            refine anyT_take (i := 9) (v := ?vf9) rfl (by kernel_rfl) (by kernel_rfl) (by kernel_rfl) (by kernel_rfl) (by decide) (fun _ _ _ h => h) (Or.inl ⟨by rfl, ?yf9⟩) hSd ?_
            case yf9 => (intro wz hSw; obtain ⟨hz0, hz1, hz2, hz3, hz4⟩ := hSw; go_simp; (try with_reducible rfl))
            try simp only [Act.put, List.getElem_toArray, List.getElem_cons_zero, List.getElem_cons_succ, List.setIfInBounds_toArray, List.set_cons_zero, List.set_cons_succ]
            refine anyT_take (i := 10) (v := ?vf10) rfl (by kernel_rfl) (by kernel_rfl) (by kernel_rfl) (by kernel_rfl) (by decide) (fun _ _ _ h => h) (Or.inl ⟨by rfl, ?yf10⟩) hSd ?_
            case yf10 => (intro wz hSw; obtain ⟨hz0, hz1, hz2, hz3, hz4⟩ := hSw; go_simp; (try with_reducible rfl))
            try simp only [Act.put, List.getElem_toArray, List.getElem_cons_zero, List.getElem_cons_succ, List.setIfInBounds_toArray, List.set_cons_zero, List.set_cons_succ]
            refine anyT_take (i := 11) (v := ?vf11) rfl (by kernel_rfl) (by kernel_rfl) (by kernel_rfl) (by kernel_rfl) (by decide) (fun _ _ _ h => h) (Or.inl ⟨by rfl, ?yf11⟩) hSd ?_
            case yf11 => (intro wz hSw; obtain ⟨hz0, hz1, hz2, hz3, hz4⟩ := hSw; go_simp; (try with_reducible rfl))
            try simp only [Act.put, List.getElem_toArray, List.getElem_cons_zero, List.getElem_cons_succ, List.setIfInBounds_toArray, List.set_cons_zero, List.set_cons_succ]
            refine anyT_take (i := 12) (v := ?vf12) rfl (by kernel_rfl) (by kernel_rfl) (by kernel_rfl) (by kernel_rfl) (by decide) (fun _ _ _ h => h) (Or.inl ⟨by rfl, ?yf12⟩) hSd ?_
            case yf12 => (intro wz hSw; obtain ⟨hz0, hz1, hz2, hz3, hz4⟩ := hSw; go_simp; (try with_reducible rfl))
            try simp only [Act.put, List.getElem_toArray, List.getElem_cons_zero, List.getElem_cons_succ, List.setIfInBounds_toArray, List.set_cons_zero, List.set_cons_succ]
            refine anyT_take (i := 13) (v := ?vf13) rfl (by kernel_rfl) (by kernel_rfl) (by kernel_rfl) (by kernel_rfl) (by decide) (fun _ _ _ h => h) (Or.inl ⟨by rfl, ?yf13⟩) hSd ?_
            case yf13 => (intro wz hSw; obtain ⟨hz0, hz1, hz2, hz3, hz4⟩ := hSw; go_simp; (try with_reducible rfl))
            try simp only [Act.put, List.getElem_toArray, List.getElem_cons_zero, List.getElem_cons_succ, List.setIfInBounds_toArray, List.set_cons_zero, List.set_cons_succ]
            refine anyT_take (i := 14) (v := ?vf14) rfl (by kernel_rfl) (by kernel_rfl) (by kernel_rfl) (by kernel_rfl) (by decide) (fun _ _ _ h => h) (Or.inl ⟨by rfl, ?yf14⟩) hSd ?_
            case yf14 => (intro wz hSw; obtain ⟨hz0, hz1, hz2, hz3, hz4⟩ := hSw; go_simp; (try with_reducible rfl))
            try simp only [Act.put, List.getElem_toArray, List.getElem_cons_zero, List.getElem_cons_succ, List.setIfInBounds_toArray, List.set_cons_zero, List.set_cons_succ]
            refine anyT_take (i := 15) (v := ?vf15) rfl (by kernel_rfl) (by kernel_rfl) (by kernel_rfl) (by kernel_rfl) (by decide) (fun _ _ _ h => h) (Or.inl ⟨by rfl, ?yf15⟩) hSd ?_
            case yf15 => (intro wz hSw; obtain ⟨hz0, hz1, hz2, hz3, hz4⟩ := hSw; go_simp; (try with_reducible rfl))
            try simp only [Act.put, List.getElem_toArray, List.getElem_cons_zero, List.getElem_cons_succ, List.setIfInBounds_toArray, List.set_cons_zero, List.set_cons_succ]
            refine anyT_take (i := 16) (v := ?vf16) rfl (by kernel_rfl) (by kernel_rfl) (by kernel_rfl) (by kernel_rfl) (by decide) (fun _ _ _ h => h) (Or.inl ⟨by rfl, ?yf16⟩) hSd ?_
            case yf16 => (intro wz hSw; obtain ⟨hz0, hz1, hz2, hz3, hz4⟩ := hSw; go_simp; (try with_reducible rfl))
            try simp only [Act.put, List.getElem_toArray, List.getElem_cons_zero, List.getElem_cons_succ, List.setIfInBounds_toArray, List.set_cons_zero, List.set_cons_succ]
            refine anyT_take (i := 17) (v := ?vf17) rfl (by kernel_rfl) (by kernel_rfl) (by kernel_rfl) (by kernel_rfl) (by decide) (fun _ _ _ h => h) (Or.inl ⟨by rfl, ?yf17⟩) hSd ?_
            case yf17 => (intro wz hSw; obtain ⟨hz0, hz1, hz2, hz3, hz4⟩ := hSw; go_simp; (try with_reducible rfl))
            try simp only [Act.put, List.getElem_toArray, List.getElem_cons_zero, List.getElem_cons_succ, List.setIfInBounds_toArray, List.set_cons_zero, List.set_cons_succ]
            refine anyT_take (i := 18) (v := ?vf18) rfl (by kernel_rfl) (by kernel_rfl) (by kernel_rfl) (by kernel_rfl) (by decide) (fun _ _ _ h => h) (Or.inl ⟨by rfl, ?yf18⟩) hSd ?_
            case yf18 => (intro wz hSw; obtain ⟨hz0, hz1, hz2, hz3, hz4⟩ := hSw; go_simp; (try with_reducible rfl))
            try simp only [Act.put, List.getElem_toArray, List.getElem_cons_zero, List.getElem_cons_succ, List.setIfInBounds_toArray, List.set_cons_zero, List.set_cons_succ]
            refine anyT_take (i := 19) (v := ?vf19) rfl (by kernel_rfl) (by kernel_rfl) (by kernel_rfl) (by kernel_rfl) (by decide) (fun _ _ _ h => h) (Or.inl ⟨by rfl, ?yf19⟩) hSd ?_
            case yf19 => (intro wz hSw; obtain ⟨hz0, hz1, hz2, hz3, hz4⟩ := hSw; go_simp; (try with_reducible rfl))
            try simp only [Act.put, List.getElem_toArray, List.getElem_cons_zero, List.getElem_cons_succ, List.setIfInBounds_toArray, List.set_cons_zero, List.set_cons_succ]
            refine anyT_take (i := 20) (v := ?vf20) rfl (by kernel_rfl) (by kernel_rfl) (by kernel_rfl) (by kernel_rfl) (by decide) (fun _ _ _ h => h) (Or.inl ⟨by rfl, ?yf20⟩) hSd ?_
            case yf20 => (intro wz hSw; obtain ⟨hz0, hz1, hz2, hz3, hz4⟩ := hSw; go_simp; (try with_reducible rfl))
            try simp only [Act.put, List.getElem_toArray, List.getElem_cons_zero, List.getElem_cons_succ, List.setIfInBounds_toArray, List.set_cons_zero, List.set_cons_succ]
            refine anyT_one (i := 21) (by kernel_rfl) rfl (fun K hK => ?_)
            go_simp
            refine hK.out _ _ (.inr hSd) ?_
            clear hK
            try simp only [Act.put, List.getElem_toArray, List.getElem_cons_zero, List.getElem_cons_succ, List.setIfInBounds_toArray, List.set_cons_zero, List.set_cons_succ]
            refine anyT_one (i := 22) (by kernel_rfl) rfl (fun K hK => ?_)
            go_simp
            refine hK.out _ _ (.inl rfl) ?_
            clear hK
            try simp only [Act.put, List.getElem_toArray, List.getElem_cons_zero, List.getElem_cons_succ, List.setIfInBounds_toArray, List.set_cons_zero, List.set_cons_succ]
            refine anyT_done (by kernel_rfl) ?_
            have HJ3 := HJ2.out fbv (by rw [HV.out.1, HV.out.2]; rfl)
            go_wp2_with fail
            go_roundw
            case rel => exact ⟨j + 1, by omega, by omega, by go_num, upd2 f k j fbv, HJ3⟩
            case measure => simp [intOf]; omega
          case true =>
            have hSd : (fun w' : World => w'.cell? ⟨g, k, none⟩ = some (slV (ρ k) (n + 1) (γ k)) ∧ w'.cell? ⟨ga, k, none⟩ = some (slV (ρa k) (n + 1) (γa k)) ∧ w'.cell? ⟨ρa k, j, none⟩ = some (.bool true) ∧ w'.cell? ⟨gb, k, none⟩ = some (slV (ρb k) (n + 1) (γb k)) ∧ w'.cell? ⟨ρb k, j, none⟩ = some (.bool fbv)) wr.drew := ⟨c0, a0, a1, b0, b1⟩
            refine wp_region_T 22 (fun w' : World => w'.cell? ⟨g, k, none⟩ = some (slV (ρ k) (n + 1) (γ k)) ∧ w'.cell? ⟨ga, k, none⟩ = some (slV (ρa k) (n + 1) (γa k)) ∧ w'.cell? ⟨ρa k, j, none⟩ = some (.bool true) ∧ w'.cell? ⟨gb, k, none⟩ = some (slV (ρb k) (n + 1) (γb k)) ∧ w'.cell? ⟨ρb k, j, none⟩ = some (.bool fbv)) (by kernel_rfl) ?_
            refine anyT_take (i := 0) (v := ?vt0) rfl (by kernel_rfl) (by kernel_rfl) (by kernel_rfl) (by kernel_rfl) (by decide) (fun _ _ _ h => h) (Or.inl ⟨by rfl, ?yt0⟩) hSd ?_
            case yt0 => (intro wz hSw; obtain ⟨hz0, hz1, hz2, hz3, hz4⟩ := hSw; go_simp; (try with_reducible rfl))
            try simp only [Act.put, List.getElem_toArray, List.getElem_cons_zero, List.getElem_cons_succ, List.setIfInBounds_toArray, List.set_cons_zero, List.set_cons_succ]
            refine anyT_take (i := 1) (v := ?vt1) rfl (by kernel_rfl) (by kernel_rfl) (by kernel_rfl) (by kernel_rfl) (by decide) (fun _ _ _ h => h) (Or.inl ⟨by rfl, ?yt1⟩) hSd ?_
            case yt1 => (intro wz hSw; obtain ⟨hz0, hz1, hz2, hz3, hz4⟩ := hSw; go_simp; (try with_reducible rfl))
            try simp only [Act.put, List.getElem_toArray, List.getElem_cons_zero, List.getElem_cons_succ, List.setIfInBounds_toArray, List.set_cons_zero, List.set_cons_succ]
            refine anyT_take (i := 2) (v := ?vt2) rfl (by kernel_rfl) (by kernel_rfl) (by kernel_rfl) (by kernel_rfl) (by decide) (fun _ _ _ h => h) (Or.inl ⟨by rfl, ?yt2⟩) hSd ?_
            case yt2 => (intro wz hSw; obtain ⟨hz0, hz1, hz2, hz3, hz4⟩ := hSw; go_simp; (try with_reducible rfl))
            try simp only [Act.put, List.getElem_toArray, List.getElem_cons_zero, List.getElem_cons_succ, List.setIfInBounds_toArray, List.set_cons_zero, List.set_cons_succ]
            refine anyT_take (i := 3) (v := ?vt3) rfl (by kernel_rfl) (by kernel_rfl) (by kernel_rfl) (by kernel_rfl) (by decide) (fun _ _ _ h => h) (Or.inl ⟨by rfl, ?yt3⟩) hSd ?_
            case yt3 => (intro wz hSw; obtain ⟨hz0, hz1, hz2, hz3, hz4⟩ := hSw; go_simp; (try with_reducible rfl))
            try simp only [Act.put, List.getElem_toArray, List.getElem_cons_zero, List.getElem_cons_succ, List.setIfInBounds_toArray, List.set_cons_zero, List.set_cons_succ]
            refine anyT_take (i := 4) (v := ?vt4) rfl (by kernel_rfl) (by kernel_rfl) (by kernel_rfl) (by kernel_rfl) (by decide) (fun _ _ _ h => h) (Or.inl ⟨by rfl, ?yt4⟩) hSd ?_
            case yt4 => (intro wz hSw; obtain ⟨hz0, hz1, hz2, hz3, hz4⟩ := hSw; go_simp; (try with_reducible rfl))
            try simp only [Act.put, List.getElem_toArray, List.getElem_cons_zero, List.getElem_cons_succ, List.setIfInBounds_toArray, List.set_cons_zero, List.set_cons_succ]
            refine anyT_take (i := 5) (v := ?vt5) rfl (by kernel_rfl) (by kernel_rfl) (by kernel_rfl) (by kernel_rfl) (by decide) (fun _ _ _ h => h) (Or.inl ⟨by rfl, ?yt5⟩) hSd ?_
            case yt5 => (intro wz hSw; obtain ⟨hz0, hz1, hz2, hz3, hz4⟩ := hSw; go_simp; (try with_reducible rfl))
            try simp only [Act.put, List.getElem_toArray, List.getElem_cons_zero, List.getElem_cons_succ, List.setIfInBounds_toArray, List.set_cons_zero, List.set_cons_succ]
            refine anyT_take (i := 6) (v := ?vt6) rfl (by kernel_rfl) (by kernel_rfl) (by kernel_rfl) (by kernel_rfl) (by decide) (fun _ _ _ h => h) (Or.inl ⟨by rfl, ?yt6⟩) hSd ?_
            case yt6 => (intro wz hSw; obtain ⟨hz0, hz1, hz2, hz3, hz4⟩ := hSw; go_simp; (try with_reducible rfl))
            try simp only [Act.put, List.getElem_toArray, List.getElem_cons_zero, List.getElem_cons_succ, List.setIfInBounds_toArray, List.set_cons_zero, List.set_cons_succ]
            refine anyT_take (i := 7) (v := ?vt7) rfl (by kernel_rfl) (by kernel_rfl) (by kernel_rfl) (by kernel_rfl) (by decide) (fun _ _ _ h => h) (Or.inl ⟨by rfl, ?yt7⟩) hSd ?_
            case yt7 => (intro wz hSw; obtain ⟨hz0, hz1, hz2, hz3, hz4⟩ := hSw; go_simp; (try with_reducible rfl))
            try simp only [Act.put, List.getElem_toArray, List.getElem_cons_zero, List.getElem_cons_succ, List.setIfInBounds_toArray, List.set_cons_zero, List.set_cons_succ]
            refine anyT_take (i := 8) (v := ?vt8) rfl (by kernel_rfl) (by kernel_rfl) (by kernel_rfl) (by kernel_rfl) (by decide) (fun _ _ _ h => h) (Or.inl ⟨by rfl, ?yt8⟩) hSd ?_
            case yt8 => (intro wz hSw; obtain ⟨hz0, hz1, hz2, hz3, hz4⟩ := hSw; go_simp; (try with_reducible rfl))
            try simp only [Act.put, List.getElem_toArray, List.getElem_cons_zero, List.getElem_cons_succ, List.setIfInBounds_toArray, List.set_cons_zero, List.set_cons_succ]
            refine anyT_take (i := 9) (v := ?vt9) rfl (by kernel_rfl) (by kernel_rfl) (by kernel_rfl) (by kernel_rfl) (by decide) (fun _ _ _ h => h) (Or.inl ⟨by rfl, ?yt9⟩) hSd ?_
            case yt9 => (intro wz hSw; obtain ⟨hz0, hz1, hz2, hz3, hz4⟩ := hSw; go_simp; (try with_reducible rfl))
            try simp only [Act.put, List.getElem_toArray, List.getElem_cons_zero, List.getElem_cons_succ, List.setIfInBounds_toArray, List.set_cons_zero, List.set_cons_succ]
            refine anyT_take (i := 10) (v := ?vt10) rfl (by kernel_rfl) (by kernel_rfl) (by kernel_rfl) (by kernel_rfl) (by decide) (fun _ _ _ h => h) (Or.inl ⟨by rfl, ?yt10⟩) hSd ?_
            case yt10 => (intro wz hSw; obtain ⟨hz0, hz1, hz2, hz3, hz4⟩ := hSw; go_simp; (try with_reducible rfl))
            try simp only [Act.put, List.getElem_toArray, List.getElem_cons_zero, List.getElem_cons_succ, List.setIfInBounds_toArray, List.set_cons_zero, List.set_cons_succ]
            refine anyT_take (i := 11) (v := ?vt11) rfl (by kernel_rfl) (by kernel_rfl) (by kernel_rfl) (by kernel_rfl) (by decide) (fun _ _ _ h => h) (Or.inl ⟨by rfl, ?yt11⟩) hSd ?_
            case yt11 => (intro wz hSw; obtain ⟨hz0, hz1, hz2, hz3, hz4⟩ := hSw; go_simp; (try with_reducible rfl))
            try simp only [Act.put, List.getElem_toArray, List.getElem_cons_zero, List.getElem_cons_succ, List.setIfInBounds_toArray, List.set_cons_zero, List.set_cons_succ]
            refine anyT_take (i := 12) (v := ?vt12) rfl (by kernel_rfl) (by kernel_rfl) (by kernel_rfl) (by kernel_rfl) (by decide) (fun _ _ _ h => h) (Or.inl ⟨by rfl, ?yt12⟩) hSd ?_
            case yt12 => (intro wz hSw; obtain ⟨hz0, hz1, hz2, hz3, hz4⟩ := hSw; go_simp; (try with_reducible rfl))
            try simp only [Act.put, List.getElem_toArray, List.getElem_cons_zero, List.getElem_cons_succ, List.setIfInBounds_toArray, List.set_cons_zero, List.set_cons_succ]
            refine anyT_take (i := 13) (v := undef) rfl (by kernel_rfl) (by kernel_rfl) (by kernel_rfl) (by kernel_rfl) (by decide) (fun _ _ _ h => h) (Or.inr ⟨by rfl, rfl⟩) hSd ?_
            try simp only [Act.put, List.getElem_toArray, List.getElem_cons_zero, List.getElem_cons_succ, List.setIfInBounds_toArray, List.set_cons_zero, List.set_cons_succ]
            refine anyT_take (i := 14) (v := undef) rfl (by kernel_rfl) (by kernel_rfl) (by kernel_rfl) (by kernel_rfl) (by decide) (fun _ _ _ h => h) (Or.inr ⟨by rfl, rfl⟩) hSd ?_
            try simp only [Act.put, List.getElem_toArray, List.getElem_cons_zero, List.getElem_cons_succ, List.setIfInBounds_toArray, List.set_cons_zero, List.set_cons_succ]
            refine anyT_take (i := 15) (v := undef) rfl (by kernel_rfl) (by kernel_rfl) (by kernel_rfl) (by kernel_rfl) (by decide) (fun _ _ _ h => h) (Or.inr ⟨by rfl, rfl⟩) hSd ?_
            try simp only [Act.put, List.getElem_toArray, List.getElem_cons_zero, List.getElem_cons_succ, List.setIfInBounds_toArray, List.set_cons_zero, List.set_cons_succ]
            refine anyT_take (i := 16) (v := undef) rfl (by kernel_rfl) (by kernel_rfl) (by kernel_rfl) (by kernel_rfl) (by decide) (fun _ _ _ h => h) (Or.inr ⟨by rfl, rfl⟩) hSd ?_
            try simp only [Act.put, List.getElem_toArray, List.getElem_cons_zero, List.getElem_cons_succ, List.setIfInBounds_toArray, List.set_cons_zero, List.set_cons_succ]
            refine anyT_take (i := 17) (v := undef) rfl (by kernel_rfl) (by kernel_rfl) (by kernel_rfl) (by kernel_rfl) (by decide) (fun _ _ _ h => h) (Or.inr ⟨by rfl, rfl⟩) hSd ?_
            try simp only [Act.put, List.getElem_toArray, List.getElem_cons_zero, List.getElem_cons_succ, List.setIfInBounds_toArray, List.set_cons_zero, List.set_cons_succ]
            refine anyT_take (i := 18) (v := undef) rfl (by kernel_rfl) (by kernel_rfl) (by kernel_rfl) (by kernel_rfl) (by decide) (fun _ _ _ h => h) (Or.inr ⟨by rfl, rfl⟩) hSd ?_
            try simp only [Act.put, List.getElem_toArray, List.getElem_cons_zero, List.getElem_cons_succ, List.setIfInBounds_toArray, List.set_cons_zero, List.set_cons_succ]
            refine anyT_take (i := 19) (v := undef) rfl (by kernel_rfl) (by kernel_rfl) (by kernel_rfl) (by kernel_rfl) (by decide) (fun _ _ _ h => h) (Or.inr ⟨by rfl, rfl⟩) hSd ?_
            try simp only [Act.put, List.getElem_toArray, List.getElem_cons_zero, List.getElem_cons_succ, List.setIfInBounds_toArray, List.set_cons_zero, List.set_cons_succ]
            refine anyT_take (i := 20) (v := ?vt20) rfl (by kernel_rfl) (by kernel_rfl) (by kernel_rfl) (by kernel_rfl) (by decide) (fun _ _ _ h => h) (Or.inl ⟨by rfl, ?yt20⟩) hSd ?_
            case yt20 => (intro wz hSw; obtain ⟨hz0, hz1, hz2, hz3, hz4⟩ := hSw; go_simp; (try with_reducible rfl))
            try simp only [Act.put, List.getElem_toArray, List.getElem_cons_zero, List.getElem_cons_succ, List.setIfInBounds_toArray, List.set_cons_zero, List.set_cons_succ]
            refine anyT_one (i := 21) (by kernel_rfl) rfl (fun K hK => ?_)
            go_simp
            refine hK.out _ _ (.inr hSd) ?_
            clear hK
            try simp only [Act.put, List.getElem_toArray, List.getElem_cons_zero, List.getElem_cons_succ, List.setIfInBounds_toArray, List.set_cons_zero, List.set_cons_succ]
            refine anyT_one (i := 22) (by kernel_rfl) rfl (fun K hK => ?_)
            go_simp
            refine hK.out _ _ (.inl rfl) ?_
            clear hK
            try simp only [Act.put, List.getElem_toArray, List.getElem_cons_zero, List.getElem_cons_succ, List.setIfInBounds_toArray, List.set_cons_zero, List.set_cons_succ]
            refine anyT_done (by kernel_rfl) ?_
            have HJ3 := HJ2.out true (by rw [HV.out.1, HV.out.2]; rfl)
            go_wp2_with fail
            go_roundw
            case rel => exact ⟨j + 1, by omega, by omega, by go_num, upd2 f k j true, HJ3⟩
            case measure => simp [intOf]; omega
        · obtain rfl : j = n + 1 := by omega
          have zj : ¬ ((n + 1 : Nat) : Int) < ((n + 1 : Nat) : Int) := by omega
          have HJ2 : Hid (MatO wr w.heap.size g cp (n + 1) (n + 1) ρ γ f ∧ (∀ x y, x ≤ y → y < n + 1 → f x y = orF fa fb (k + 1) 0 x y) ∧ Below w.heap.size w wr) := by
            refine ⟨HJ.out.1, fun x y hxy hy => ?_, HJ.out.2.2⟩
            rw [HJ.out.2.1 x y hxy hy]
            unfold orF
            congr 1
            rw [Bool.eq_iff_iff]; simp only [Bool.or_eq_true, Bool.and_eq_true, decide_eq_true_eq, beq_iff_eq]; omega
          go_wp2_with fail
          go_roundw
          case rel => exact ⟨k + 1, f, by omega, by go_num, HJ2.out⟩
          case measure => simp [intOf]; omega
    · obtain rfl : k = n + 1 := by omega
      have zk : ¬ ((n + 1 : Nat) : Int) < ((n + 1 : Nat) : Int) := by omega
      go_wp2_with fail
      go_ret
      refine ⟨g, cp, ρ, γ, f0, rfl, ⟨HJ0.out.1, fun i j hij hj => ?_⟩, HJ0.out.2.2⟩
      rw [HJ0.out.2.1 i j hij hj]
      have : i < n + 1 := by omega
      simp [orF, this]
end Go.Proofs.YtbjbdidcnkamaaaDoor

/-
  spec's l4Then.
-/
namespace Go.Proofs.YtbjbdidcnkamaaaDoor
open Go.ChangeShapes Go.WideShapes Go.ChangeAt Go.RowKit Go.Deep
set_option linter.unusedVariables false
set_option linter.unusedSimpArgs false
set_option maxRecDepth 100000

/-- By way of a place below K. -/
def thF (fa fb : Nat → Nat → Bool) (i j K : Nat) : Bool := (List.range K).any (fun k => decide (i ≤ k) && decide (k ≤ j) && fa i k && fb k j)
theorem thF_succ (fa fb : Nat → Nat → Bool) (i j k : Nat) : thF fa fb i j (k + 1) = (thF fa fb i j k || (decide (i ≤ k) && decide (k ≤ j) && fa i k && fb k j)) := by
  simp [thF, List.range_succ, List.any_append]
theorem thF_skip {fa fb : Nat → Nat → Bool} {i j k : Nat} (h : ¬ i ≤ k ∨ ¬ k ≤ j ∨ fa i k = false) : thF fa fb i j (k + 1) = thF fa fb i j k := by
  rw [thF_succ]
  rcases h with h | h | h <;> simp [h]
theorem thF_le {fa fb : Nat → Nat → Bool} {i j : Nat} : ∀ (k m : Nat), j < k → thF fa fb i j (k + m) = thF fa fb i j k
  | k, 0, _ => rfl
  | k, m + 1, h => by rw [← Nat.add_assoc, thF_skip (.inr (.inl (by omega))), thF_le k m h]
theorem thF_zero {fa fb : Nat → Nat → Bool} {i j : Nat} : ∀ (k : Nat), k ≤ i → thF fa fb i j k = false
  | 0, _ => rfl
  | k + 1, h => by rw [thF_skip (.inl (by omega)), thF_zero k (by omega)]
theorem thF_iff {fa fb : Nat → Nat → Bool} {i j K : Nat} : thF fa fb i j K = true ↔ ∃ k, k < K ∧ i ≤ k ∧ k ≤ j ∧ fa i k = true ∧ fb k j = true := by
  simp only [thF, List.any_eq_true, List.mem_range, Bool.and_eq_true, decide_eq_true_eq]
  constructor
  · rintro ⟨k, h0, ⟨⟨h1, h2⟩, h3⟩, h4⟩; exact ⟨k, h0, h1, h2, h3, h4⟩
  · rintro ⟨k, h0, h1, h2, h3, h4⟩; exact ⟨k, h0, ⟨⟨h1, h2⟩, h3⟩, h4⟩
/-- Rows below i are done; row i has gone by way of the places below k, and of k too up to j. -/
def stF (fa fb : Nat → Nat → Bool) (N i k j x y : Nat) : Bool := if x < i then thF fa fb x y N else if x = i then thF fa fb i y (if y < j then k + 1 else k) else false
set_option maxHeartbeats 16000000 in
theorem l4Then_core (n ga ca gb cb : Nat) (ρa γa ρb γb : Nat → Nat) (fa fb : Nat → Nat → Bool) (w : World) (hn : n ≤ 1000) (ha : MatR w ga (n + 1) ρa γa fa) (hb : MatR w gb (n + 1) ρb γb fb) (hca : n + 1 ≤ ca) (hcb : n + 1 ≤ cb) : Calls Tryd.prog 31 #[slV ga (n + 1) ca, slV gb (n + 1) cb] w (MaF (n + 1) (fun i j => thF fa fb i j (n + 1)) w) := by
  have HR : Hid (MatR w ga (n + 1) ρa γa fa ∧ MatR w gb (n + 1) ρb γb fb) := ⟨ha, hb⟩
  clear ha hb
  go_enter Tryd.func31, Tryd.ntmps31
  go_wp2_with fail
  refine (l4None_core n hn w).mono ?_
  rintro r w1 ⟨g, cp, ρ, γ, rfl, HM, hb1⟩
  have hcp := HM.out.out.caps
  go_wp2_with fail
  go_loopw [6] (fun iv wr => ∃ (i : Nat) (f : Nat → Nat → Bool), i ≤ n + 1 ∧ iv = .int .i64 i ∧ Hid (MatO wr w.heap.size g cp (n + 1) (n + 1) ρ γ f ∧ (∀ x y, x ≤ y → y < n + 1 → f x y = stF fa fb (n + 1) i 0 0 x y) ∧ Below w.heap.size w wr)) (fun iv _ => n + 1 - (intOf iv).toNat)
  case atStart => exact ⟨0, _, Nat.zero_le _, rfl, HM.out, fun x y _ _ => by
    unfold stF
    rw [if_neg (by omega)]
    split
    · rw [if_neg (by omega)]; rfl
    · rfl, hb1⟩
  case round =>
    obtain ⟨i, f0, hi, rfl, HJ0⟩ := hrel
    obtain ⟨Wr, hWr⟩ : ∃ Wr : World, Wr = wr := ⟨_, rfl⟩
    subst hWr
    by_cases hli : i < n + 1
    · have zi : (i : Int) < ((n + 1 : Nat) : Int) := by omega
      go_wp2_with fail
      go_loopw [7] (fun kv wr => ∃ (k : Nat) (f : Nat → Nat → Bool), i ≤ k ∧ k ≤ n + 1 ∧ kv = .int .i64 k ∧ Hid (MatO wr w.heap.size g cp (n + 1) (n + 1) ρ γ f ∧ (∀ x y, x ≤ y → y < n + 1 → f x y = stF fa fb (n + 1) i k 0 x y) ∧ Below w.heap.size w wr)) (fun kv _ => n + 1 - (intOf kv).toNat)
      case atStart => exact ⟨i, f0, Nat.le_refl _, by omega, rfl, HJ0.out.1, fun x y hxy hy => by
        rw [HJ0.out.2.1 x y hxy hy]
        unfold stF
        split
        · rfl
        · split
          · rw [if_neg (by omega), if_neg (by omega), thF_zero 0 (by omega), thF_zero i (Nat.le_refl _)]
          · rfl, HJ0.out.2.2⟩
      case round =>
        obtain ⟨k, f1, hik, hk, rfl, HJ1⟩ := hrel
        obtain ⟨Ws, hWs⟩ : ∃ Ws : World, Ws = wr := ⟨_, rfl⟩
        subst hWs
        by_cases hlk : k < n + 1
        · have zk : (k : Int) < ((n + 1 : Nat) : Int) := by omega
          have hra := HR.out.1.below HJ1.out.2.2 (Nat.le_refl _)
          have a0 := hra.out i hli
          have a1 := hra.row i k hli hlk
          have hc1 := HR.out.1.cap i hli
          obtain ⟨fav, hfa⟩ : ∃ fav, fa i k = fav := ⟨_, rfl⟩
          rw [hfa] at a1
          have HFa : Hid (fa i k = fav) := hfa
          clear hra hfa
          cases fav
          case false =>
            have HJ2 : Hid (MatO Ws w.heap.size g cp (n + 1) (n + 1) ρ γ f1 ∧ (∀ x y, x ≤ y → y < n + 1 → f1 x y = stF fa fb (n + 1) i (k + 1) 0 x y) ∧ Below w.heap.size w Ws) := by
              refine ⟨HJ1.out.1, fun x y hxy hy => ?_, HJ1.out.2.2⟩
              rw [HJ1.out.2.1 x y hxy hy]
              unfold stF
              split
              · rfl
              · split
                · rw [if_neg (by omega), if_neg (by omega), thF_skip (.inr (.inr HFa.out))]
                · rfl
            go_wp2_with fail
            go_roundw
            case rel => first | exact ⟨k + 1, by omega, by omega, by go_num, f1, HJ2.out⟩ | exact ⟨k + 1, by omega, by omega, by omega, by go_num, f1, HJ2.out⟩ | exact ⟨k + 1, f1, by omega, by omega, by go_num, HJ2.out⟩
            case measure => simp [intOf]; omega
          case true =>
          go_wp2_with fail
          clear a0 a1 hc1
          go_loopw [8] (fun jv wr => ∃ (j : Nat) (f : Nat → Nat → Bool), k ≤ j ∧ j ≤ n + 1 ∧ jv = .int .i64 j ∧ Hid (MatO wr w.heap.size g cp (n + 1) (n + 1) ρ γ f ∧ (∀ x y, x ≤ y → y < n + 1 → f x y = stF fa fb (n + 1) i k j x y) ∧ Below w.heap.size w wr)) (fun jv _ => n + 1 - (intOf jv).toNat)
          case atStart => exact ⟨k, f1, Nat.le_refl _, by omega, rfl, HJ1.out.1, fun x y hxy hy => by
            rw [HJ1.out.2.1 x y hxy hy]
            unfold stF
            split
            · rfl
            · split
              · rw [if_neg (by omega)]
                split
                · rw [thF_skip (.inr (.inl (by omega)))]
                · rfl
              · rfl, HJ1.out.2.2⟩
          case round =>
            obtain ⟨j, f, hkj, hj, rfl, HJ⟩ := hrel
            by_cases hlj : j < n + 1
            · have zj : (j : Int) < ((n + 1 : Nat) : Int) := by omega
              have hrb := HR.out.2.below HJ.out.2.2 (Nat.le_refl _)
              have c0 : wr.cell? ⟨g, i, none⟩ = some (slV (ρ i) (n + 1) (γ i)) := HJ.out.1.cell hli
              have c1 : wr.cell? ⟨ρ i, j, none⟩ = some (.bool (f i j)) := (HJ.out.1.row i hli).cell hlj
              have z1 : wr.frozen? ⟨ρ i, j, none⟩ = false := World.ownsRow.frozenAt (HJ.out.1.row i hli) _
              have hrc := (HJ.out.1.row i hli).caps
              have b0 := hrb.out k hlk
              have b1 := hrb.row k j hlk hlj
              have hc2 := HR.out.2.cap k hlk
              have HJ2 : Hid (∀ v : Bool, v = (f i j || fb k j) → Hid (MatO (wr.setCell ⟨ρ i, j, none⟩ (.bool v)).drew w.heap.size g cp (n + 1) (n + 1) ρ γ (upd2 f i j v) ∧ (∀ x y, x ≤ y → y < n + 1 → upd2 f i j v x y = stF fa fb (n + 1) i k (j + 1) x y) ∧ Below w.heap.size w (wr.setCell ⟨ρ i, j, none⟩ (.bool v)).drew)) := fun v hv => by
                refine ⟨(HJ.out.1.set hli hlj v).below ((Below.refl _ _).drew), fun x y hxy hy => ?_, (below_set HJ.out.2.2 (HJ.out.1.row i hli).lt.1 _ _).drew⟩
                unfold upd2
                by_cases e : x = i ∧ y = j
                · rw [if_pos e, hv, HJ.out.2.1 i j (by omega) hlj, e.1, e.2]
                  unfold stF
                  rw [if_neg (by omega), if_pos rfl, if_neg (by omega), if_neg (by omega), if_pos rfl, if_pos (by omega), thF_succ, HFa.out]
                  have h1 : i ≤ k := hik
                  simp [h1, hkj]
                · rw [if_neg e, HJ.out.2.1 x y hxy hy]
                  unfold stF
                  split
                  · rfl
                  · split
                    · have h1 : y ≠ j := fun q => e ⟨by assumption, q⟩
                      by_cases h2 : y < j
                      · rw [if_pos h2, if_pos (by omega)]
                      · rw [if_neg h2, if_neg (by omega)]
                    · rfl
              obtain ⟨ov, hov⟩ : ∃ ov, f i j = ov := ⟨_, rfl⟩
              obtain ⟨fbv, hfb⟩ : ∃ fbv, fb k j = fbv := ⟨_, rfl⟩
              have HV : Hid (f i j = ov ∧ fb k j = fbv) := ⟨hov, hfb⟩
              rw [hov] at c1
              rw [hfb] at b1
              clear hrb hov hfb
              go_upto_region 12 with fail
              cases ov
              case false =>
                have hSd : (fun w' : World => w'.cell? ⟨g, i, none⟩ = some (slV (ρ i) (n + 1) (γ i)) ∧ w'.cell? ⟨ρ i, j, none⟩ = some (.bool false) ∧ w'.cell? ⟨gb, k, none⟩ = some (slV (ρb k) (n + 1) (γb k)) ∧ w'.cell? ⟨ρb k, j, none⟩ = some (.bool fbv)) wr.drew := ⟨c0, c1, b0, b1⟩
                refine wp_region_T 22 (fun w' : World => w'.cell? ⟨g, i, none⟩ = some (slV (ρ i) (n + 1) (γ i)) ∧ w'.cell? ⟨ρ i, j, none⟩ = some (.bool false) ∧ w'.cell? ⟨gb, k, none⟩ = some (slV (ρb k) (n + 1) (γb k)) ∧ w'.cell? ⟨ρb k, j, none⟩ = some (.bool fbv)) (by kernel_rfl) ?_
                refine anyT_take (i := 0) (v := ?vf0) rfl (by kernel_rfl) (by kernel_rfl) (by kernel_rfl) (by kernel_rfl) (by decide) (fun _ _ _ h => h) (Or.inl ⟨by rfl, ?yf0⟩) hSd ?_
                case yf0 => (intro wz hSw; obtain ⟨hz0, hz1, hz2, hz3⟩ := hSw; go_simp; (try with_reducible rfl))
                try simp only [Act.put, List.getElem_toArray, List.getElem_cons_zero, List.getElem_cons_succ, List.setIfInBounds_toArray, List.set_cons_zero, List.set_cons_succ]
                refine anyT_take (i := 1) (v := ?vf1) rfl (by kernel_rfl) (by kernel_rfl) (by kernel_rfl) (by kernel_rfl) (by decide) (fun _ _ _ h => h) (Or.inl ⟨by rfl, ?yf1⟩) hSd ?_
                case yf1 => (intro wz hSw; obtain ⟨hz0, hz1, hz2, hz3⟩ := hSw; go_simp; (try with_reducible rfl))
                try simp only [Act.put, List.getElem_toArray, List.getElem_cons_zero, List.getElem_cons_succ, List.setIfInBounds_toArray, List.set_cons_zero, List.set_cons_succ]
                refine anyT_take (i := 2) (v := ?vf2) rfl (by kernel_rfl) (by kernel_rfl) (by kernel_rfl) (by kernel_rfl) (by decide) (fun _ _ _ h => h) (Or.inl ⟨by rfl, ?yf2⟩) hSd ?_
                case yf2 => (intro wz hSw; obtain ⟨hz0, hz1, hz2, hz3⟩ := hSw; go_simp; (try with_reducible rfl))
                try simp only [Act.put, List.getElem_toArray, List.getElem_cons_zero, List.getElem_cons_succ, List.setIfInBounds_toArray, List.set_cons_zero, List.set_cons_succ]
                refine anyT_take (i := 3) (v := ?vf3) rfl (by kernel_rfl) (by kernel_rfl) (by kernel_rfl) (by kernel_rfl) (by decide) (fun _ _ _ h => h) (Or.inl ⟨by rfl, ?yf3⟩) hSd ?_
                case yf3 => (intro wz hSw; obtain ⟨hz0, hz1, hz2, hz3⟩ := hSw; go_simp; (try with_reducible rfl))
                try simp only [Act.put, List.getElem_toArray, List.getElem_cons_zero, List.getElem_cons_succ, List.setIfInBounds_toArray, List.set_cons_zero, List.set_cons_succ]
                refine anyT_take (i := 4) (v := ?vf4) rfl (by kernel_rfl) (by kernel_rfl) (by kernel_rfl) (by kernel_rfl) (by decide) (fun _ _ _ h => h) (Or.inl ⟨by rfl, ?yf4⟩) hSd ?_
                case yf4 => (intro wz hSw; obtain ⟨hz0, hz1, hz2, hz3⟩ := hSw; go_simp; (try with_reducible rfl))
                try simp only [Act.put, List.getElem_toArray, List.getElem_cons_zero, List.getElem_cons_succ, List.setIfInBounds_toArray, List.set_cons_zero, List.set_cons_succ]
                refine anyT_take (i := 5) (v := ?vf5) rfl (by kernel_rfl) (by kernel_rfl) (by kernel_rfl) (by kernel_rfl) (by decide) (fun _ _ _ h => h) (Or.inl ⟨by rfl, ?yf5⟩) hSd ?_
                case yf5 => (intro wz hSw; obtain ⟨hz0, hz1, hz2, hz3⟩ := hSw; go_simp; (try with_reducible rfl))
                try simp only [Act.put, List.getElem_toArray, List.getElem_cons_zero, List.getElem_cons_succ, List.setIfInBounds_toArray, List.set_cons_zero, List.set_cons_succ]
                refine anyT_take (i := 6) (v := ?vf6) rfl (by kernel_rfl) (by kernel_rfl) (by kernel_rfl) (by kernel_rfl) (by decide) (fun _ _ _ h => h) (Or.inl ⟨by rfl, ?yf6⟩) hSd ?_
                case yf6 => (intro wz hSw; obtain ⟨hz0, hz1, hz2, hz3⟩ := hSw; go_simp; (try with_reducible rfl))
                try simp only [Act.put, List.getElem_toArray, List.getElem_cons_zero, List.getElem_cons_succ, List.setIfInBounds_toArray, List.set_cons_zero, List.set_cons_succ]
                refine anyT_take (i := 7) (v := ?vf7) rfl (by kernel_rfl) (by kernel_rfl) (by kernel_rfl) (by kernel_rfl) (by decide) (fun _ _ _ h => h) (Or.inl ⟨by rfl, ?yf7⟩) hSd ?_
                case yf7 => (intro wz hSw; obtain ⟨hz0, hz1, hz2, hz3⟩ := hSw; go_simp; (try with_reducible rfl))
                try simp only [Act.put, List.getElem_toArray, List.getElem_cons_zero, List.getElem_cons_succ, List.setIfInBounds_toArray, List.set_cons_zero, List.set_cons_succ]
                refine anyT_take (i := 8) (v := ?vf8) rfl (by kernel_rfl) (by kernel_rfl) (by kernel_rfl) (by kernel_rfl) (by decide) (fun _ _ _ h => h) (Or.inl ⟨by rfl, ?yf8⟩) hSd ?_
                case yf8 => (intro wz hSw; obtain ⟨hz0, hz1, hz2, hz3⟩ := hSw; go_simp; (try with_reducible rfl))
                try simp only [Act.put, List.getElem_toArray, List.getElem_cons_zero, List.getElem_cons_succ, List.setIfInBounds_toArray, List.set_cons_zero, List.set_cons_succ]
                refine anyT_take (i := 9) (v := ?vf9) rfl (by kernel_rfl) (by kernel_rfl) (by kernel_rfl) (by kernel_rfl) (by decide) (fun _ _ _ h => h) (Or.inl ⟨by rfl, ?yf9⟩) hSd ?_
                case yf9 => (intro wz hSw; obtain ⟨hz0, hz1, hz2, hz3⟩ := hSw; go_simp; (try with_reducible rfl))
                try simp only [Act.put, List.getElem_toArray, List.getElem_cons_zero, List.getElem_cons_succ, List.setIfInBounds_toArray, List.set_cons_zero, List.set_cons_succ]
                refine anyT_take (i := 10) (v := ?vf10) rfl (by kernel_rfl) (by kernel_rfl) (by kernel_rfl) (by kernel_rfl) (by decide) (fun _ _ _ h => h) (Or.inl ⟨by rfl, ?yf10⟩) hSd ?_
                case yf10 => (intro wz hSw; obtain ⟨hz0, hz1, hz2, hz3⟩ := hSw; go_simp; (try with_reducible rfl))
                try simp only [Act.put, List.getElem_toArray, List.getElem_cons_zero, List.getElem_cons_succ, List.setIfInBounds_toArray, List.set_cons_zero, List.set_cons_succ]
                refine anyT_take (i := 11) (v := ?vf11) rfl (by kernel_rfl) (by kernel_rfl) (by kernel_rfl) (by kernel_rfl) (by decide) (fun _ _ _ h => h) (Or.inl ⟨by rfl, ?yf11⟩) hSd ?_
                case yf11 => (intro wz hSw; obtain ⟨hz0, hz1, hz2, hz3⟩ := hSw; go_simp; (try with_reducible rfl))
                try simp only [Act.put, List.getElem_toArray, List.getElem_cons_zero, List.getElem_cons_succ, List.setIfInBounds_toArray, List.set_cons_zero, List.set_cons_succ]
                refine anyT_take (i := 12) (v := ?vf12) rfl (by kernel_rfl) (by kernel_rfl) (by kernel_rfl) (by kernel_rfl) (by decide) (fun _ _ _ h => h) (Or.inl ⟨by rfl, ?yf12⟩) hSd ?_
                case yf12 => (intro wz hSw; obtain ⟨hz0, hz1, hz2, hz3⟩ := hSw; go_simp; (try with_reducible rfl))
                try simp only [Act.put, List.getElem_toArray, List.getElem_cons_zero, List.getElem_cons_succ, List.setIfInBounds_toArray, List.set_cons_zero, List.set_cons_succ]
                refine anyT_take (i := 13) (v := ?vf13) rfl (by kernel_rfl) (by kernel_rfl) (by kernel_rfl) (by kernel_rfl) (by decide) (fun _ _ _ h => h) (Or.inl ⟨by rfl, ?yf13⟩) hSd ?_
                case yf13 => (intro wz hSw; obtain ⟨hz0, hz1, hz2, hz3⟩ := hSw; go_simp; (try with_reducible rfl))
                try simp only [Act.put, List.getElem_toArray, List.getElem_cons_zero, List.getElem_cons_succ, List.setIfInBounds_toArray, List.set_cons_zero, List.set_cons_succ]
                refine anyT_take (i := 14) (v := ?vf14) rfl (by kernel_rfl) (by kernel_rfl) (by kernel_rfl) (by kernel_rfl) (by decide) (fun _ _ _ h => h) (Or.inl ⟨by rfl, ?yf14⟩) hSd ?_
                case yf14 => (intro wz hSw; obtain ⟨hz0, hz1, hz2, hz3⟩ := hSw; go_simp; (try with_reducible rfl))
                try simp only [Act.put, List.getElem_toArray, List.getElem_cons_zero, List.getElem_cons_succ, List.setIfInBounds_toArray, List.set_cons_zero, List.set_cons_succ]
                refine anyT_take (i := 15) (v := ?vf15) rfl (by kernel_rfl) (by kernel_rfl) (by kernel_rfl) (by kernel_rfl) (by decide) (fun _ _ _ h => h) (Or.inl ⟨by rfl, ?yf15⟩) hSd ?_
                case yf15 => (intro wz hSw; obtain ⟨hz0, hz1, hz2, hz3⟩ := hSw; go_simp; (try with_reducible rfl))
                try simp only [Act.put, List.getElem_toArray, List.getElem_cons_zero, List.getElem_cons_succ, List.setIfInBounds_toArray, List.set_cons_zero, List.set_cons_succ]
                refine anyT_take (i := 16) (v := ?vf16) rfl (by kernel_rfl) (by kernel_rfl) (by kernel_rfl) (by kernel_rfl) (by decide) (fun _ _ _ h => h) (Or.inl ⟨by rfl, ?yf16⟩) hSd ?_
                case yf16 => (intro wz hSw; obtain ⟨hz0, hz1, hz2, hz3⟩ := hSw; go_simp; (try with_reducible rfl))
                try simp only [Act.put, List.getElem_toArray, List.getElem_cons_zero, List.getElem_cons_succ, List.setIfInBounds_toArray, List.set_cons_zero, List.set_cons_succ]
                refine anyT_take (i := 17) (v := ?vf17) rfl (by kernel_rfl) (by kernel_rfl) (by kernel_rfl) (by kernel_rfl) (by decide) (fun _ _ _ h => h) (Or.inl ⟨by rfl, ?yf17⟩) hSd ?_
                case yf17 => (intro wz hSw; obtain ⟨hz0, hz1, hz2, hz3⟩ := hSw; go_simp; (try with_reducible rfl))
                try simp only [Act.put, List.getElem_toArray, List.getElem_cons_zero, List.getElem_cons_succ, List.setIfInBounds_toArray, List.set_cons_zero, List.set_cons_succ]
                refine anyT_take (i := 18) (v := ?vf18) rfl (by kernel_rfl) (by kernel_rfl) (by kernel_rfl) (by kernel_rfl) (by decide) (fun _ _ _ h => h) (Or.inl ⟨by rfl, ?yf18⟩) hSd ?_
                case yf18 => (intro wz hSw; obtain ⟨hz0, hz1, hz2, hz3⟩ := hSw; go_simp; (try with_reducible rfl))
                try simp only [Act.put, List.getElem_toArray, List.getElem_cons_zero, List.getElem_cons_succ, List.setIfInBounds_toArray, List.set_cons_zero, List.set_cons_succ]
                refine anyT_take (i := 19) (v := ?vf19) rfl (by kernel_rfl) (by kernel_rfl) (by kernel_rfl) (by kernel_rfl) (by decide) (fun _ _ _ h => h) (Or.inl ⟨by rfl, ?yf19⟩) hSd ?_
                case yf19 => (intro wz hSw; obtain ⟨hz0, hz1, hz2, hz3⟩ := hSw; go_simp; (try with_reducible rfl))
                try simp only [Act.put, List.getElem_toArray, List.getElem_cons_zero, List.getElem_cons_succ, List.setIfInBounds_toArray, List.set_cons_zero, List.set_cons_succ]
                refine anyT_take (i := 20) (v := ?vf20) rfl (by kernel_rfl) (by kernel_rfl) (by kernel_rfl) (by kernel_rfl) (by decide) (fun _ _ _ h => h) (Or.inl ⟨by rfl, ?yf20⟩) hSd ?_
                case yf20 => (intro wz hSw; obtain ⟨hz0, hz1, hz2, hz3⟩ := hSw; go_simp; (try with_reducible rfl))
                try simp only [Act.put, List.getElem_toArray, List.getElem_cons_zero, List.getElem_cons_succ, List.setIfInBounds_toArray, List.set_cons_zero, List.set_cons_succ]
                refine anyT_one (i := 21) (by kernel_rfl) rfl (fun K hK => ?_)
                go_simp
                refine hK.out _ _ (.inr hSd) ?_
                clear hK
                try simp only [Act.put, List.getElem_toArray, List.getElem_cons_zero, List.getElem_cons_succ, List.setIfInBounds_toArray, List.set_cons_zero, List.set_cons_succ]
                refine anyT_one (i := 22) (by kernel_rfl) rfl (fun K hK => ?_)
                go_simp
                refine hK.out _ _ (.inl rfl) ?_
                clear hK
                try simp only [Act.put, List.getElem_toArray, List.getElem_cons_zero, List.getElem_cons_succ, List.setIfInBounds_toArray, List.set_cons_zero, List.set_cons_succ]
                refine anyT_done (by kernel_rfl) ?_
                have HJ3 := HJ2.out fbv (by rw [HV.out.1, HV.out.2]; rfl)
                go_wp2_with fail
                go_roundw
                case rel => exact ⟨j + 1, by omega, by omega, by go_num, upd2 f i j fbv, HJ3⟩
                case measure => simp [intOf]; omega
              case true =>
                have hSd : (fun w' : World => w'.cell? ⟨g, i, none⟩ = some (slV (ρ i) (n + 1) (γ i)) ∧ w'.cell? ⟨ρ i, j, none⟩ = some (.bool true) ∧ w'.cell? ⟨gb, k, none⟩ = some (slV (ρb k) (n + 1) (γb k)) ∧ w'.cell? ⟨ρb k, j, none⟩ = some (.bool fbv)) wr.drew := ⟨c0, c1, b0, b1⟩
                refine wp_region_T 22 (fun w' : World => w'.cell? ⟨g, i, none⟩ = some (slV (ρ i) (n + 1) (γ i)) ∧ w'.cell? ⟨ρ i, j, none⟩ = some (.bool true) ∧ w'.cell? ⟨gb, k, none⟩ = some (slV (ρb k) (n + 1) (γb k)) ∧ w'.cell? ⟨ρb k, j, none⟩ = some (.bool fbv)) (by kernel_rfl) ?_
                refine anyT_take (i := 0) (v := ?vt0) rfl (by kernel_rfl) (by kernel_rfl) (by kernel_rfl) (by kernel_rfl) (by decide) (fun _ _ _ h => h) (Or.inl ⟨by rfl, ?yt0⟩) hSd ?_
                case yt0 => (intro wz hSw; obtain ⟨hz0, hz1, hz2, hz3⟩ := hSw; go_simp; (try with_reducible rfl))
                try simp only [Act.put, List.getElem_toArray, List.getElem_cons_zero, List.getElem_cons_succ, List.setIfInBounds_toArray, List.set_cons_zero, List.set_cons_succ]
                refine anyT_take (i := 1) (v := ?vt1) rfl (by kernel_rfl) (by kernel_rfl) (by kernel_rfl) (by kernel_rfl) (by decide) (fun _ _ _ h => h) (Or.inl ⟨by rfl, ?yt1⟩) hSd ?_
                case yt1 => (intro wz hSw; obtain ⟨hz0, hz1, hz2, hz3⟩ := hSw; go_simp; (try with_reducible rfl))
                try simp only [Act.put, List.getElem_toArray, List.getElem_cons_zero, List.getElem_cons_succ, List.setIfInBounds_toArray, List.set_cons_zero, List.set_cons_succ]
                refine anyT_take (i := 2) (v := ?vt2) rfl (by kernel_rfl) (by kernel_rfl) (by kernel_rfl) (by kernel_rfl) (by decide) (fun _ _ _ h => h) (Or.inl ⟨by rfl, ?yt2⟩) hSd ?_
                case yt2 => (intro wz hSw; obtain ⟨hz0, hz1, hz2, hz3⟩ := hSw; go_simp; (try with_reducible rfl))
                try simp only [Act.put, List.getElem_toArray, List.getElem_cons_zero, List.getElem_cons_succ, List.setIfInBounds_toArray, List.set_cons_zero, List.set_cons_succ]
                refine anyT_take (i := 3) (v := ?vt3) rfl (by kernel_rfl) (by kernel_rfl) (by kernel_rfl) (by kernel_rfl) (by decide) (fun _ _ _ h => h) (Or.inl ⟨by rfl, ?yt3⟩) hSd ?_
                case yt3 => (intro wz hSw; obtain ⟨hz0, hz1, hz2, hz3⟩ := hSw; go_simp; (try with_reducible rfl))
                try simp only [Act.put, List.getElem_toArray, List.getElem_cons_zero, List.getElem_cons_succ, List.setIfInBounds_toArray, List.set_cons_zero, List.set_cons_succ]
                refine anyT_take (i := 4) (v := ?vt4) rfl (by kernel_rfl) (by kernel_rfl) (by kernel_rfl) (by kernel_rfl) (by decide) (fun _ _ _ h => h) (Or.inl ⟨by rfl, ?yt4⟩) hSd ?_
                case yt4 => (intro wz hSw; obtain ⟨hz0, hz1, hz2, hz3⟩ := hSw; go_simp; (try with_reducible rfl))
                try simp only [Act.put, List.getElem_toArray, List.getElem_cons_zero, List.getElem_cons_succ, List.setIfInBounds_toArray, List.set_cons_zero, List.set_cons_succ]
                refine anyT_take (i := 5) (v := ?vt5) rfl (by kernel_rfl) (by kernel_rfl) (by kernel_rfl) (by kernel_rfl) (by decide) (fun _ _ _ h => h) (Or.inl ⟨by rfl, ?yt5⟩) hSd ?_
                case yt5 => (intro wz hSw; obtain ⟨hz0, hz1, hz2, hz3⟩ := hSw; go_simp; (try with_reducible rfl))
                try simp only [Act.put, List.getElem_toArray, List.getElem_cons_zero, List.getElem_cons_succ, List.setIfInBounds_toArray, List.set_cons_zero, List.set_cons_succ]
                refine anyT_take (i := 6) (v := ?vt6) rfl (by kernel_rfl) (by kernel_rfl) (by kernel_rfl) (by kernel_rfl) (by decide) (fun _ _ _ h => h) (Or.inl ⟨by rfl, ?yt6⟩) hSd ?_
                case yt6 => (intro wz hSw; obtain ⟨hz0, hz1, hz2, hz3⟩ := hSw; go_simp; (try with_reducible rfl))
                try simp only [Act.put, List.getElem_toArray, List.getElem_cons_zero, List.getElem_cons_succ, List.setIfInBounds_toArray, List.set_cons_zero, List.set_cons_succ]
                refine anyT_take (i := 7) (v := ?vt7) rfl (by kernel_rfl) (by kernel_rfl) (by kernel_rfl) (by kernel_rfl) (by decide) (fun _ _ _ h => h) (Or.inl ⟨by rfl, ?yt7⟩) hSd ?_
                case yt7 => (intro wz hSw; obtain ⟨hz0, hz1, hz2, hz3⟩ := hSw; go_simp; (try with_reducible rfl))
                try simp only [Act.put, List.getElem_toArray, List.getElem_cons_zero, List.getElem_cons_succ, List.setIfInBounds_toArray, List.set_cons_zero, List.set_cons_succ]
                refine anyT_take (i := 8) (v := ?vt8) rfl (by kernel_rfl) (by kernel_rfl) (by kernel_rfl) (by kernel_rfl) (by decide) (fun _ _ _ h => h) (Or.inl ⟨by rfl, ?yt8⟩) hSd ?_
                case yt8 => (intro wz hSw; obtain ⟨hz0, hz1, hz2, hz3⟩ := hSw; go_simp; (try with_reducible rfl))
                try simp only [Act.put, List.getElem_toArray, List.getElem_cons_zero, List.getElem_cons_succ, List.setIfInBounds_toArray, List.set_cons_zero, List.set_cons_succ]
                refine anyT_take (i := 9) (v := ?vt9) rfl (by kernel_rfl) (by kernel_rfl) (by kernel_rfl) (by kernel_rfl) (by decide) (fun _ _ _ h => h) (Or.inl ⟨by rfl, ?yt9⟩) hSd ?_
                case yt9 => (intro wz hSw; obtain ⟨hz0, hz1, hz2, hz3⟩ := hSw; go_simp; (try with_reducible rfl))
                try simp only [Act.put, List.getElem_toArray, List.getElem_cons_zero, List.getElem_cons_succ, List.setIfInBounds_toArray, List.set_cons_zero, List.set_cons_succ]
                refine anyT_take (i := 10) (v := ?vt10) rfl (by kernel_rfl) (by kernel_rfl) (by kernel_rfl) (by kernel_rfl) (by decide) (fun _ _ _ h => h) (Or.inl ⟨by rfl, ?yt10⟩) hSd ?_
                case yt10 => (intro wz hSw; obtain ⟨hz0, hz1, hz2, hz3⟩ := hSw; go_simp; (try with_reducible rfl))
                try simp only [Act.put, List.getElem_toArray, List.getElem_cons_zero, List.getElem_cons_succ, List.setIfInBounds_toArray, List.set_cons_zero, List.set_cons_succ]
                refine anyT_take (i := 11) (v := ?vt11) rfl (by kernel_rfl) (by kernel_rfl) (by kernel_rfl) (by kernel_rfl) (by decide) (fun _ _ _ h => h) (Or.inl ⟨by rfl, ?yt11⟩) hSd ?_
                case yt11 => (intro wz hSw; obtain ⟨hz0, hz1, hz2, hz3⟩ := hSw; go_simp; (try with_reducible rfl))
                try simp only [Act.put, List.getElem_toArray, List.getElem_cons_zero, List.getElem_cons_succ, List.setIfInBounds_toArray, List.set_cons_zero, List.set_cons_succ]
                refine anyT_take (i := 12) (v := ?vt12) rfl (by kernel_rfl) (by kernel_rfl) (by kernel_rfl) (by kernel_rfl) (by decide) (fun _ _ _ h => h) (Or.inl ⟨by rfl, ?yt12⟩) hSd ?_
                case yt12 => (intro wz hSw; obtain ⟨hz0, hz1, hz2, hz3⟩ := hSw; go_simp; (try with_reducible rfl))
                try simp only [Act.put, List.getElem_toArray, List.getElem_cons_zero, List.getElem_cons_succ, List.setIfInBounds_toArray, List.set_cons_zero, List.set_cons_succ]
                refine anyT_take (i := 13) (v := undef) rfl (by kernel_rfl) (by kernel_rfl) (by kernel_rfl) (by kernel_rfl) (by decide) (fun _ _ _ h => h) (Or.inr ⟨by rfl, rfl⟩) hSd ?_
                try simp only [Act.put, List.getElem_toArray, List.getElem_cons_zero, List.getElem_cons_succ, List.setIfInBounds_toArray, List.set_cons_zero, List.set_cons_succ]
                refine anyT_take (i := 14) (v := undef) rfl (by kernel_rfl) (by kernel_rfl) (by kernel_rfl) (by kernel_rfl) (by decide) (fun _ _ _ h => h) (Or.inr ⟨by rfl, rfl⟩) hSd ?_
                try simp only [Act.put, List.getElem_toArray, List.getElem_cons_zero, List.getElem_cons_succ, List.setIfInBounds_toArray, List.set_cons_zero, List.set_cons_succ]
                refine anyT_take (i := 15) (v := undef) rfl (by kernel_rfl) (by kernel_rfl) (by kernel_rfl) (by kernel_rfl) (by decide) (fun _ _ _ h => h) (Or.inr ⟨by rfl, rfl⟩) hSd ?_
                try simp only [Act.put, List.getElem_toArray, List.getElem_cons_zero, List.getElem_cons_succ, List.setIfInBounds_toArray, List.set_cons_zero, List.set_cons_succ]
                refine anyT_take (i := 16) (v := undef) rfl (by kernel_rfl) (by kernel_rfl) (by kernel_rfl) (by kernel_rfl) (by decide) (fun _ _ _ h => h) (Or.inr ⟨by rfl, rfl⟩) hSd ?_
                try simp only [Act.put, List.getElem_toArray, List.getElem_cons_zero, List.getElem_cons_succ, List.setIfInBounds_toArray, List.set_cons_zero, List.set_cons_succ]
                refine anyT_take (i := 17) (v := undef) rfl (by kernel_rfl) (by kernel_rfl) (by kernel_rfl) (by kernel_rfl) (by decide) (fun _ _ _ h => h) (Or.inr ⟨by rfl, rfl⟩) hSd ?_
                try simp only [Act.put, List.getElem_toArray, List.getElem_cons_zero, List.getElem_cons_succ, List.setIfInBounds_toArray, List.set_cons_zero, List.set_cons_succ]
                refine anyT_take (i := 18) (v := undef) rfl (by kernel_rfl) (by kernel_rfl) (by kernel_rfl) (by kernel_rfl) (by decide) (fun _ _ _ h => h) (Or.inr ⟨by rfl, rfl⟩) hSd ?_
                try simp only [Act.put, List.getElem_toArray, List.getElem_cons_zero, List.getElem_cons_succ, List.setIfInBounds_toArray, List.set_cons_zero, List.set_cons_succ]
                refine anyT_take (i := 19) (v := undef) rfl (by kernel_rfl) (by kernel_rfl) (by kernel_rfl) (by kernel_rfl) (by decide) (fun _ _ _ h => h) (Or.inr ⟨by rfl, rfl⟩) hSd ?_
                try simp only [Act.put, List.getElem_toArray, List.getElem_cons_zero, List.getElem_cons_succ, List.setIfInBounds_toArray, List.set_cons_zero, List.set_cons_succ]
                refine anyT_take (i := 20) (v := ?vt20) rfl (by kernel_rfl) (by kernel_rfl) (by kernel_rfl) (by kernel_rfl) (by decide) (fun _ _ _ h => h) (Or.inl ⟨by rfl, ?yt20⟩) hSd ?_
                case yt20 => (intro wz hSw; obtain ⟨hz0, hz1, hz2, hz3⟩ := hSw; go_simp; (try with_reducible rfl))
                try simp only [Act.put, List.getElem_toArray, List.getElem_cons_zero, List.getElem_cons_succ, List.setIfInBounds_toArray, List.set_cons_zero, List.set_cons_succ]
                refine anyT_one (i := 21) (by kernel_rfl) rfl (fun K hK => ?_)
                go_simp
                refine hK.out _ _ (.inr hSd) ?_
                clear hK
                try simp only [Act.put, List.getElem_toArray, List.getElem_cons_zero, List.getElem_cons_succ, List.setIfInBounds_toArray, List.set_cons_zero, List.set_cons_succ]
                refine anyT_one (i := 22) (by kernel_rfl) rfl (fun K hK => ?_)
                go_simp
                refine hK.out _ _ (.inl rfl) ?_
                clear hK
                try simp only [Act.put, List.getElem_toArray, List.getElem_cons_zero, List.getElem_cons_succ, List.setIfInBounds_toArray, List.set_cons_zero, List.set_cons_succ]
                refine anyT_done (by kernel_rfl) ?_
                have HJ3 := HJ2.out true (by rw [HV.out.1, HV.out.2]; rfl)
                go_wp2_with fail
                go_roundw
                case rel => exact ⟨j + 1, by omega, by omega, by go_num, upd2 f i j true, HJ3⟩
                case measure => simp [intOf]; omega
            · obtain rfl : j = n + 1 := by omega
              have zj : ¬ ((n + 1 : Nat) : Int) < ((n + 1 : Nat) : Int) := by omega
              have HJ2 : Hid (MatO wr w.heap.size g cp (n + 1) (n + 1) ρ γ f ∧ (∀ x y, x ≤ y → y < n + 1 → f x y = stF fa fb (n + 1) i (k + 1) 0 x y) ∧ Below w.heap.size w wr) := by
                refine ⟨HJ.out.1, fun x y hxy hy => ?_, HJ.out.2.2⟩
                rw [HJ.out.2.1 x y hxy hy]
                unfold stF
                split
                · rfl
                · split
                  · first | rw [if_pos hy, if_neg (by omega)] | rw [if_neg (by omega)]
                  · rfl
              go_wp2_with fail
              go_roundw
              case rel => first | exact ⟨k + 1, by omega, by omega, by go_num, f, HJ2.out⟩ | exact ⟨k + 1, by omega, by omega, by omega, by go_num, f, HJ2.out⟩ | exact ⟨k + 1, f, by omega, by omega, by go_num, HJ2.out⟩
              case measure => simp [intOf]; omega
        · obtain rfl : k = n + 1 := by omega
          have zk : ¬ ((n + 1 : Nat) : Int) < ((n + 1 : Nat) : Int) := by omega
          have HJ2 : Hid (MatO Ws w.heap.size g cp (n + 1) (n + 1) ρ γ f1 ∧ (∀ x y, x ≤ y → y < n + 1 → f1 x y = stF fa fb (n + 1) (i + 1) 0 0 x y) ∧ Below w.heap.size w Ws) := by
            refine ⟨HJ1.out.1, fun x y hxy hy => ?_, HJ1.out.2.2⟩
            rw [HJ1.out.2.1 x y hxy hy]
            unfold stF
            by_cases h1 : x < i
            · rw [if_pos h1, if_pos (by omega)]
            · by_cases h2 : x = i
              · rw [if_neg h1, if_pos h2, if_neg (by omega), if_pos (by omega), h2]
              · rw [if_neg h1, if_neg h2, if_neg (by omega)]
                split
                · rw [if_neg (by omega), thF_zero 0 (by omega)]
                · rfl
          go_wp2_with fail
          go_roundw
          case rel => first | exact ⟨i + 1, f1, by omega, by go_num, HJ2.out⟩ | exact ⟨i + 1, by omega, by go_num, f1, HJ2.out⟩
          case measure => simp [intOf]; omega
    · obtain rfl : i = n + 1 := by omega
      have zi : ¬ ((n + 1 : Nat) : Int) < ((n + 1 : Nat) : Int) := by omega
      go_wp2_with fail
      go_ret
      refine ⟨g, cp, ρ, γ, f0, rfl, ⟨HJ0.out.1, fun x y hxy hy => ?_⟩, HJ0.out.2.2⟩
      rw [HJ0.out.2.1 x y hxy hy]
      unfold stF
      rw [if_pos (by omega)]
end Go.Proofs.YtbjbdidcnkamaaaDoor

