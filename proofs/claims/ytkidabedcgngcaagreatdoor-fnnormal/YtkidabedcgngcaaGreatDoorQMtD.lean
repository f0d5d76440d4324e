/-
  spec's l4Then.
-/
import Derived.Test.YtkidabedcgngcaaGreatDoorPkAR
namespace Go.Proofs.YtkidabedcgngcaaGreatDoor
open Go.ChangeShapes Go.WideShapes Go.ChangeAt Go.RowKit Go.Deep
set_option linter.unusedVariables false
set_option linter.unusedSimpArgs false
set_option maxRecDepth 100000

/-- By way of a place below K. -/
def thF (fa fb : Nat → Nat → Bool) (i j K : Nat) : Bool := (List.range K).any (fun k => decide (i ≤ k) && decide (k ≤ j) && fa i k && fb k j)
theorem thF_succ (fa fb : Nat → Nat → Bool) (i j k : Nat) : thF fa fb i j (k + 1) = (thF fa fb i j k || (decide (i ≤ k) && decide (k ≤ j) && fa i k && fb k j)) := by
  simp [thF, List.range_succ, List.any_append]
theorem thF_skip {fa fb : Nat → Nat → Bool} {i j k : Nat} (h : ¬ i ≤ k ∨ ¬ k ≤ j ∨ fa i k = false) : thF fa fb i j (k + 1) = thF fa fb i j k := by
  rw [thF_succ]
  rcases h with h | h | h <;> simp [h]
theorem thF_le {fa fb : Nat → Nat → Bool} {i j : Nat} : ∀ (k m : Nat), j < k → thF fa fb i j (k + m) = thF fa fb i j k
  | k, 0, _ => rfl
  | k, m + 1, h => by rw [← Nat.add_assoc, thF_skip (.inr (.inl (by omega))), thF_le k m h]
theorem thF_zero {fa fb : Nat → Nat → Bool} {i j : Nat} : ∀ (k : Nat), k ≤ i → thF fa fb i j k = false
  | 0, _ => rfl
  | k + 1, h => by rw [thF_skip (.inl (by omega)), thF_zero k (by omega)]
theorem thF_iff {fa fb : Nat → Nat → Bool} {i j K : Nat} : thF fa fb i j K = true ↔ ∃ k, k < K ∧ i ≤ k ∧ k ≤ j ∧ fa i k = true ∧ fb k j = true := by
  simp only [thF, List.any_eq_true, List.mem_range, Bool.and_eq_true, decide_eq_true_eq]
  constructor
  · rintro ⟨k, h0, ⟨⟨h1, h2⟩, h3⟩, h4⟩; exact ⟨k, h0, h1, h2, h3, h4⟩
  · rintro ⟨k, h0, h1, h2, h3, h4⟩; exact ⟨k, h0, ⟨⟨h1, h2⟩, h3⟩, h4⟩
/-- Rows below i are done; row i has gone by way of the places below k, and of k too up to j. -/
def stF (fa fb : Nat → Nat → Bool) (N i k j x y : Nat) : Bool := if x < i then thF fa fb x y N else if x = i then thF fa fb i y (if y < j then k + 1 else k) else false
set_option maxHeartbeats 16000000 in
theorem l4Then_core (n ga ca gb cb : Nat) (ρa γa ρb γb : Nat → Nat) (fa fb : Nat → Nat → Bool) (w : World) (hn : n ≤ 1000) (ha : MatR w ga (n + 1) ρa γa fa) (hb : MatR w gb (n + 1) ρb γb fb) (hca : n + 1 ≤ ca) (hcb : n + 1 ≤ cb) : Calls Tryz.prog 180 #[slV ga (n + 1) ca, slV gb (n + 1) cb] w (MaF (n + 1) (fun i j => thF fa fb i j (n + 1)) w) := by
  have HR : Hid (MatR w ga (n + 1) ρa γa fa ∧ MatR w gb (n + 1) ρb γb fb) := ⟨ha, hb⟩
  clear ha hb
  go_enter Tryz.func180, Tryz.ntmps180
  go_wp2_with fail
  refine (l4None_core n hn w).mono ?_
  rintro r w1 ⟨g, cp, ρ, γ, rfl, HM, hb1⟩
  have hcp := HM.out.out.caps
  go_wp2_with fail
  go_loopw [6] (fun iv wr => ∃ (i : Nat) (f : Nat → Nat → Bool), i ≤ n + 1 ∧ iv = .int .i64 i ∧ Hid (MatO wr w.heap.size g cp (n + 1) (n + 1) ρ γ f ∧ (∀ x y, x ≤ y → y < n + 1 → f x y = stF fa fb (n + 1) i 0 0 x y) ∧ Below w.heap.size w wr)) (fun iv _ => n + 1 - (intOf iv).toNat)
  case atStart => exact ⟨0, _, Nat.zero_le _, rfl, HM.out, fun x y _ _ => by
    unfold stF
    rw [if_neg (by omega)]
    split
    · rw [if_neg (by omega)]; rfl
    · rfl, hb1⟩
  case round =>
    obtain ⟨i, f0, hi, rfl, HJ0⟩ := hrel
    obtain ⟨Wr, hWr⟩ : ∃ Wr : World, Wr = wr := ⟨_, rfl⟩
    subst hWr
    by_cases hli : i < n + 1
    · have zi : (i : Int) < ((n + 1 : Nat) : Int) := by omega
      go_wp2_with fail
      go_loopw [7] (fun kv wr => ∃ (k : Nat) (f : Nat → Nat → Bool), i ≤ k ∧ k ≤ n + 1 ∧ kv = .int .i64 k ∧ Hid (MatO wr w.heap.size g cp (n + 1) (n + 1) ρ γ f ∧ (∀ x y, x ≤ y → y < n + 1 → f x y = stF fa fb (n + 1) i k 0 x y) ∧ Below w.heap.size w wr)) (fun kv _ => n + 1 - (intOf kv).toNat)
      case atStart => exact ⟨i, f0, Nat.le_refl _, by omega, rfl, HJ0.out.1, fun x y hxy hy => by
        rw [HJ0.out.2.1 x y hxy hy]
        unfold stF
        split
        · rfl
        · split
          · rw [if_neg (by omega), if_neg (by omega), thF_zero 0 (by omega), thF_zero i (Nat.le_refl _)]
          · rfl, HJ0.out.2.2⟩
      case round =>
        obtain ⟨k, f1, hik, hk, rfl, HJ1⟩ := hrel
        obtain ⟨Ws, hWs⟩ : ∃ Ws : World, Ws = wr := ⟨_, rfl⟩
        subst hWs
        by_cases hlk : k < n + 1
        · have zk : (k : Int) < ((n + 1 : Nat) : Int) := by omega
          have hra := HR.out.1.below HJ1.out.2.2 (Nat.le_refl _)
          have a0 := hra.out i hli
          have a1 := hra.row i k hli hlk
          have hc1 := HR.out.1.cap i hli
          obtain ⟨fav, hfa⟩ : ∃ fav, fa i k = fav := ⟨_, rfl⟩
          rw [hfa] at a1
          have HFa : Hid (fa i k = fav) := hfa
          clear hra hfa
          cases fav
          case false =>
            have HJ2 : Hid (MatO Ws w.heap.size g cp (n + 1) (n + 1) ρ γ f1 ∧ (∀ x y, x ≤ y → y < n + 1 → f1 x y = stF fa fb (n + 1) i (k + 1) 0 x y) ∧ Below w.heap.size w Ws) := by
              refine ⟨HJ1.out.1, fun x y hxy hy => ?_, HJ1.out.2.2⟩
              rw [HJ1.out.2.1 x y hxy hy]
              unfold stF
              split
              · rfl
              · split
                · rw [if_neg (by omega), if_neg (by omega), thF_skip (.inr (.inr HFa.out))]
                · rfl
            go_wp2_with fail
            go_roundw
            case rel => first | exact ⟨k + 1, by omega, by omega, by go_num, f1, HJ2.out⟩ | exact ⟨k + 1, by omega, by omega, by omega, by go_num, f1, HJ2.out⟩ | exact ⟨k + 1, f1, by omega, by omega, by go_num, HJ2.out⟩
            case measure => simp [intOf]; omega
          case true =>
          go_wp2_with fail
          clear a0 a1 hc1
          go_loopw [8] (fun jv wr => ∃ (j : Nat) (f : Nat → Nat → Bool), k ≤ j ∧ j ≤ n + 1 ∧ jv = .int .i64 j ∧ Hid (MatO wr w.heap.size g cp (n + 1) (n + 1) ρ γ f ∧ (∀ x y, x ≤ y → y < n + 1 → f x y = stF fa fb (n + 1) i k j x y) ∧ Below w.heap.size w wr)) (fun jv _ => n + 1 - (intOf jv).toNat)
          case atStart => exact ⟨k, f1, Nat.le_refl _, by omega, rfl, HJ1.out.1, fun x y hxy hy => by
            rw [HJ1.out.2.1 x y hxy hy]
            unfold stF
            split
            · rfl
            · split
              · rw [if_neg (by omega)]
                split
                · rw [thF_skip (.inr (.inl (by omega)))]
                · rfl
              · rfl, HJ1.out.2.2⟩
          case round =>
            obtain ⟨j, f, hkj, hj, rfl, HJ⟩ := hrel
            by_cases hlj : j < n + 1
            · have zj : (j : Int) < ((n + 1 : Nat) : Int) := by omega
              have hrb := HR.out.2.below HJ.out.2.2 (Nat.le_refl _)
              have c0 : wr.cell? ⟨g, i, none⟩ = some (slV (ρ i) (n + 1) (γ i)) := HJ.out.1.cell hli
              have c1 : wr.cell? ⟨ρ i, j, none⟩ = some (.bool (f i j)) := (HJ.out.1.row i hli).cell hlj
              have z1 : wr.frozen? ⟨ρ i, j, none⟩ = false := World.ownsRow.frozenAt (HJ.out.1.row i hli) _
              have hrc := (HJ.out.1.row i hli).caps
              have b0 := hrb.out k hlk
              have b1 := hrb.row k j hlk hlj
              have hc2 := HR.out.2.cap k hlk
              have HJ2 : Hid (∀ v : Bool, v = (f i j || fb k j) → Hid (MatO (wr.setCell ⟨ρ i, j, none⟩ (.bool v)).drew w.heap.size g cp (n + 1) (n + 1) ρ γ (upd2 f i j v) ∧ (∀ x y, x ≤ y → y < n + 1 → upd2 f i j v x y = stF fa fb (n + 1) i k (j + 1) x y) ∧ Below w.heap.size w (wr.setCell ⟨ρ i, j, none⟩ (.bool v)).drew)) := fun v hv => by
                refine ⟨(HJ.out.1.set hli hlj v).below ((Below.refl _ _).drew), fun x y hxy hy => ?_, (below_set HJ.out.2.2 (HJ.out.1.row i hli).lt.1 _ _).drew⟩
                unfold upd2
                by_cases e : x = i ∧ y = j
                · rw [if_pos e, hv, HJ.out.2.1 i j (by omega) hlj, e.1, e.2]
                  unfold stF
                  rw [if_neg (by omega), if_pos rfl, if_neg (by omega), if_neg (by omega), if_pos rfl, if_pos (by omega), thF_succ, HFa.out]
                  have h1 : i ≤ k := hik
                  simp [h1, hkj]
                · rw [if_neg e, HJ.out.2.1 x y hxy hy]
                  unfold stF
                  split
                  · rfl
                  · split
                    · have h1 : y ≠ j := fun q => e ⟨by assumption, q⟩
                      by_cases h2 : y < j
                      · rw [if_pos h2, if_pos (by omega)]
                      · rw [if_neg h2, if_neg (by omega)]
                    · rfl
              obtain ⟨ov, hov⟩ : ∃ ov, f i j = ov := ⟨_, rfl⟩
              obtain ⟨fbv, hfb⟩ : ∃ fbv, fb k j = fbv := ⟨_, rfl⟩
              have HV : Hid (f i j = ov ∧ fb k j = fbv) := ⟨hov, hfb⟩
              rw [hov] at c1
              rw [hfb] at b1
              clear hrb hov hfb
              go_upto_region 12 with fail
              cases ov
              case false =>
                have hSd : (fun w' : World => w'.cell? ⟨g, i, none⟩ = some (slV (ρ i) (n + 1) (γ i)) ∧ w'.cell? ⟨ρ i, j, none⟩ = some (.bool false) ∧ w'.cell? ⟨gb, k, none⟩ = some (slV (ρb k) (n + 1) (γb k)) ∧ w'.cell? ⟨ρb k, j, none⟩ = some (.bool fbv)) wr.drew := ⟨c0, c1, b0, b1⟩
                refine wp_region_T 22 (fun w' : World => w'.cell? ⟨g, i, none⟩ = some (slV (ρ i) (n + 1) (γ i)) ∧ w'.cell? ⟨ρ i, j, none⟩ = some (.bool false) ∧ w'.cell? ⟨gb, k, none⟩ = some (slV (ρb k) (n + 1) (γb k)) ∧ w'.cell? ⟨ρb k, j, none⟩ = some (.bool fbv)) (by kernel_rfl) ?_
                refine anyT_take (i := 0) (v := ?vf0) rfl (by kernel_rfl) (by kernel_rfl) (by kernel_rfl) (by kernel_rfl) (by decide) (fun _ _ _ h => h) (Or.inl ⟨by rfl, ?yf0⟩) hSd ?_
                case yf0 => (intro wz hSw; obtain ⟨hz0, hz1, hz2, hz3⟩ := hSw; go_simp; (try with_reducible rfl))
                try simp only [Act.put, List.getElem_toArray, List.getElem_cons_zero, List.getElem_cons_succ, List.setIfInBounds_toArray, List.set_cons_zero, List.set_cons_succ]
                refine anyT_take (i := 1) (v := ?vf1) rfl (by kernel_rfl) (by kernel_rfl) (by kernel_rfl) (by kernel_rfl) (by decide) (fun _ _ _ h => h) (Or.inl ⟨by rfl, ?yf1⟩) hSd ?_
                case yf1 => (intro wz hSw; obtain ⟨hz0, hz1, hz2, hz3⟩ := hSw; go_simp; (try with_reducible rfl))
                try simp only [Act.put, List.getElem_toArray, List.getElem_cons_zero, List.getElem_cons_succ, List.setIfInBounds_toArray, List.set_cons_zero, List.set_cons_succ]
                refine anyT_take (i := 2) (v := ?vf2) rfl (by kernel_rfl) (by kernel_rfl) (by kernel_rfl) (by kernel_rfl) (by decide) (fun _ _ _ h => h) (Or.inl ⟨by rfl, ?yf2⟩) hSd ?_
                case yf2 => (intro wz hSw; obtain ⟨hz0, hz1, hz2, hz3⟩ := hSw; go_simp; (try with_reducible rfl))
                try simp only [Act.put, List.getElem_toArray, List.getElem_cons_zero, List.getElem_cons_succ, List.setIfInBounds_toArray, List.set_cons_zero, List.set_cons_succ]
                refine anyT_take (i := 3) (v := ?vf3) rfl (by kernel_rfl) (by kernel_rfl) (by kernel_rfl) (by kernel_rfl) (by decide) (fun _ _ _ h => h) (Or.inl ⟨by rfl, ?yf3⟩) hSd ?_
                case yf3 => (intro wz hSw; obtain ⟨hz0, hz1, hz2, hz3⟩ := hSw; go_simp; (try with_reducible rfl))
                try simp only [Act.put, List.getElem_toArray, List.getElem_cons_zero, List.getElem_cons_succ, List.setIfInBounds_toArray, List.set_cons_zero, List.set_cons_succ]
                refine anyT_take (i := 4) (v := ?vf4) rfl (by kernel_rfl) (by kernel_rfl) (by kernel_rfl) (by kernel_rfl) (by decide) (fun _ _ _ h => h) (Or.inl ⟨by rfl, ?yf4⟩) hSd ?_
                case yf4 => (intro wz hSw; obtain ⟨hz0, hz1, hz2, hz3⟩ := hSw; go_simp; (try with_reducible rfl))
                try simp only [Act.put, List.getElem_toArray, List.getElem_cons_zero, List.getElem_cons_succ, List.setIfInBounds_toArray, List.set_cons_zero, List.set_cons_succ]
                refine anyT_take (i := 5) (v := ?vf5) rfl (by kernel_rfl) (by kernel_rfl) (by kernel_rfl) (by kernel_rfl) (by decide) (fun _ _ _ h => h) (Or.inl ⟨by rfl, ?yf5⟩) hSd ?_
                case yf5 => (intro wz hSw; obtain ⟨hz0, hz1, hz2, hz3⟩ := hSw; go_simp; (try with_reducible rfl))
                try simp only [Act.put, List.getElem_toArray, List.getElem_cons_zero, List.getElem_cons_succ, List.setIfInBounds_toArray, List.set_cons_zero, List.set_cons_succ]
                refine anyT_take (i := 6) (v := ?vf6) rfl (by kernel_rfl) (by kernel_rfl) (by kernel_rfl) (by kernel_rfl) (by decide) (fun _ _ _ h => h) (Or.inl ⟨by rfl, ?yf6⟩) hSd ?_
                case yf6 => (intro wz hSw; obtain ⟨hz0, hz1, hz2, hz3⟩ := hSw; go_simp; (try with_reducible rfl))
                try simp only [Act.put, List.getElem_toArray, List.getElem_cons_zero, List.getElem_cons_succ, List.setIfInBounds_toArray, List.set_cons_zero, List.set_cons_succ]
                refine anyT_take (i := 7) (v := ?vf7) rfl (by kernel_rfl) (by kernel_rfl) (by kernel_rfl) (by kernel_rfl) (by decide) (fun _ _ _ h => h) (Or.inl ⟨by rfl, ?yf7⟩) hSd ?_
                case yf7 => (intro wz hSw; obtain ⟨hz0, hz1, hz2, hz3⟩ := hSw; go_simp; (try with_reducible rfl))
                try simp only [Act.put, List.getElem_toArray, List.getElem_cons_zero, List.getElem_cons_succ, List.setIfInBounds_toArray, List.set_cons_zero, List.set_cons_succ]
                refine anyT_take (i := 8) (v := ?vf8) rfl (by kernel_rfl) (by kernel_rfl) (by kernel_rfl) (by kernel_rfl) (by decide) (fun _ _ _ h => h) (Or.inl ⟨by rfl, ?yf8⟩) hSd ?_
                case yf8 => (intro wz hSw; obtain ⟨hz0, hz1, hz2, hz3⟩ := hSw; go_simp; (try with_reducible rfl))
                try simp only [Act.put, List.getElem_toArray, List.getElem_cons_zero, List.getElem_cons_succ, List.setIfInBounds_toArray, List.set_cons_zero, List.set_cons_succ]
                refine anyT_take (i := 9) (v := ?vf9) rfl (by kernel_rfl) (by kernel_rfl) (by kernel_rfl) (by kernel_rfl) (by decide) (fun _ _ _ h => h) (Or.inl ⟨by rfl, ?yf9⟩) hSd ?_
                case yf9 => (intro wz hSw; obtain ⟨hz0, hz1, hz2, hz3⟩ := hSw; go_simp; (try with_reducible rfl))
                try simp only [Act.put, List.getElem_toArray, List.getElem_cons_zero, List.getElem_cons_succ, List.setIfInBounds_toArray, List.set_cons_zero, List.set_cons_succ]
                refine anyT_take (i := 10) (v := ?vf10) rfl (by kernel_rfl) (by kernel_rfl) (by kernel_rfl) (by kernel_rfl) (by decide) (fun _ _ _ h => h) (Or.inl ⟨by rfl, ?yf10⟩) hSd ?_
                case yf10 => (intro wz hSw; obtain ⟨hz0, hz1, hz2, hz3⟩ := hSw; go_simp; (try with_reducible rfl))
                try simp only [Act.put, List.getElem_toArray, List.getElem_cons_zero, List.getElem_cons_succ, List.setIfInBounds_toArray, List.set_cons_zero, List.set_cons_succ]
                refine anyT_take (i := 11) (v := ?vf11) rfl (by kernel_rfl) (by kernel_rfl) (by kernel_rfl) (by kernel_rfl) (by decide) (fun _ _ _ h => h) (Or.inl ⟨by rfl, ?yf11⟩) hSd ?_
                case yf11 => (intro wz hSw; obtain ⟨hz0, hz1, hz2, hz3⟩ := hSw; go_simp; (try with_reducible rfl))
                try simp only [Act.put, List.getElem_toArray, List.getElem_cons_zero, List.getElem_cons_succ, List.setIfInBounds_toArray, List.set_cons_zero, List.set_cons_succ]
                refine anyT_take (i := 12) (v := ?vf12) rfl (by kernel_rfl) (by kernel_rfl) (by kernel_rfl) (by kernel_rfl) (by decide) (fun _ _ _ h => h) (Or.inl ⟨by rfl, ?yf12⟩) hSd ?_
                case yf12 => (intro wz hSw; obtain ⟨hz0, hz1, hz2, hz3⟩ := hSw; go_simp; (try with_reducible rfl))
                try simp only [Act.put, List.getElem_toArray, List.getElem_cons_zero, List.getElem_cons_succ, List.setIfInBounds_toArray, List.set_cons_zero, List.set_cons_succ]
                refine anyT_take (i := 13) (v := ?vf13) rfl (by kernel_rfl) (by kernel_rfl) (by kernel_rfl) (by kernel_rfl) (by decide) (fun _ _ _ h => h) (Or.inl ⟨by rfl, ?yf13⟩) hSd ?_
                case yf13 => (intro wz hSw; obtain ⟨hz0, hz1, hz2, hz3⟩ := hSw; go_simp; (try with_reducible rfl))
                try simp only [Act.put, List.getElem_toArray, List.getElem_cons_zero, List.getElem_cons_succ, List.setIfInBounds_toArray, List.set_cons_zero, List.set_cons_succ]
                refine anyT_take (i := 14) (v := ?vf14) rfl (by kernel_rfl) (by kernel_rfl) (by kernel_rfl) (by kernel_rfl) (by decide) (fun _ _ _ h => h) (Or.inl ⟨by rfl, ?yf14⟩) hSd ?_
                case yf14 => (intro wz hSw; obtain ⟨hz0, hz1, hz2, hz3⟩ := hSw; go_simp; (try with_reducible rfl))
                try simp only [Act.put, List.getElem_toArray, List.getElem_cons_zero, List.getElem_cons_succ, List.setIfInBounds_toArray, List.set_cons_zero, List.set_cons_succ]
                refine anyT_take (i := 15) (v := ?vf15) rfl (by kernel_rfl) (by kernel_rfl) (by kernel_rfl) (by kernel_rfl) (by decide) (fun _ _ _ h => h) (Or.inl ⟨by rfl, ?yf15⟩) hSd ?_
                case yf15 => (intro wz hSw; obtain ⟨hz0, hz1, hz2, hz3⟩ := hSw; go_simp; (try with_reducible rfl))
                try simp only [Act.put, List.getElem_toArray, List.getElem_cons_zero, List.getElem_cons_succ, List.setIfInBounds_toArray, List.set_cons_zero, List.set_cons_succ]
                refine anyT_take (i := 16) (v := ?vf16) rfl (by kernel_rfl) (by kernel_rfl) (by kernel_rfl) (by kernel_rfl) (by decide) (fun _ _ _ h => h) (Or.inl ⟨by rfl, ?yf16⟩) hSd ?_
                case yf16 => (intro wz hSw; obtain ⟨hz0, hz1, hz2, hz3⟩ := hSw; go_simp; (try with_reducible rfl))
                try simp only [Act.put, List.getElem_toArray, List.getElem_cons_zero, List.getElem_cons_succ, List.setIfInBounds_toArray, List.set_cons_zero, List.set_cons_succ]
                refine anyT_take (i := 17) (v := ?vf17) rfl (by kernel_rfl) (by kernel_rfl) (by kernel_rfl) (by kernel_rfl) (by decide) (fun _ _ _ h => h) (Or.inl ⟨by rfl, ?yf17⟩) hSd ?_
                case yf17 => (intro wz hSw; obtain ⟨hz0, hz1, hz2, hz3⟩ := hSw; go_simp; (try with_reducible rfl))
                try simp only [Act.put, List.getElem_toArray, List.getElem_cons_zero, List.getElem_cons_succ, List.setIfInBounds_toArray, List.set_cons_zero, List.set_cons_succ]
                refine anyT_take (i := 18) (v := ?vf18) rfl (by kernel_rfl) (by kernel_rfl) (by kernel_rfl) (by kernel_rfl) (by decide) (fun _ _ _ h => h) (Or.inl ⟨by rfl, ?yf18⟩) hSd ?_
                case yf18 => (intro wz hSw; obtain ⟨hz0, hz1, hz2, hz3⟩ := hSw; go_simp; (try with_reducible rfl))
                try simp only [Act.put, List.getElem_toArray, List.getElem_cons_zero, List.getElem_cons_succ, List.setIfInBounds_toArray, List.set_cons_zero, List.set_cons_succ]
                refine anyT_take (i := 19) (v := ?vf19) rfl (by kernel_rfl) (by kernel_rfl) (by kernel_rfl) (by kernel_rfl) (by decide) (fun _ _ _ h => h) (Or.inl ⟨by rfl, ?yf19⟩) hSd ?_
                case yf19 => (intro wz hSw; obtain ⟨hz0, hz1, hz2, hz3⟩ := hSw; go_simp; (try with_reducible rfl))
                try simp only [Act.put, List.getElem_toArray, List.getElem_cons_zero, List.getElem_cons_succ, List.setIfInBounds_toArray, List.set_cons_zero, List.set_cons_succ]
                refine anyT_take (i := 20) (v := ?vf20) rfl (by kernel_rfl) (by kernel_rfl) (by kernel_rfl) (by kernel_rfl) (by decide) (fun _ _ _ h => h) (Or.inl ⟨by rfl, ?yf20⟩) hSd ?_
                case yf20 => (intro wz hSw; obtain ⟨hz0, hz1, hz2, hz3⟩ := hSw; go_simp; (try with_reducible rfl))
                try simp only [Act.put, List.getElem_toArray, List.getElem_cons_zero, List.getElem_cons_succ, List.setIfInBounds_toArray, List.set_cons_zero, List.set_cons_succ]
                refine anyT_one (i := 21) (by kernel_rfl) rfl (fun K hK => ?_)
                go_simp
                refine hK.out _ _ (.inr hSd) ?_
                clear hK
                try simp only [Act.put, List.getElem_toArray, List.getElem_cons_zero, List.getElem_cons_succ, List.setIfInBounds_toArray, List.set_cons_zero, List.set_cons_succ]
                refine anyT_one (i := 22) (by kernel_rfl) rfl (fun K hK => ?_)
                go_simp
                refine hK.out _ _ (.inl rfl) ?_
                clear hK
                try simp only [Act.put, List.getElem_toArray, List.getElem_cons_zero, List.getElem_cons_succ, List.setIfInBounds_toArray, List.set_cons_zero, List.set_cons_succ]
                refine anyT_done (by kernel_rfl) ?_
                have HJ3 := HJ2.out fbv (by rw [HV.out.1, HV.out.2]; rfl)
                go_wp2_with fail
                go_roundw
                case rel => exact ⟨j + 1, by omega, by omega, by go_num, upd2 f i j fbv, HJ3⟩
                case measure => simp [intOf]; omega
              case true =>
                have hSd : (fun w' : World => w'.cell? ⟨g, i, none⟩ = some (slV (ρ i) (n + 1) (γ i)) ∧ w'.cell? ⟨ρ i, j, none⟩ = some (.bool true) ∧ w'.cell? ⟨gb, k, none⟩ = some (slV (ρb k) (n + 1) (γb k)) ∧ w'.cell? ⟨ρb k, j, none⟩ = some (.bool fbv)) wr.drew := ⟨c0, c1, b0, b1⟩
                refine wp_region_T 22 (fun w' : World => w'.cell? ⟨g, i, none⟩ = some (slV (ρ i) (n + 1) (γ i)) ∧ w'.cell? ⟨ρ i, j, none⟩ = some (.bool true) ∧ w'.cell? ⟨gb, k, none⟩ = some (slV (ρb k) (n + 1) (γb k)) ∧ w'.cell? ⟨ρb k, j, none⟩ = some (.bool fbv)) (by kernel_rfl) ?_
                refine anyT_take (i := 0) (v := ?vt0) rfl (by kernel_rfl) (by kernel_rfl) (by kernel_rfl) (by kernel_rfl) (by decide) (fun _ _ _ h => h) (Or.inl ⟨by rfl, ?yt0⟩) hSd ?_
                case yt0 => (intro wz hSw; obtain ⟨hz0, hz1, hz2, hz3⟩ := hSw; go_simp; (try with_reducible rfl))
                try simp only [Act.put, List.getElem_toArray, List.getElem_cons_zero, List.getElem_cons_succ, List.setIfInBounds_toArray, List.set_cons_zero, List.set_cons_succ]
                refine anyT_take (i := 1) (v := ?vt1) rfl (by kernel_rfl) (by kernel_rfl) (by kernel_rfl) (by kernel_rfl) (by decide) (fun _ _ _ h => h) (Or.inl ⟨by rfl, ?yt1⟩) hSd ?_
                case yt1 => (intro wz hSw; obtain ⟨hz0, hz1, hz2, hz3⟩ := hSw; go_simp; (try with_reducible rfl))
                try simp only [Act.put, List.getElem_toArray, List.getElem_cons_zero, List.getElem_cons_succ, List.setIfInBounds_toArray, List.set_cons_zero, List.set_cons_succ]
                refine anyT_take (i := 2) (v := ?vt2) rfl (by kernel_rfl) (by kernel_rfl) (by kernel_rfl) (by kernel_rfl) (by decide) (fun _ _ _ h => h) (Or.inl ⟨by rfl, ?yt2⟩) hSd ?_
                case yt2 => (intro wz hSw; obtain ⟨hz0, hz1, hz2, hz3⟩ := hSw; go_simp; (try with_reducible rfl))
                try simp only [Act.put, List.getElem_toArray, List.getElem_cons_zero, List.getElem_cons_succ, List.setIfInBounds_toArray, List.set_cons_zero, List.set_cons_succ]
                refine anyT_take (i := 3) (v := ?vt3) rfl (by kernel_rfl) (by kernel_rfl) (by kernel_rfl) (by kernel_rfl) (by decide) (fun _ _ _ h => h) (Or.inl ⟨by rfl, ?yt3⟩) hSd ?_
                case yt3 => (intro wz hSw; obtain ⟨hz0, hz1, hz2, hz3⟩ := hSw; go_simp; (try with_reducible rfl))
                try simp only [Act.put, List.getElem_toArray, List.getElem_cons_zero, List.getElem_cons_succ, List.setIfInBounds_toArray, List.set_cons_zero, List.set_cons_succ]
                refine anyT_take (i := 4) (v := ?vt4) rfl (by kernel_rfl) (by kernel_rfl) (by kernel_rfl) (by kernel_rfl) (by decide) (fun _ _ _ h => h) (Or.inl ⟨by rfl, ?yt4⟩) hSd ?_
                case yt4 => (intro wz hSw; obtain ⟨hz0, hz1, hz2, hz3⟩ := hSw; go_simp; (try with_reducible rfl))
                try simp only [Act.put, List.getElem_toArray, List.getElem_cons_zero, List.getElem_cons_succ, List.setIfInBounds_toArray, List.set_cons_zero, List.set_cons_succ]
                refine anyT_take (i := 5) (v := ?vt5) rfl (by kernel_rfl) (by kernel_rfl) (by kernel_rfl) (by kernel_rfl) (by decide) (fun _ _ _ h => h) (Or.inl ⟨by rfl, ?yt5⟩) hSd ?_
                case yt5 => (intro wz hSw; obtain ⟨hz0, hz1, hz2, hz3⟩ := hSw; go_simp; (try with_reducible rfl))
                try simp only [Act.put, List.getElem_toArray, List.getElem_cons_zero, List.getElem_cons_succ, List.setIfInBounds_toArray, List.set_cons_zero, List.set_cons_succ]
                refine anyT_take (i := 6) (v := ?vt6) rfl (by kernel_rfl) (by kernel_rfl) (by kernel_rfl) (by kernel_rfl) (by decide) (fun _ _ _ h => h) (Or.inl ⟨by rfl, ?yt6⟩) hSd ?_
                case yt6 => (intro wz hSw; obtain ⟨hz0, hz1, hz2, hz3⟩ := hSw; go_simp; (try with_reducible rfl))
                try simp only [Act.put, List.getElem_toArray, List.getElem_cons_zero, List.getElem_cons_succ, List.setIfInBounds_toArray, List.set_cons_zero, List.set_cons_succ]
                refine anyT_take (i := 7) (v := ?vt7) rfl (by kernel_rfl) (by kernel_rfl) (by kernel_rfl) (by kernel_rfl) (by decide) (fun _ _ _ h => h) (Or.inl ⟨by rfl, ?yt7⟩) hSd ?_
                case yt7 => (intro wz hSw; obtain ⟨hz0, hz1, hz2, hz3⟩ := hSw; go_simp; (try with_reducible rfl))
                try simp only [Act.put, List.getElem_toArray, List.getElem_cons_zero, List.getElem_cons_succ, List.setIfInBounds_toArray, List.set_cons_zero, List.set_cons_succ]
                refine anyT_take (i := 8) (v := ?vt8) rfl (by kernel_rfl) (by kernel_rfl) (by kernel_rfl) (by kernel_rfl) (by decide) (fun _ _ _ h => h) (Or.inl ⟨by rfl, ?yt8⟩) hSd ?_
                case yt8 => (intro wz hSw; obtain ⟨hz0, hz1, hz2, hz3⟩ := hSw; go_simp; (try with_reducible rfl))
                try simp only [Act.put, List.getElem_toArray, List.getElem_cons_zero, List.getElem_cons_succ, List.setIfInBounds_toArray, List.set_cons_zero, List.set_cons_succ]
                refine anyT_take (i := 9) (v := ?vt9) rfl (by kernel_rfl) (by kernel_rfl) (by kernel_rfl) (by kernel_rfl) (by decide) (fun _ _ _ h => h) (Or.inl ⟨by rfl, ?yt9⟩) hSd ?_
                case yt9 => (intro wz hSw; obtain ⟨hz0, hz1, hz2, hz3⟩ := hSw; go_simp; (try with_reducible rfl))
                try simp only [Act.put, List.getElem_toArray, List.getElem_cons_zero, List.getElem_cons_succ, List.setIfInBounds_toArray, List.set_cons_zero, List.set_cons_succ]
                refine anyT_take (i := 10) (v := ?vt10) rfl (by kernel_rfl) (by kernel_rfl) (by kernel_rfl) (by kernel_rfl) (by decide) (fun _ _ _ h => h) (Or.inl ⟨by rfl, ?yt10⟩) hSd ?_
                case yt10 => (intro wz hSw; obtain ⟨hz0, hz1, hz2, hz3⟩ := hSw; go_simp; (try with_reducible rfl))
                try simp only [Act.put, List.getElem_toArray, List.getElem_cons_zero, List.getElem_cons_succ, List.setIfInBounds_toArray, List.set_cons_zero, List.set_cons_succ]
                refine anyT_take (i := 11) (v := ?vt11) rfl (by kernel_rfl) (by kernel_rfl) (by kernel_rfl) (by kernel_rfl) (by decide) (fun _ _ _ h => h) (Or.inl ⟨by rfl, ?yt11⟩) hSd ?_
                case yt11 => (intro wz hSw; obtain ⟨hz0, hz1, hz2, hz3⟩ := hSw; go_simp; (try with_reducible rfl))
                try simp only [Act.put, List.getElem_toArray, List.getElem_cons_zero, List.getElem_cons_succ, List.setIfInBounds_toArray, List.set_cons_zero, List.set_cons_succ]
                refine anyT_take (i := 12) (v := ?vt12) rfl (by kernel_rfl) (by kernel_rfl) (by kernel_rfl) (by kernel_rfl) (by decide) (fun _ _ _ h => h) (Or.inl ⟨by rfl, ?yt12⟩) hSd ?_
                case yt12 => (intro wz hSw; obtain ⟨hz0, hz1, hz2, hz3⟩ := hSw; go_simp; (try with_reducible rfl))
                try simp only [Act.put, List.getElem_toArray, List.getElem_cons_zero, List.getElem_cons_succ, List.setIfInBounds_toArray, List.set_cons_zero, List.set_cons_succ]
                refine anyT_take (i := 13) (v := undef) rfl (by kernel_rfl) (by kernel_rfl) (by kernel_rfl) (by kernel_rfl) (by decide) (fun _ _ _ h => h) (Or.inr ⟨by rfl, rfl⟩) hSd ?_
                try simp only [Act.put, List.getElem_toArray, List.getElem_cons_zero, List.getElem_cons_succ, List.setIfInBounds_toArray, List.set_cons_zero, List.set_cons_succ]
                refine anyT_take (i := 14) (v := undef) rfl (by kernel_rfl) (by kernel_rfl) (by kernel_rfl) (by kernel_rfl) (by decide) (fun _ _ _ h => h) (Or.inr ⟨by rfl, rfl⟩) hSd ?_
                try simp only [Act.put, List.getElem_toArray, List.getElem_cons_zero, List.getElem_cons_succ, List.setIfInBounds_toArray, List.set_cons_zero, List.set_cons_succ]
                refine anyT_take (i := 15) (v := undef) rfl (by kernel_rfl) (by kernel_rfl) (by kernel_rfl) (by kernel_rfl) (by decide) (fun _ _ _ h => h) (Or.inr ⟨by rfl, rfl⟩) hSd ?_
                try simp only [Act.put, List.getElem_toArray, List.getElem_cons_zero, List.getElem_cons_succ, List.setIfInBounds_toArray, List.set_cons_zero, List.set_cons_succ]
                refine anyT_take (i := 16) (v := undef) rfl (by kernel_rfl) (by kernel_rfl) (by kernel_rfl) (by kernel_rfl) (by decide) (fun _ _ _ h => h) (Or.inr ⟨by rfl, rfl⟩) hSd ?_
                try simp only [Act.put, List.getElem_toArray, List.getElem_cons_zero, List.getElem_cons_succ, List.setIfInBounds_toArray, List.set_cons_zero, List.set_cons_succ]
                refine anyT_take (i := 17) (v := undef) rfl (by kernel_rfl) (by kernel_rfl) (by kernel_rfl) (by kernel_rfl) (by decide) (fun _ _ _ h => h) (Or.inr ⟨by rfl, rfl⟩) hSd ?_
                try simp only [Act.put, List.getElem_toArray, List.getElem_cons_zero, List.getElem_cons_succ, List.setIfInBounds_toArray, List.set_cons_zero, List.set_cons_succ]
                refine anyT_take (i := 18) (v := undef) rfl (by kernel_rfl) (by kernel_rfl) (by kernel_rfl) (by kernel_rfl) (by decide) (fun _ _ _ h => h) (Or.inr ⟨by rfl, rfl⟩) hSd ?_
                try simp only [Act.put, List.getElem_toArray, List.getElem_cons_zero, List.getElem_cons_succ, List.setIfInBounds_toArray, List.set_cons_zero, List.set_cons_succ]
                refine anyT_take (i := 19) (v := undef) rfl (by kernel_rfl) (by kernel_rfl) (by kernel_rfl) (by kernel_rfl) (by decide) (fun _ _ _ h => h) (Or.inr ⟨by rfl, rfl⟩) hSd ?_
                try simp only [Act.put, List.getElem_toArray, List.getElem_cons_zero, List.getElem_cons_succ, List.setIfInBounds_toArray, List.set_cons_zero, List.set_cons_succ]
                refine anyT_take (i := 20) (v := ?vt20) rfl (by kernel_rfl) (by kernel_rfl) (by kernel_rfl) (by kernel_rfl) (by decide) (fun _ _ _ h => h) (Or.inl ⟨by rfl, ?yt20⟩) hSd ?_
                case yt20 => (intro wz hSw; obtain ⟨hz0, hz1, hz2, hz3⟩ := hSw; go_simp; (try with_reducible rfl))
                try simp only [Act.put, List.getElem_toArray, List.getElem_cons_zero, List.getElem_cons_succ, List.setIfInBounds_toArray, List.set_cons_zero, List.set_cons_succ]
                refine anyT_one (i := 21) (by kernel_rfl) rfl (fun K hK => ?_)
                go_simp
                refine hK.out _ _ (.inr hSd) ?_
                clear hK
                try simp only [Act.put, List.getElem_toArray, List.getElem_cons_zero, List.getElem_cons_succ, List.setIfInBounds_toArray, List.set_cons_zero, List.set_cons_succ]
                refine anyT_one (i := 22) (by kernel_rfl) rfl (fun K hK => ?_)
                go_simp
                refine hK.out _ _ (.inl rfl) ?_
                clear hK
                try simp only [Act.put, List.getElem_toArray, List.getElem_cons_zero, List.getElem_cons_succ, List.setIfInBounds_toArray, List.set_cons_zero, List.set_cons_succ]
                refine anyT_done (by kernel_rfl) ?_
                have HJ3 := HJ2.out true (by rw [HV.out.1, HV.out.2]; rfl)
                go_wp2_with fail
                go_roundw
                case rel => exact ⟨j + 1, by omega, by omega, by go_num, upd2 f i j true, HJ3⟩
                case measure => simp [intOf]; omega
            · obtain rfl : j = n + 1 := by omega
              have zj : ¬ ((n + 1 : Nat) : Int) < ((n + 1 : Nat) : Int) := by omega
              have HJ2 : Hid (MatO wr w.heap.size g cp (n + 1) (n + 1) ρ γ f ∧ (∀ x y, x ≤ y → y < n + 1 → f x y = stF fa fb (n + 1) i (k + 1) 0 x y) ∧ Below w.heap.size w wr) := by
                refine ⟨HJ.out.1, fun x y hxy hy => ?_, HJ.out.2.2⟩
                rw [HJ.out.2.1 x y hxy hy]
                unfold stF
                split
                · rfl
                · split
                  · first | rw [if_pos hy, if_neg (by omega)] | rw [if_neg (by omega)]
                  · rfl
              go_wp2_with fail
              go_roundw
              case rel => first | exact ⟨k + 1, by omega, by omega, by go_num, f, HJ2.out⟩ | exact ⟨k + 1, by omega, by omega, by omega, by go_num, f, HJ2.out⟩ | exact ⟨k + 1, f, by omega, by omega, by go_num, HJ2.out⟩
              case measure => simp [intOf]; omega
        · obtain rfl : k = n + 1 := by omega
          have zk : ¬ ((n + 1 : Nat) : Int) < ((n + 1 : Nat) : Int) := by omega
          have HJ2 : Hid (MatO Ws w.heap.size g cp (n + 1) (n + 1) ρ γ f1 ∧ (∀ x y, x ≤ y → y < n + 1 → f1 x y = stF fa fb (n + 1) (i + 1) 0 0 x y) ∧ Below w.heap.size w Ws) := by
            refine ⟨HJ1.out.1, fun x y hxy hy => ?_, HJ1.out.2.2⟩
            rw [HJ1.out.2.1 x y hxy hy]
            unfold stF
            by_cases h1 : x < i
            · rw [if_pos h1, if_pos (by omega)]
            · by_cases h2 : x = i
              · rw [if_neg h1, if_pos h2, if_neg (by omega), if_pos (by omega), h2]
              · rw [if_neg h1, if_neg h2, if_neg (by omega)]
                split
                · rw [if_neg (by omega), thF_zero 0 (by omega)]
                · rfl
          go_wp2_with fail
          go_roundw
          case rel => first | exact ⟨i + 1, f1, by omega, by go_num, HJ2.out⟩ | exact ⟨i + 1, by omega, by go_num, f1, HJ2.out⟩
          case measure => simp [intOf]; omega
    · obtain rfl : i = n + 1 := by omega
      have zi : ¬ ((n + 1 : Nat) : Int) < ((n + 1 : Nat) : Int) := by omega
      go_wp2_with fail
      go_ret
      refine ⟨g, cp, ρ, γ, f0, rfl, ⟨HJ0.out.1, fun x y hxy hy => ?_⟩, HJ0.out.2.2⟩
      rw [HJ0.out.2.1 x y hxy hy]
      unfold stF
      rw [if_pos (by omega)]
end Go.Proofs.YtkidabedcgngcaaGreatDoor
