import Derived.Maps.OwnSet
import Derived.Maps.OwnOps
import Derived.DeepKeys4
import Derived.OrdersIn
import Derived.RangeFuncCalls
import Derived.Test.YtkidabedcgngcaaGreatDoorPkAK
import Derived.Test.YtkidabedcgngcaaGreatDoorPkAC
import Derived.Test.YtkidabedcgngcaaGreatDoorPkAA
/-
  Sets of positions: with.
-/
namespace Go.Proofs.YtkidabedcgngcaaGreatDoor
open Go.ChangeShapes Go.WideShapes Go.ChangeAt Go.RowKit Go.Deep
set_option linter.unusedVariables false
set_option linter.unusedSimpArgs false
set_option maxRecDepth 100000

theorem shl_u64 (n : Nat) (h : n < 64) : IntKind.u64.wrap (2 ^ n) = ((2 ^ n : Nat) : Int) := by
  have hp : 2 ^ n < 18446744073709551616 := Nat.pow_lt_pow_right (a := 2) (by decide) h
  rw [IntKind.wrap_u64]
  have e : ((2 : Int) ^ n) = ((2 ^ n : Nat) : Int) := by simp
  rw [e]; exact Int.emod_eq_of_lt (Int.natCast_nonneg _) (Int.ofNat_lt.2 hp)
set_option maxHeartbeats 4000000 in
theorem with_0 (S : PS) (a : Nat) (ha : a / 64 = 0) (w : World) : Calls Tryz.prog 137 #[psV S, .int .i64 (a : Int)] w fun e w' => e = .returned (psV (sOr S (sOne a))) ∧ Below w.heap.size w w' := by
  have za : a < 256 := by omega
  have zq : (a : Int).tdiv 64 = 0 := by rw [Int.tdiv_eq_ediv_of_nonneg (by omega)]; omega
  have zr : (a : Int).tmod 64 = ((a % 64 : Nat) : Int) := by rw [Int.tmod_eq_emod_of_nonneg (by omega)]; omega
  obtain ⟨n, hn⟩ : ∃ n, n = a % 64 := ⟨_, rfl⟩
  rw [← hn] at zr
  have zn : n < 64 := by omega
  have zs := shl_u64 n zn
  have zn0 : ¬ (n : Int) < 0 := by omega
  have zwi : IntKind.i64.wrap (0 : Int) = 0 := by rfl
  have zwn : IntKind.i64.wrap (n : Int) = n := by simp [IntKind.wrap, IntKind.bits, IntKind.signed]; omega
  have wo := wd_with S a 0 ha.symm
  rw [← hn, show ((2 ^ n : Nat) : Int) = (2 : Int) ^ n by simp] at wo
  have w1 := wd_other S a 1 (by omega)
  have w2 := wd_other S a 2 (by omega)
  have w3 := wd_other S a 3 (by omega)
  have HW : Hid (bits .or .u64 (wdN S 0 : Int) ((2 : Int) ^ n) = ((wdN (sOr S (sOne a)) 0 : Nat) : Int) ∧ (∀ j, ¬ j = 0 → wdN (sOr S (sOne a)) j = wdN S j)) := ⟨wo, fun j hj => wd_other S a j (by omega)⟩
  clear hn ha wo w1 w2 w3
  go_enter Tryz.func137, Tryz.ntmps137
  go_upto_region 1 with fail
  refine wp_region_T 9 (fun wz => wz.cell? ⟨w.heap.size, 0, none⟩ = some (.int .u64 (wdN S 0 : Int))) (by kernel_rfl) ?_
  refine anyT_take (i := 0) (v := ?va0) rfl (by kernel_rfl) (by kernel_rfl) (by kernel_rfl) (by kernel_rfl) (by decide) (fun _ _ _ h => h) (Or.inl ⟨by rfl, ?ya0⟩) (by simp) ?_
  case ya0 => (intro wz hSw; go_simp; (try simp only [zq, zr, zs, zwi, zwn, HW.out.1]); (try with_reducible rfl))
  try simp only [Act.put, List.getElem_toArray, List.getElem_cons_zero, List.getElem_cons_succ, List.setIfInBounds_toArray, List.set_cons_zero, List.set_cons_succ]
  refine anyT_take (i := 1) (v := .int .i64 0) rfl (by kernel_rfl) (by kernel_rfl) (by kernel_rfl) (by kernel_rfl) (by decide) (fun _ _ _ h => h) (Or.inl ⟨by rfl, ?ya1⟩) (by simp) ?_
  case ya1 => (intro wz hSw; go_simp; (try simp only [zq, zr, zs, zwi, zwn, HW.out.1]); (try with_reducible rfl))
  try simp only [Act.put, List.getElem_toArray, List.getElem_cons_zero, List.getElem_cons_succ, List.setIfInBounds_toArray, List.set_cons_zero, List.set_cons_succ]
  refine anyT_take (i := 2) (v := ?va2) rfl (by kernel_rfl) (by kernel_rfl) (by kernel_rfl) (by kernel_rfl) (by decide) (fun _ _ _ h => h) (Or.inl ⟨by rfl, ?ya2⟩) (by simp) ?_
  case ya2 => (intro wz hSw; go_simp; (try simp only [zq, zr, zs, zwi, zwn, HW.out.1]); (try with_reducible rfl))
  try simp only [Act.put, List.getElem_toArray, List.getElem_cons_zero, List.getElem_cons_succ, List.setIfInBounds_toArray, List.set_cons_zero, List.set_cons_succ]
  refine anyT_take (i := 3) (v := ?va3) rfl (by kernel_rfl) (by kernel_rfl) (by kernel_rfl) (by kernel_rfl) (by decide) (fun _ _ _ h => h) (Or.inl ⟨by rfl, ?ya3⟩) (by simp) ?_
  case ya3 => (intro wz hSw; go_simp; (try simp only [zq, zr, zs, zwi, zwn, HW.out.1]); (try with_reducible rfl))
  try simp only [Act.put, List.getElem_toArray, List.getElem_cons_zero, List.getElem_cons_succ, List.setIfInBounds_toArray, List.set_cons_zero, List.set_cons_succ]
  refine anyT_take (i := 4) (v := ?va4) rfl (by kernel_rfl) (by kernel_rfl) (by kernel_rfl) (by kernel_rfl) (by decide) (fun _ _ _ h => h) (Or.inl ⟨by rfl, ?ya4⟩) (by simp) ?_
  case ya4 => (intro wz hSw; go_simp; (try simp only [zq, zr, zs, zwi, zwn, HW.out.1]); (try with_reducible rfl))
  try simp only [Act.put, List.getElem_toArray, List.getElem_cons_zero, List.getElem_cons_succ, List.setIfInBounds_toArray, List.set_cons_zero, List.set_cons_succ]
  refine anyT_take (i := 5) (v := .int .i64 (n : Int)) rfl (by kernel_rfl) (by kernel_rfl) (by kernel_rfl) (by kernel_rfl) (by decide) (fun _ _ _ h => h) (Or.inl ⟨by rfl, ?ya5⟩) (by simp) ?_
  case ya5 => (intro wz hSw; go_simp; (try simp only [zq, zr, zs, zwi, zwn, HW.out.1]); (try with_reducible rfl))
  try simp only [Act.put, List.getElem_toArray, List.getElem_cons_zero, List.getElem_cons_succ, List.setIfInBounds_toArray, List.set_cons_zero, List.set_cons_succ]
  refine anyT_take (i := 6) (v := ?va6) rfl (by kernel_rfl) (by kernel_rfl) (by kernel_rfl) (by kernel_rfl) (by decide) (fun _ _ _ h => h) (Or.inl ⟨by rfl, ?ya6⟩) (by simp) ?_
  case ya6 => (intro wz hSw; go_simp; (try simp only [zq, zr, zs, zwi, zwn, HW.out.1]); (try with_reducible rfl))
  try simp only [Act.put, List.getElem_toArray, List.getElem_cons_zero, List.getElem_cons_succ, List.setIfInBounds_toArray, List.set_cons_zero, List.set_cons_succ]
  refine anyT_take (i := 7) (v := ?va7) rfl (by kernel_rfl) (by kernel_rfl) (by kernel_rfl) (by kernel_rfl) (by decide) (fun _ _ _ h => h) (Or.inl ⟨by rfl, ?ya7⟩) (by simp) ?_
  case ya7 => (intro wz hSw; go_simp; (try simp only [zq, zr, zs, zwi, zwn, HW.out.1]); (try with_reducible rfl))
  try simp only [Act.put, List.getElem_toArray, List.getElem_cons_zero, List.getElem_cons_succ, List.setIfInBounds_toArray, List.set_cons_zero, List.set_cons_succ]
  refine anyT_take (i := 8) (v := ?va8) rfl (by kernel_rfl) (by kernel_rfl) (by kernel_rfl) (by kernel_rfl) (by decide) (fun _ _ _ h => h) (Or.inl ⟨by rfl, ?ya8⟩) (by simp) ?_
  case ya8 => (intro wz hSw; go_simp; (try with_reducible rfl))
  try simp only [Act.put, List.getElem_toArray, List.getElem_cons_zero, List.getElem_cons_succ, List.setIfInBounds_toArray, List.set_cons_zero, List.set_cons_succ]
  refine anyT_one (i := 9) (by kernel_rfl) rfl (fun K hK => ?_)
  go_simp
  refine hK.out _ _ (.inl rfl) ?_
  clear hK
  try simp only [Act.put, List.getElem_toArray, List.getElem_cons_zero, List.getElem_cons_succ, List.setIfInBounds_toArray, List.set_cons_zero, List.set_cons_succ]
  refine anyT_done (by kernel_rfl) ?_

  go_wp2_with fail
  refine bodyPost_ret (v := psV (sOr S (sOne a))) (by simp [results, Tryz.results137, go_sem, HW.out.2]) rfl ⟨rfl, ?_⟩
  repeat (first | exact Below.refl _ _ | refine Below.drew ?_ | refine Below.alloc ?_ (by simp; done) _ | refine Below.alloc ?_ (Nat.le_refl _) _ | refine Below.alloc ?_ (by simp; omega) _)
set_option maxHeartbeats 4000000 in
theorem with_1 (S : PS) (a : Nat) (ha : a / 64 = 1) (w : World) : Calls Tryz.prog 137 #[psV S, .int .i64 (a : Int)] w fun e w' => e = .returned (psV (sOr S (sOne a))) ∧ Below w.heap.size w w' := by
  have za : a < 256 := by omega
  have zq : (a : Int).tdiv 64 = 1 := by rw [Int.tdiv_eq_ediv_of_nonneg (by omega)]; omega
  have zr : (a : Int).tmod 64 = ((a % 64 : Nat) : Int) := by rw [Int.tmod_eq_emod_of_nonneg (by omega)]; omega
  obtain ⟨n, hn⟩ : ∃ n, n = a % 64 := ⟨_, rfl⟩
  rw [← hn] at zr
  have zn : n < 64 := by omega
  have zs := shl_u64 n zn
  have zn0 : ¬ (n : Int) < 0 := by omega
  have zwi : IntKind.i64.wrap (1 : Int) = 1 := by rfl
  have zwn : IntKind.i64.wrap (n : Int) = n := by simp [IntKind.wrap, IntKind.bits, IntKind.signed]; omega
  have wo := wd_with S a 1 ha.symm
  rw [← hn, show ((2 ^ n : Nat) : Int) = (2 : Int) ^ n by simp] at wo
  have w0 := wd_other S a 0 (by omega)
  have w2 := wd_other S a 2 (by omega)
  have w3 := wd_other S a 3 (by omega)
  have HW : Hid (bits .or .u64 (wdN S 1 : Int) ((2 : Int) ^ n) = ((wdN (sOr S (sOne a)) 1 : Nat) : Int) ∧ (∀ j, ¬ j = 1 → wdN (sOr S (sOne a)) j = wdN S j)) := ⟨wo, fun j hj => wd_other S a j (by omega)⟩
  clear hn ha wo w0 w2 w3
  go_enter Tryz.func137, Tryz.ntmps137
  go_upto_region 1 with fail
  refine wp_region_T 9 (fun wz => wz.cell? ⟨w.heap.size, 1, none⟩ = some (.int .u64 (wdN S 1 : Int))) (by kernel_rfl) ?_
  refine anyT_take (i := 0) (v := ?va0) rfl (by kernel_rfl) (by kernel_rfl) (by kernel_rfl) (by kernel_rfl) (by decide) (fun _ _ _ h => h) (Or.inl ⟨by rfl, ?ya0⟩) (by simp) ?_
  case ya0 => (intro wz hSw; go_simp; (try simp only [zq, zr, zs, zwi, zwn, HW.out.1]); (try with_reducible rfl))
  try simp only [Act.put, List.getElem_toArray, List.getElem_cons_zero, List.getElem_cons_succ, List.setIfInBounds_toArray, List.set_cons_zero, List.set_cons_succ]
  refine anyT_take (i := 1) (v := .int .i64 1) rfl (by kernel_rfl) (by kernel_rfl) (by kernel_rfl) (by kernel_rfl) (by decide) (fun _ _ _ h => h) (Or.inl ⟨by rfl, ?ya1⟩) (by simp) ?_
  case ya1 => (intro wz hSw; go_simp; (try simp only [zq, zr, zs, zwi, zwn, HW.out.1]); (try with_reducible rfl))
  try simp only [Act.put, List.getElem_toArray, List.getElem_cons_zero, List.getElem_cons_succ, List.setIfInBounds_toArray, List.set_cons_zero, List.set_cons_succ]
  refine anyT_take (i := 2) (v := ?va2) rfl (by kernel_rfl) (by kernel_rfl) (by kernel_rfl) (by kernel_rfl) (by decide) (fun _ _ _ h => h) (Or.inl ⟨by rfl, ?ya2⟩) (by simp) ?_
  case ya2 => (intro wz hSw; go_simp; (try simp only [zq, zr, zs, zwi, zwn, HW.out.1]); (try with_reducible rfl))
  try simp only [Act.put, List.getElem_toArray, List.getElem_cons_zero, List.getElem_cons_succ, List.setIfInBounds_toArray, List.set_cons_zero, List.set_cons_succ]
  refine anyT_take (i := 3) (v := ?va3) rfl (by kernel_rfl) (by kernel_rfl) (by kernel_rfl) (by kernel_rfl) (by decide) (fun _ _ _ h => h) (Or.inl ⟨by rfl, ?ya3⟩) (by simp) ?_
  case ya3 => (intro wz hSw; go_simp; (try simp only [zq, zr, zs, zwi, zwn, HW.out.1]); (try with_reducible rfl))
  try simp only [Act.put, List.getElem_toArray, List.getElem_cons_zero, List.getElem_cons_succ, List.setIfInBounds_toArray, List.set_cons_zero, List.set_cons_succ]
  refine anyT_take (i := 4) (v := ?va4) rfl (by kernel_rfl) (by kernel_rfl) (by kernel_rfl) (by kernel_rfl) (by decide) (fun _ _ _ h => h) (Or.inl ⟨by rfl, ?ya4⟩) (by simp) ?_
  case ya4 => (intro wz hSw; go_simp; (try simp only [zq, zr, zs, zwi, zwn, HW.out.1]); (try with_reducible rfl))
  try simp only [Act.put, List.getElem_toArray, List.getElem_cons_zero, List.getElem_cons_succ, List.setIfInBounds_toArray, List.set_cons_zero, List.set_cons_succ]
  refine anyT_take (i := 5) (v := .int .i64 (n : Int)) rfl (by kernel_rfl) (by kernel_rfl) (by kernel_rfl) (by kernel_rfl) (by decide) (fun _ _ _ h => h) (Or.inl ⟨by rfl, ?ya5⟩) (by simp) ?_
  case ya5 => (intro wz hSw; go_simp; (try simp only [zq, zr, zs, zwi, zwn, HW.out.1]); (try with_reducible rfl))
  try simp only [Act.put, List.getElem_toArray, List.getElem_cons_zero, List.getElem_cons_succ, List.setIfInBounds_toArray, List.set_cons_zero, List.set_cons_succ]
  refine anyT_take (i := 6) (v := ?va6) rfl (by kernel_rfl) (by kernel_rfl) (by kernel_rfl) (by kernel_rfl) (by decide) (fun _ _ _ h => h) (Or.inl ⟨by rfl, ?ya6⟩) (by simp) ?_
  case ya6 => (intro wz hSw; go_simp; (try simp only [zq, zr, zs, zwi, zwn, HW.out.1]); (try with_reducible rfl))
  try simp only [Act.put, List.getElem_toArray, List.getElem_cons_zero, List.getElem_cons_succ, List.setIfInBounds_toArray, List.set_cons_zero, List.set_cons_succ]
  refine anyT_take (i := 7) (v := ?va7) rfl (by kernel_rfl) (by kernel_rfl) (by kernel_rfl) (by kernel_rfl) (by decide) (fun _ _ _ h => h) (Or.inl ⟨by rfl, ?ya7⟩) (by simp) ?_
  case ya7 => (intro wz hSw; go_simp; (try simp only [zq, zr, zs, zwi, zwn, HW.out.1]); (try with_reducible rfl))
  try simp only [Act.put, List.getElem_toArray, List.getElem_cons_zero, List.getElem_cons_succ, List.setIfInBounds_toArray, List.set_cons_zero, List.set_cons_succ]
  refine anyT_take (i := 8) (v := ?va8) rfl (by kernel_rfl) (by kernel_rfl) (by kernel_rfl) (by kernel_rfl) (by decide) (fun _ _ _ h => h) (Or.inl ⟨by rfl, ?ya8⟩) (by simp) ?_
  case ya8 => (intro wz hSw; go_simp; (try with_reducible rfl))
  try simp only [Act.put, List.getElem_toArray, List.getElem_cons_zero, List.getElem_cons_succ, List.setIfInBounds_toArray, List.set_cons_zero, List.set_cons_succ]
  refine anyT_one (i := 9) (by kernel_rfl) rfl (fun K hK => ?_)
  go_simp
  refine hK.out _ _ (.inl rfl) ?_
  clear hK
  try simp only [Act.put, List.getElem_toArray, List.getElem_cons_zero, List.getElem_cons_succ, List.setIfInBounds_toArray, List.set_cons_zero, List.set_cons_succ]
  refine anyT_done (by kernel_rfl) ?_

  go_wp2_with fail
  refine bodyPost_ret (v := psV (sOr S (sOne a))) (by simp [results, Tryz.results137, go_sem, HW.out.2]) rfl ⟨rfl, ?_⟩
  repeat (first | exact Below.refl _ _ | refine Below.drew ?_ | refine Below.alloc ?_ (by simp; done) _ | refine Below.alloc ?_ (Nat.le_refl _) _ | refine Below.alloc ?_ (by simp; omega) _)
set_option maxHeartbeats 4000000 in
theorem with_2 (S : PS) (a : Nat) (ha : a / 64 = 2) (w : World) : Calls Tryz.prog 137 #[psV S, .int .i64 (a : Int)] w fun e w' => e = .returned (psV (sOr S (sOne a))) ∧ Below w.heap.size w w' := by
  have za : a < 256 := by omega
  have zq : (a : Int).tdiv 64 = 2 := by rw [Int.tdiv_eq_ediv_of_nonneg (by omega)]; omega
  have zr : (a : Int).tmod 64 = ((a % 64 : Nat) : Int) := by rw [Int.tmod_eq_emod_of_nonneg (by omega)]; omega
  obtain ⟨n, hn⟩ : ∃ n, n = a % 64 := ⟨_, rfl⟩
  rw [← hn] at zr
  have zn : n < 64 := by omega
  have zs := shl_u64 n zn
  have zn0 : ¬ (n : Int) < 0 := by omega
  have zwi : IntKind.i64.wrap (2 : Int) = 2 := by rfl
  have zwn : IntKind.i64.wrap (n : Int) = n := by simp [IntKind.wrap, IntKind.bits, IntKind.signed]; omega
  have wo := wd_with S a 2 ha.symm
  rw [← hn, show ((2 ^ n : Nat) : Int) = (2 : Int) ^ n by simp] at wo
  have w0 := wd_other S a 0 (by omega)
  have w1 := wd_other S a 1 (by omega)
  have w3 := wd_other S a 3 (by omega)
  have HW : Hid (bits .or .u64 (wdN S 2 : Int) ((2 : Int) ^ n) = ((wdN (sOr S (sOne a)) 2 : Nat) : Int) ∧ (∀ j, ¬ j = 2 → wdN (sOr S (sOne a)) j = wdN S j)) := ⟨wo, fun j hj => wd_other S a j (by omega)⟩
  clear hn ha wo w0 w1 w3
  go_enter Tryz.func137, Tryz.ntmps137
  go_upto_region 1 with fail
  refine wp_region_T 9 (fun wz => wz.cell? ⟨w.heap.size, 2, none⟩ = some (.int .u64 (wdN S 2 : Int))) (by kernel_rfl) ?_
  refine anyT_take (i := 0) (v := ?va0) rfl (by kernel_rfl) (by kernel_rfl) (by kernel_rfl) (by kernel_rfl) (by decide) (fun _ _ _ h => h) (Or.inl ⟨by rfl, ?ya0⟩) (by simp) ?_
  case ya0 => (intro wz hSw; go_simp; (try simp only [zq, zr, zs, zwi, zwn, HW.out.1]); (try with_reducible rfl))
  try simp only [Act.put, List.getElem_toArray, List.getElem_cons_zero, List.getElem_cons_succ, List.setIfInBounds_toArray, List.set_cons_zero, List.set_cons_succ]
  refine anyT_take (i := 1) (v := .int .i64 2) rfl (by kernel_rfl) (by kernel_rfl) (by kernel_rfl) (by kernel_rfl) (by decide) (fun _ _ _ h => h) (Or.inl ⟨by rfl, ?ya1⟩) (by simp) ?_
  case ya1 => (intro wz hSw; go_simp; (try simp only [zq, zr, zs, zwi, zwn, HW.out.1]); (try with_reducible rfl))
  try simp only [Act.put, List.getElem_toArray, List.getElem_cons_zero, List.getElem_cons_succ, List.setIfInBounds_toArray, List.set_cons_zero, List.set_cons_succ]
  refine anyT_take (i := 2) (v := ?va2) rfl (by kernel_rfl) (by kernel_rfl) (by kernel_rfl) (by kernel_rfl) (by decide) (fun _ _ _ h => h) (Or.inl ⟨by rfl, ?ya2⟩) (by simp) ?_
  case ya2 => (intro wz hSw; go_simp; (try simp only [zq, zr, zs, zwi, zwn, HW.out.1]); (try with_reducible rfl))
  try simp only [Act.put, List.getElem_toArray, List.getElem_cons_zero, List.getElem_cons_succ, List.setIfInBounds_toArray, List.set_cons_zero, List.set_cons_succ]
  refine anyT_take (i := 3) (v := ?va3) rfl (by kernel_rfl) (by kernel_rfl) (by kernel_rfl) (by kernel_rfl) (by decide) (fun _ _ _ h => h) (Or.inl ⟨by rfl, ?ya3⟩) (by simp) ?_
  case ya3 => (intro wz hSw; go_simp; (try simp only [zq, zr, zs, zwi, zwn, HW.out.1]); (try with_reducible rfl))
  try simp only [Act.put, List.getElem_toArray, List.getElem_cons_zero, List.getElem_cons_succ, List.setIfInBounds_toArray, List.set_cons_zero, List.set_cons_succ]
  refine anyT_take (i := 4) (v := ?va4) rfl (by kernel_rfl) (by kernel_rfl) (by kernel_rfl) (by kernel_rfl) (by decide) (fun _ _ _ h => h) (Or.inl ⟨by rfl, ?ya4⟩) (by simp) ?_
  case ya4 => (intro wz hSw; go_simp; (try simp only [zq, zr, zs, zwi, zwn, HW.out.1]); (try with_reducible rfl))
  try simp only [Act.put, List.getElem_toArray, List.getElem_cons_zero, List.getElem_cons_succ, List.setIfInBounds_toArray, List.set_cons_zero, List.set_cons_succ]
  refine anyT_take (i := 5) (v := .int .i64 (n : Int)) rfl (by kernel_rfl) (by kernel_rfl) (by kernel_rfl) (by kernel_rfl) (by decide) (fun _ _ _ h => h) (Or.inl ⟨by rfl, ?ya5⟩) (by simp) ?_
  case ya5 => (intro wz hSw; go_simp; (try simp only [zq, zr, zs, zwi, zwn, HW.out.1]); (try with_reducible rfl))
  try simp only [Act.put, List.getElem_toArray, List.getElem_cons_zero, List.getElem_cons_succ, List.setIfInBounds_toArray, List.set_cons_zero, List.set_cons_succ]
  refine anyT_take (i := 6) (v := ?va6) rfl (by kernel_rfl) (by kernel_rfl) (by kernel_rfl) (by kernel_rfl) (by decide) (fun _ _ _ h => h) (Or.inl ⟨by rfl, ?ya6⟩) (by simp) ?_
  case ya6 => (intro wz hSw; go_simp; (try simp only [zq, zr, zs, zwi, zwn, HW.out.1]); (try with_reducible rfl))
  try simp only [Act.put, List.getElem_toArray, List.getElem_cons_zero, List.getElem_cons_succ, List.setIfInBounds_toArray, List.set_cons_zero, List.set_cons_succ]
  refine anyT_take (i := 7) (v := ?va7) rfl (by kernel_rfl) (by kernel_rfl) (by kernel_rfl) (by kernel_rfl) (by decide) (fun _ _ _ h => h) (Or.inl ⟨by rfl, ?ya7⟩) (by simp) ?_
  case ya7 => (intro wz hSw; go_simp; (try simp only [zq, zr, zs, zwi, zwn, HW.out.1]); (try with_reducible rfl))
  try simp only [Act.put, List.getElem_toArray, List.getElem_cons_zero, List.getElem_cons_succ, List.setIfInBounds_toArray, List.set_cons_zero, List.set_cons_succ]
  refine anyT_take (i := 8) (v := ?va8) rfl (by kernel_rfl) (by kernel_rfl) (by kernel_rfl) (by kernel_rfl) (by decide) (fun _ _ _ h => h) (Or.inl ⟨by rfl, ?ya8⟩) (by simp) ?_
  case ya8 => (intro wz hSw; go_simp; (try with_reducible rfl))
  try simp only [Act.put, List.getElem_toArray, List.getElem_cons_zero, List.getElem_cons_succ, List.setIfInBounds_toArray, List.set_cons_zero, List.set_cons_succ]
  refine anyT_one (i := 9) (by kernel_rfl) rfl (fun K hK => ?_)
  go_simp
  refine hK.out _ _ (.inl rfl) ?_
  clear hK
  try simp only [Act.put, List.getElem_toArray, List.getElem_cons_zero, List.getElem_cons_succ, List.setIfInBounds_toArray, List.set_cons_zero, List.set_cons_succ]
  refine anyT_done (by kernel_rfl) ?_

  go_wp2_with fail
  refine bodyPost_ret (v := psV (sOr S (sOne a))) (by simp [results, Tryz.results137, go_sem, HW.out.2]) rfl ⟨rfl, ?_⟩
  repeat (first | exact Below.refl _ _ | refine Below.drew ?_ | refine Below.alloc ?_ (by simp; done) _ | refine Below.alloc ?_ (Nat.le_refl _) _ | refine Below.alloc ?_ (by simp; omega) _)
set_option maxHeartbeats 4000000 in
theorem with_3 (S : PS) (a : Nat) (ha : a / 64 = 3) (w : World) : Calls Tryz.prog 137 #[psV S, .int .i64 (a : Int)] w fun e w' => e = .returned (psV (sOr S (sOne a))) ∧ Below w.heap.size w w' := by
  have za : a < 256 := by omega
  have zq : (a : Int).tdiv 64 = 3 := by rw [Int.tdiv_eq_ediv_of_nonneg (by omega)]; omega
  have zr : (a : Int).tmod 64 = ((a % 64 : Nat) : Int) := by rw [Int.tmod_eq_emod_of_nonneg (by omega)]; omega
  obtain ⟨n, hn⟩ : ∃ n, n = a % 64 := ⟨_, rfl⟩
  rw [← hn] at zr
  have zn : n < 64 := by omega
  have zs := shl_u64 n zn
  have zn0 : ¬ (n : Int) < 0 := by omega
  have zwi : IntKind.i64.wrap (3 : Int) = 3 := by rfl
  have zwn : IntKind.i64.wrap (n : Int) = n := by simp [IntKind.wrap, IntKind.bits, IntKind.signed]; omega
  have wo := wd_with S a 3 ha.symm
  rw [← hn, show ((2 ^ n : Nat) : Int) = (2 : Int) ^ n by simp] at wo
  have w0 := wd_other S a 0 (by omega)
  have w1 := wd_other S a 1 (by omega)
  have w2 := wd_other S a 2 (by omega)
  have HW : Hid (bits .or .u64 (wdN S 3 : Int) ((2 : Int) ^ n) = ((wdN (sOr S (sOne a)) 3 : Nat) : Int) ∧ (∀ j, ¬ j = 3 → wdN (sOr S (sOne a)) j = wdN S j)) := ⟨wo, fun j hj => wd_other S a j (by omega)⟩
  clear hn ha wo w0 w1 w2
  go_enter Tryz.func137, Tryz.ntmps137
  go_upto_region 1 with fail
  refine wp_region_T 9 (fun wz => wz.cell? ⟨w.heap.size, 3, none⟩ = some (.int .u64 (wdN S 3 : Int))) (by kernel_rfl) ?_
  refine anyT_take (i := 0) (v := ?va0) rfl (by kernel_rfl) (by kernel_rfl) (by kernel_rfl) (by kernel_rfl) (by decide) (fun _ _ _ h => h) (Or.inl ⟨by rfl, ?ya0⟩) (by simp) ?_
  case ya0 => (intro wz hSw; go_simp; (try simp only [zq, zr, zs, zwi, zwn, HW.out.1]); (try with_reducible rfl))
  try simp only [Act.put, List.getElem_toArray, List.getElem_cons_zero, List.getElem_cons_succ, List.setIfInBounds_toArray, List.set_cons_zero, List.set_cons_succ]
  refine anyT_take (i := 1) (v := .int .i64 3) rfl (by kernel_rfl) (by kernel_rfl) (by kernel_rfl) (by kernel_rfl) (by decide) (fun _ _ _ h => h) (Or.inl ⟨by rfl, ?ya1⟩) (by simp) ?_
  case ya1 => (intro wz hSw; go_simp; (try simp only [zq, zr, zs, zwi, zwn, HW.out.1]); (try with_reducible rfl))
  try simp only [Act.put, List.getElem_toArray, List.getElem_cons_zero, List.getElem_cons_succ, List.setIfInBounds_toArray, List.set_cons_zero, List.set_cons_succ]
  refine anyT_take (i := 2) (v := ?va2) rfl (by kernel_rfl) (by kernel_rfl) (by kernel_rfl) (by kernel_rfl) (by decide) (fun _ _ _ h => h) (Or.inl ⟨by rfl, ?ya2⟩) (by simp) ?_
  case ya2 => (intro wz hSw; go_simp; (try simp only [zq, zr, zs, zwi, zwn, HW.out.1]); (try with_reducible rfl))
  try simp only [Act.put, List.getElem_toArray, List.getElem_cons_zero, List.getElem_cons_succ, List.setIfInBounds_toArray, List.set_cons_zero, List.set_cons_succ]
  refine anyT_take (i := 3) (v := ?va3) rfl (by kernel_rfl) (by kernel_rfl) (by kernel_rfl) (by kernel_rfl) (by decide) (fun _ _ _ h => h) (Or.inl ⟨by rfl, ?ya3⟩) (by simp) ?_
  case ya3 => (intro wz hSw; go_simp; (try simp only [zq, zr, zs, zwi, zwn, HW.out.1]); (try with_reducible rfl))
  try simp only [Act.put, List.getElem_toArray, List.getElem_cons_zero, List.getElem_cons_succ, List.setIfInBounds_toArray, List.set_cons_zero, List.set_cons_succ]
  refine anyT_take (i := 4) (v := ?va4) rfl (by kernel_rfl) (by kernel_rfl) (by kernel_rfl) (by kernel_rfl) (by decide) (fun _ _ _ h => h) (Or.inl ⟨by rfl, ?ya4⟩) (by simp) ?_
  case ya4 => (intro wz hSw; go_simp; (try simp only [zq, zr, zs, zwi, zwn, HW.out.1]); (try with_reducible rfl))
  try simp only [Act.put, List.getElem_toArray, List.getElem_cons_zero, List.getElem_cons_succ, List.setIfInBounds_toArray, List.set_cons_zero, List.set_cons_succ]
  refine anyT_take (i := 5) (v := .int .i64 (n : Int)) rfl (by kernel_rfl) (by kernel_rfl) (by kernel_rfl) (by kernel_rfl) (by decide) (fun _ _ _ h => h) (Or.inl ⟨by rfl, ?ya5⟩) (by simp) ?_
  case ya5 => (intro wz hSw; go_simp; (try simp only [zq, zr, zs, zwi, zwn, HW.out.1]); (try with_reducible rfl))
  try simp only [Act.put, List.getElem_toArray, List.getElem_cons_zero, List.getElem_cons_succ, List.setIfInBounds_toArray, List.set_cons_zero, List.set_cons_succ]
  refine anyT_take (i := 6) (v := ?va6) rfl (by kernel_rfl) (by kernel_rfl) (by kernel_rfl) (by kernel_rfl) (by decide) (fun _ _ _ h => h) (Or.inl ⟨by rfl, ?ya6⟩) (by simp) ?_
  case ya6 => (intro wz hSw; go_simp; (try simp only [zq, zr, zs, zwi, zwn, HW.out.1]); (try with_reducible rfl))
  try simp only [Act.put, List.getElem_toArray, List.getElem_cons_zero, List.getElem_cons_succ, List.setIfInBounds_toArray, List.set_cons_zero, List.set_cons_succ]
  refine anyT_take (i := 7) (v := ?va7) rfl (by kernel_rfl) (by kernel_rfl) (by kernel_rfl) (by kernel_rfl) (by decide) (fun _ _ _ h => h) (Or.inl ⟨by rfl, ?ya7⟩) (by simp) ?_
  case ya7 => (intro wz hSw; go_simp; (try simp only [zq, zr, zs, zwi, zwn, HW.out.1]); (try with_reducible rfl))
  try simp only [Act.put, List.getElem_toArray, List.getElem_cons_zero, List.getElem_cons_succ, List.setIfInBounds_toArray, List.set_cons_zero, List.set_cons_succ]
  refine anyT_take (i := 8) (v := ?va8) rfl (by kernel_rfl) (by kernel_rfl) (by kernel_rfl) (by kernel_rfl) (by decide) (fun _ _ _ h => h) (Or.inl ⟨by rfl, ?ya8⟩) (by simp) ?_
  case ya8 => (intro wz hSw; go_simp; (try with_reducible rfl))
  try simp only [Act.put, List.getElem_toArray, List.getElem_cons_zero, List.getElem_cons_succ, List.setIfInBounds_toArray, List.set_cons_zero, List.set_cons_succ]
  refine anyT_one (i := 9) (by kernel_rfl) rfl (fun K hK => ?_)
  go_simp
  refine hK.out _ _ (.inl rfl) ?_
  clear hK
  try simp only [Act.put, List.getElem_toArray, List.getElem_cons_zero, List.getElem_cons_succ, List.setIfInBounds_toArray, List.set_cons_zero, List.set_cons_succ]
  refine anyT_done (by kernel_rfl) ?_

  go_wp2_with fail
  refine bodyPost_ret (v := psV (sOr S (sOne a))) (by simp [results, Tryz.results137, go_sem, HW.out.2]) rfl ⟨rfl, ?_⟩
  repeat (first | exact Below.refl _ _ | refine Below.drew ?_ | refine Below.alloc ?_ (by simp; done) _ | refine Below.alloc ?_ (Nat.le_refl _) _ | refine Below.alloc ?_ (by simp; omega) _)
theorem with_core (S : PS) (a : Nat) (ha : a < 256) (w : World) : Calls Tryz.prog 137 #[psV S, .int .i64 (a : Int)] w fun e w' => e = .returned (psV (sOr S (sOne a))) ∧ Below w.heap.size w w' := by
  rcases (by omega : a / 64 = 0 ∨ a / 64 = 1 ∨ a / 64 = 2 ∨ a / 64 = 3) with h | h | h | h
  · exact with_0 S a h w
  · exact with_1 S a h w
  · exact with_2 S a h w
  · exact with_3 S a h w
end Go.Proofs.YtkidabedcgngcaaGreatDoor

/-
  Sets of positions: union and common.
-/
namespace Go.Proofs.YtkidabedcgngcaaGreatDoor
open Go.ChangeShapes Go.WideShapes Go.ChangeAt Go.RowKit Go.Deep
set_option linter.unusedVariables false
set_option linter.unusedSimpArgs false
set_option maxRecDepth 100000

/-- The words of R below k, those of S from there on. -/
def mixL (R S : PS) (k : Nat) : List Value := [.int .u64 (if 0 < k then (wdN R 0 : Int) else (wdN S 0 : Int)), .int .u64 (if 1 < k then (wdN R 1 : Int) else (wdN S 1 : Int)), .int .u64 (if 2 < k then (wdN R 2 : Int) else (wdN S 2 : Int)), .int .u64 (if 3 < k then (wdN R 3 : Int) else (wdN S 3 : Int))]
theorem mixL_zero (R S : PS) : mixL R S 0 = psL S := by simp [mixL, psL]
theorem mixL_all (R S : PS) : mixL R S 4 = psL R := by simp [mixL, psL]
theorem mixL_at (R S : PS) {k : Nat} (hk : k < 4) : (mixL R S k)[k]? = some (.int .u64 (wdN S k : Int)) := by
  rcases (by omega : k = 0 ∨ k = 1 ∨ k = 2 ∨ k = 3) with rfl | rfl | rfl | rfl <;> simp [mixL]
theorem mixL_set (R S : PS) {k : Nat} (hk : k < 4) : (mixL R S k).set k (.int .u64 (wdN R k : Int)) = mixL R S (k + 1) := by
  rcases (by omega : k = 0 ∨ k = 1 ∨ k = 2 ∨ k = 3) with rfl | rfl | rfl | rfl <;> simp [mixL]
theorem psL_at (S : PS) {k : Nat} (hk : k < 4) : (psL S)[k]? = some (.int .u64 (wdN S k : Int)) := by
  rcases (by omega : k = 0 ∨ k = 1 ∨ k = 2 ∨ k = 3) with rfl | rfl | rfl | rfl <;> simp [psL]
abbrev z4 : Array Value := #[.int .u64 0, .int .u64 0, .int .u64 0, .int .u64 0]
set_option maxHeartbeats 4000000 in
theorem union_core (S T : PS) (w : World) : Calls Tryz.prog 161 #[psV S, psV T] w fun e w' => e = .returned (psV (sOr S T)) ∧ Below w.heap.size w w' := by
  have HI : Hid (BoxAt (((w.alloc (.cells (psL S).toArray 178)).alloc (.cells (psL T).toArray 178)).alloc (.cells z4 178)) w.heap.size 178 4 w.heap.size (psL S) ∧ BoxAt (((w.alloc (.cells (psL S).toArray 178)).alloc (.cells (psL T).toArray 178)).alloc (.cells z4 178)) w.heap.size 178 4 (w.heap.size + 1) (psL T) ∧ BoxAt (((w.alloc (.cells (psL S).toArray 178)).alloc (.cells (psL T).toArray 178)).alloc (.cells z4 178)) w.heap.size 178 4 (w.heap.size + 1 + 1) z4.toList ∧ Below w.heap.size w (((w.alloc (.cells (psL S).toArray 178)).alloc (.cells (psL T).toArray 178)).alloc (.cells z4 178))) := by
    have b1 := boxAt_new w (base := w.heap.size) (t := 178) (sz := 4) (psL S).toArray (Nat.le_refl _) rfl
    have k1 : ∀ (x : World) (o : Obj), Below x.heap.size x (x.alloc o) := fun x o => (Below.refl _ _).alloc (Nat.le_refl _) _
    have b2 := boxAt_new (w.alloc (.cells (psL S).toArray 178)) (base := w.heap.size) (t := 178) (sz := 4) (psL T).toArray (by simp) rfl
    have b3 := boxAt_new ((w.alloc (.cells (psL S).toArray 178)).alloc (.cells (psL T).toArray 178)) (base := w.heap.size) (t := 178) (sz := 4) z4 (by simp; omega) rfl
    rw [World.size_alloc] at b2
    rw [World.size_alloc, World.size_alloc] at b3
    exact ⟨(b1.below (k1 _ _)).below (k1 _ _), b2.below (k1 _ _), b3, (((Below.refl _ _).alloc (Nat.le_refl _) _).alloc (by simp) _).alloc (by simp; omega) _⟩
  go_enter Tryz.func161, Tryz.ntmps161
  go_wp2_with fail
  go_loopw [6] (fun iv wr => ∃ k : Nat, k ≤ 4 ∧ iv = .int .i64 k ∧ Hid (BoxAt wr w.heap.size 178 4 w.heap.size (mixL (sOr S T) S k) ∧ BoxAt wr w.heap.size 178 4 (w.heap.size + 1) (psL T) ∧ BoxAt wr w.heap.size 178 4 (w.heap.size + 1 + 1) z4.toList ∧ Below w.heap.size w wr)) (fun iv _ => 4 - (intOf iv).toNat)
  case atStart => exact ⟨0, by omega, rfl, by rw [mixL_zero]; exact HI.out⟩
  case round =>
    clear HI
    obtain ⟨k, hk, rfl, HJ⟩ := hrel
    by_cases hlt : k < 4
    · have zk : (k : Int) < 4 := by omega
      have c0 := HJ.out.1.cell (mixL_at (sOr S T) S hlt)
      have c1 := HJ.out.2.1.cell (psL_at T hlt)
      have f0 := HJ.out.1.frozen k
      have wo := wd_or S T k
      go_upto_region 4 with fail
      refine wp_region_T 8 (fun wz => wz.cell? ⟨w.heap.size, k, none⟩ = some (.int .u64 (wdN S k : Int)) ∧ wz.cell? ⟨w.heap.size + 1, k, none⟩ = some (.int .u64 (wdN T k : Int))) (by kernel_rfl) ?_
      refine anyT_take (i := 0) (v := ?vua0) rfl (by kernel_rfl) (by kernel_rfl) (by kernel_rfl) (by kernel_rfl) (by decide) (fun _ _ _ h => h) (Or.inl ⟨by rfl, ?yua0⟩) ⟨by simpa using c0, by simpa using c1⟩ ?_
      case yua0 => (intro wz hSw; obtain ⟨d0, d1⟩ := hSw; go_simp; (try simp only [wo]); (try with_reducible rfl))
      try simp only [Act.put, List.getElem_toArray, List.getElem_cons_zero, List.getElem_cons_succ, List.setIfInBounds_toArray, List.set_cons_zero, List.set_cons_succ]
      refine anyT_take (i := 1) (v := ?vua1) rfl (by kernel_rfl) (by kernel_rfl) (by kernel_rfl) (by kernel_rfl) (by decide) (fun _ _ _ h => h) (Or.inl ⟨by rfl, ?yua1⟩) ⟨by simpa using c0, by simpa using c1⟩ ?_
      case yua1 => (intro wz hSw; obtain ⟨d0, d1⟩ := hSw; go_simp; (try simp only [wo]); (try with_reducible rfl))
      try simp only [Act.put, List.getElem_toArray, List.getElem_cons_zero, List.getElem_cons_succ, List.setIfInBounds_toArray, List.set_cons_zero, List.set_cons_succ]
      refine anyT_take (i := 2) (v := ?vua2) rfl (by kernel_rfl) (by kernel_rfl) (by kernel_rfl) (by kernel_rfl) (by decide) (fun _ _ _ h => h) (Or.inl ⟨by rfl, ?yua2⟩) ⟨by simpa using c0, by simpa using c1⟩ ?_
      case yua2 => (intro wz hSw; obtain ⟨d0, d1⟩ := hSw; go_simp; (try simp only [wo]); (try with_reducible rfl))
      try simp only [Act.put, List.getElem_toArray, List.getElem_cons_zero, List.getElem_cons_succ, List.setIfInBounds_toArray, List.set_cons_zero, List.set_cons_succ]
      refine anyT_take (i := 3) (v := ?vua3) rfl (by kernel_rfl) (by kernel_rfl) (by kernel_rfl) (by kernel_rfl) (by decide) (fun _ _ _ h => h) (Or.inl ⟨by rfl, ?yua3⟩) ⟨by simpa using c0, by simpa using c1⟩ ?_
      case yua3 => (intro wz hSw; obtain ⟨d0, d1⟩ := hSw; go_simp; (try simp only [wo]); (try with_reducible rfl))
      try simp only [Act.put, List.getElem_toArray, List.getElem_cons_zero, List.getElem_cons_succ, List.setIfInBounds_toArray, List.set_cons_zero, List.set_cons_succ]
      refine anyT_take (i := 4) (v := ?vua4) rfl (by kernel_rfl) (by kernel_rfl) (by kernel_rfl) (by kernel_rfl) (by decide) (fun _ _ _ h => h) (Or.inl ⟨by rfl, ?yua4⟩) ⟨by simpa using c0, by simpa using c1⟩ ?_
      case yua4 => (intro wz hSw; obtain ⟨d0, d1⟩ := hSw; go_simp; (try simp only [wo]); (try with_reducible rfl))
      try simp only [Act.put, List.getElem_toArray, List.getElem_cons_zero, List.getElem_cons_succ, List.setIfInBounds_toArray, List.set_cons_zero, List.set_cons_succ]
      refine anyT_take (i := 5) (v := ?vua5) rfl (by kernel_rfl) (by kernel_rfl) (by kernel_rfl) (by kernel_rfl) (by decide) (fun _ _ _ h => h) (Or.inl ⟨by rfl, ?yua5⟩) ⟨by simpa using c0, by simpa using c1⟩ ?_
      case yua5 => (intro wz hSw; obtain ⟨d0, d1⟩ := hSw; go_simp; (try simp only [wo]); (try with_reducible rfl))
      try simp only [Act.put, List.getElem_toArray, List.getElem_cons_zero, List.getElem_cons_succ, List.setIfInBounds_toArray, List.set_cons_zero, List.set_cons_succ]
      refine anyT_take (i := 6) (v := ?vua6) rfl (by kernel_rfl) (by kernel_rfl) (by kernel_rfl) (by kernel_rfl) (by decide) (fun _ _ _ h => h) (Or.inl ⟨by rfl, ?yua6⟩) ⟨by simpa using c0, by simpa using c1⟩ ?_
      case yua6 => (intro wz hSw; obtain ⟨d0, d1⟩ := hSw; go_simp; (try simp only [wo]); (try with_reducible rfl))
      try simp only [Act.put, List.getElem_toArray, List.getElem_cons_zero, List.getElem_cons_succ, List.setIfInBounds_toArray, List.set_cons_zero, List.set_cons_succ]
      refine anyT_take (i := 7) (v := ?vua7) rfl (by kernel_rfl) (by kernel_rfl) (by kernel_rfl) (by kernel_rfl) (by decide) (fun _ _ _ h => h) (Or.inl ⟨by rfl, ?yua7⟩) ⟨by simpa using c0, by simpa using c1⟩ ?_
      case yua7 => (intro wz hSw; obtain ⟨d0, d1⟩ := hSw; go_simp; (try simp only [wo]); (try with_reducible rfl))
      try simp only [Act.put, List.getElem_toArray, List.getElem_cons_zero, List.getElem_cons_succ, List.setIfInBounds_toArray, List.set_cons_zero, List.set_cons_succ]
      refine anyT_one (i := 8) (by kernel_rfl) rfl (fun K hK => ?_)
      go_simp
      refine hK.out _ _ (.inl rfl) ?_
      clear hK
      try simp only [Act.put, List.getElem_toArray, List.getElem_cons_zero, List.getElem_cons_succ, List.setIfInBounds_toArray, List.set_cons_zero, List.set_cons_succ]
      refine anyT_done (by kernel_rfl) ?_
      have HJ2 : Hid (BoxAt (wr.drew.setCell ⟨w.heap.size, k, none⟩ (.int .u64 (wdN (sOr S T) k : Int))) w.heap.size 178 4 w.heap.size (mixL (sOr S T) S (k + 1)) ∧ BoxAt (wr.drew.setCell ⟨w.heap.size, k, none⟩ (.int .u64 (wdN (sOr S T) k : Int))) w.heap.size 178 4 (w.heap.size + 1) (psL T) ∧ BoxAt (wr.drew.setCell ⟨w.heap.size, k, none⟩ (.int .u64 (wdN (sOr S T) k : Int))) w.heap.size 178 4 (w.heap.size + 1 + 1) z4.toList ∧ Below w.heap.size w (wr.drew.setCell ⟨w.heap.size, k, none⟩ (.int .u64 (wdN (sOr S T) k : Int)))) := by
        have kd : Below wr.heap.size wr wr.drew := (Below.refl _ _).drew
        refine ⟨?_, (HJ.out.2.1.below kd).beside (by omega) _ _, (HJ.out.2.2.1.below kd).beside (by omega) _ _, below_set HJ.out.2.2.2.drew (Nat.le_refl _) _ _⟩
        rw [← mixL_set _ _ hlt]
        exact (HJ.out.1.below kd).set k _
      go_wp2_with fail
      refine ⟨⟨k + 1, by omega, by go_num, HJ2⟩, ?_⟩
      go_light
      simp [intOf]; omega
    · obtain rfl : k = 4 := by omega
      rw [mixL_all] at HJ
      have c0 := HJ.out.1.cell (j := 0) rfl
      have c1 := HJ.out.1.cell (j := 1) rfl
      have c2 := HJ.out.1.cell (j := 2) rfl
      have c3 := HJ.out.1.cell (j := 3) rfl
      have d0 := HJ.out.2.2.1.cell (j := 0) rfl
      have d1 := HJ.out.2.2.1.cell (j := 1) rfl
      have d2 := HJ.out.2.2.1.cell (j := 2) rfl
      have d3 := HJ.out.2.2.1.cell (j := 3) rfl
      have f0 := HJ.out.2.2.1.frozen 0
      have f1 := HJ.out.2.2.1.frozen 1
      have f2 := HJ.out.2.2.1.frozen 2
      have f3 := HJ.out.2.2.1.frozen 3
      have hlt2 : w.heap.size + 1 + 1 < wr.heap.size := HJ.out.2.2.1.lt.2
      go_wp2_with fail
      refine bodyPost_ret (v := psV (sOr S T)) (by simp [results, Tryz.results161, go_sem, d0, d1, d2, d3]) rfl ⟨rfl, ?_⟩
      repeat (first | exact HJ.out.2.2.2 | refine Below.drew ?_ | refine below_set ?_ (by omega) _ _)
set_option maxHeartbeats 4000000 in
theorem common_core (S T : PS) (w : World) : Calls Tryz.prog 139 #[psV S, psV T] w fun e w' => e = .returned (psV (sAnd S T)) ∧ Below w.heap.size w w' := by
  have HI : Hid (BoxAt (((w.alloc (.cells (psL S).toArray 178)).alloc (.cells (psL T).toArray 178)).alloc (.cells z4 178)) w.heap.size 178 4 w.heap.size (psL S) ∧ BoxAt (((w.alloc (.cells (psL S).toArray 178)).alloc (.cells (psL T).toArray 178)).alloc (.cells z4 178)) w.heap.size 178 4 (w.heap.size + 1) (psL T) ∧ BoxAt (((w.alloc (.cells (psL S).toArray 178)).alloc (.cells (psL T).toArray 178)).alloc (.cells z4 178)) w.heap.size 178 4 (w.heap.size + 1 + 1) z4.toList ∧ Below w.heap.size w (((w.alloc (.cells (psL S).toArray 178)).alloc (.cells (psL T).toArray 178)).alloc (.cells z4 178))) := by
    have b1 := boxAt_new w (base := w.heap.size) (t := 178) (sz := 4) (psL S).toArray (Nat.le_refl _) rfl
    have k1 : ∀ (x : World) (o : Obj), Below x.heap.size x (x.alloc o) := fun x o => (Below.refl _ _).alloc (Nat.le_refl _) _
    have b2 := boxAt_new (w.alloc (.cells (psL S).toArray 178)) (base := w.heap.size) (t := 178) (sz := 4) (psL T).toArray (by simp) rfl
    have b3 := boxAt_new ((w.alloc (.cells (psL S).toArray 178)).alloc (.cells (psL T).toArray 178)) (base := w.heap.size) (t := 178) (sz := 4) z4 (by simp; omega) rfl
    rw [World.size_alloc] at b2
    rw [World.size_alloc, World.size_alloc] at b3
    exact ⟨(b1.below (k1 _ _)).below (k1 _ _), b2.below (k1 _ _), b3, (((Below.refl _ _).alloc (Nat.le_refl _) _).alloc (by simp) _).alloc (by simp; omega) _⟩
  go_enter Tryz.func139, Tryz.ntmps139
  go_wp2_with fail
  go_loopw [6] (fun iv wr => ∃ k : Nat, k ≤ 4 ∧ iv = .int .i64 k ∧ Hid (BoxAt wr w.heap.size 178 4 w.heap.size (mixL (sAnd S T) S k) ∧ BoxAt wr w.heap.size 178 4 (w.heap.size + 1) (psL T) ∧ BoxAt wr w.heap.size 178 4 (w.heap.size + 1 + 1) z4.toList ∧ Below w.heap.size w wr)) (fun iv _ => 4 - (intOf iv).toNat)
  case atStart => exact ⟨0, by omega, rfl, by rw [mixL_zero]; exact HI.out⟩
  case round =>
    clear HI
    obtain ⟨k, hk, rfl, HJ⟩ := hrel
    by_cases hlt : k < 4
    · have zk : (k : Int) < 4 := by omega
      have c0 := HJ.out.1.cell (mixL_at (sAnd S T) S hlt)
      have c1 := HJ.out.2.1.cell (psL_at T hlt)
      have f0 := HJ.out.1.frozen k
      have wo := wd_and S T k
      go_upto_region 4 with fail
      refine wp_region_T 8 (fun wz => wz.cell? ⟨w.heap.size, k, none⟩ = some (.int .u64 (wdN S k : Int)) ∧ wz.cell? ⟨w.heap.size + 1, k, none⟩ = some (.int .u64 (wdN T k : Int))) (by kernel_rfl) ?_
      refine anyT_take (i := 0) (v := ?vca0) rfl (by kernel_rfl) (by kernel_rfl) (by kernel_rfl) (by kernel_rfl) (by decide) (fun _ _ _ h => h) (Or.inl ⟨by rfl, ?yca0⟩) ⟨by simpa using c0, by simpa using c1⟩ ?_
      case yca0 => (intro wz hSw; obtain ⟨d0, d1⟩ := hSw; go_simp; (try simp only [wo]); (try with_reducible rfl))
      try simp only [Act.put, List.getElem_toArray, List.getElem_cons_zero, List.getElem_cons_succ, List.setIfInBounds_toArray, List.set_cons_zero, List.set_cons_succ]
      refine anyT_take (i := 1) (v := ?vca1) rfl (by kernel_rfl) (by kernel_rfl) (by kernel_rfl) (by kernel_rfl) (by decide) (fun _ _ _ h => h) (Or.inl ⟨by rfl, ?yca1⟩) ⟨by simpa using c0, by simpa using c1⟩ ?_
      case yca1 => (intro wz hSw; obtain ⟨d0, d1⟩ := hSw; go_simp; (try simp only [wo]); (try with_reducible rfl))
      try simp only [Act.put, List.getElem_toArray, List.getElem_cons_zero, List.getElem_cons_succ, List.setIfInBounds_toArray, List.set_cons_zero, List.set_cons_succ]
      refine anyT_take (i := 2) (v := ?vca2) rfl (by kernel_rfl) (by kernel_rfl) (by kernel_rfl) (by kernel_rfl) (by decide) (fun _ _ _ h => h) (Or.inl ⟨by rfl, ?yca2⟩) ⟨by simpa using c0, by simpa using c1⟩ ?_
      case yca2 => (intro wz hSw; obtain ⟨d0, d1⟩ := hSw; go_simp; (try simp only [wo]); (try with_reducible rfl))
      try simp only [Act.put, List.getElem_toArray, List.getElem_cons_zero, List.getElem_cons_succ, List.setIfInBounds_toArray, List.set_cons_zero, List.set_cons_succ]
      refine anyT_take (i := 3) (v := ?vca3) rfl (by kernel_rfl) (by kernel_rfl) (by kernel_rfl) (by kernel_rfl) (by decide) (fun _ _ _ h => h) (Or.inl ⟨by rfl, ?yca3⟩) ⟨by simpa using c0, by simpa using c1⟩ ?_
      case yca3 => (intro wz hSw; obtain ⟨d0, d1⟩ := hSw; go_simp; (try simp only [wo]); (try with_reducible rfl))
      try simp only [Act.put, List.getElem_toArray, List.getElem_cons_zero, List.getElem_cons_succ, List.setIfInBounds_toArray, List.set_cons_zero, List.set_cons_succ]
      refine anyT_take (i := 4) (v := ?vca4) rfl (by kernel_rfl) (by kernel_rfl) (by kernel_rfl) (by kernel_rfl) (by decide) (fun _ _ _ h => h) (Or.inl ⟨by rfl, ?yca4⟩) ⟨by simpa using c0, by simpa using c1⟩ ?_
      case yca4 => (intro wz hSw; obtain ⟨d0, d1⟩ := hSw; go_simp; (try simp only [wo]); (try with_reducible rfl))
      try simp only [Act.put, List.getElem_toArray, List.getElem_cons_zero, List.getElem_cons_succ, List.setIfInBounds_toArray, List.set_cons_zero, List.set_cons_succ]
      refine anyT_take (i := 5) (v := ?vca5) rfl (by kernel_rfl) (by kernel_rfl) (by kernel_rfl) (by kernel_rfl) (by decide) (fun _ _ _ h => h) (Or.inl ⟨by rfl, ?yca5⟩) ⟨by simpa using c0, by simpa using c1⟩ ?_
      case yca5 => (intro wz hSw; obtain ⟨d0, d1⟩ := hSw; go_simp; (try simp only [wo]); (try with_reducible rfl))
      try simp only [Act.put, List.getElem_toArray, List.getElem_cons_zero, List.getElem_cons_succ, List.setIfInBounds_toArray, List.set_cons_zero, List.set_cons_succ]
      refine anyT_take (i := 6) (v := ?vca6) rfl (by kernel_rfl) (by kernel_rfl) (by kernel_rfl) (by kernel_rfl) (by decide) (fun _ _ _ h => h) (Or.inl ⟨by rfl, ?yca6⟩) ⟨by simpa using c0, by simpa using c1⟩ ?_
      case yca6 => (intro wz hSw; obtain ⟨d0, d1⟩ := hSw; go_simp; (try simp only [wo]); (try with_reducible rfl))
      try simp only [Act.put, List.getElem_toArray, List.getElem_cons_zero, List.getElem_cons_succ, List.setIfInBounds_toArray, List.set_cons_zero, List.set_cons_succ]
      refine anyT_take (i := 7) (v := ?vca7) rfl (by kernel_rfl) (by kernel_rfl) (by kernel_rfl) (by kernel_rfl) (by decide) (fun _ _ _ h => h) (Or.inl ⟨by rfl, ?yca7⟩) ⟨by simpa using c0, by simpa using c1⟩ ?_
      case yca7 => (intro wz hSw; obtain ⟨d0, d1⟩ := hSw; go_simp; (try simp only [wo]); (try with_reducible rfl))
      try simp only [Act.put, List.getElem_toArray, List.getElem_cons_zero, List.getElem_cons_succ, List.setIfInBounds_toArray, List.set_cons_zero, List.set_cons_succ]
      refine anyT_one (i := 8) (by kernel_rfl) rfl (fun K hK => ?_)
      go_simp
      refine hK.out _ _ (.inl rfl) ?_
      clear hK
      try simp only [Act.put, List.getElem_toArray, List.getElem_cons_zero, List.getElem_cons_succ, List.setIfInBounds_toArray, List.set_cons_zero, List.set_cons_succ]
      refine anyT_done (by kernel_rfl) ?_
      have HJ2 : Hid (BoxAt (wr.drew.setCell ⟨w.heap.size, k, none⟩ (.int .u64 (wdN (sAnd S T) k : Int))) w.heap.size 178 4 w.heap.size (mixL (sAnd S T) S (k + 1)) ∧ BoxAt (wr.drew.setCell ⟨w.heap.size, k, none⟩ (.int .u64 (wdN (sAnd S T) k : Int))) w.heap.size 178 4 (w.heap.size + 1) (psL T) ∧ BoxAt (wr.drew.setCell ⟨w.heap.size, k, none⟩ (.int .u64 (wdN (sAnd S T) k : Int))) w.heap.size 178 4 (w.heap.size + 1 + 1) z4.toList ∧ Below w.heap.size w (wr.drew.setCell ⟨w.heap.size, k, none⟩ (.int .u64 (wdN (sAnd S T) k : Int)))) := by
        have kd : Below wr.heap.size wr wr.drew := (Below.refl _ _).drew
        refine ⟨?_, (HJ.out.2.1.below kd).beside (by omega) _ _, (HJ.out.2.2.1.below kd).beside (by omega) _ _, below_set HJ.out.2.2.2.drew (Nat.le_refl _) _ _⟩
        rw [← mixL_set _ _ hlt]
        exact (HJ.out.1.below kd).set k _
      go_wp2_with fail
      refine ⟨⟨k + 1, by omega, by go_num, HJ2⟩, ?_⟩
      go_light
      simp [intOf]; omega
    · obtain rfl : k = 4 := by omega
      rw [mixL_all] at HJ
      have c0 := HJ.out.1.cell (j := 0) rfl
      have c1 := HJ.out.1.cell (j := 1) rfl
      have c2 := HJ.out.1.cell (j := 2) rfl
      have c3 := HJ.out.1.cell (j := 3) rfl
      have d0 := HJ.out.2.2.1.cell (j := 0) rfl
      have d1 := HJ.out.2.2.1.cell (j := 1) rfl
      have d2 := HJ.out.2.2.1.cell (j := 2) rfl
      have d3 := HJ.out.2.2.1.cell (j := 3) rfl
      have f0 := HJ.out.2.2.1.frozen 0
      have f1 := HJ.out.2.2.1.frozen 1
      have f2 := HJ.out.2.2.1.frozen 2
      have f3 := HJ.out.2.2.1.frozen 3
      have hlt2 : w.heap.size + 1 + 1 < wr.heap.size := HJ.out.2.2.1.lt.2
      go_wp2_with fail
      refine bodyPost_ret (v := psV (sAnd S T)) (by simp [results, Tryz.results139, go_sem, d0, d1, d2, d3]) rfl ⟨rfl, ?_⟩
      repeat (first | exact HJ.out.2.2.2 | refine Below.drew ?_ | refine below_set ?_ (by omega) _ _)
end Go.Proofs.YtkidabedcgngcaaGreatDoor

/-
  A matcher in memory.
-/
namespace Go.Proofs.YtkidabedcgngcaaGreatDoor
open Go.ChangeShapes Go.WideShapes Go.ChangeAt Go.RowKit Go.Deep
set_option linter.unusedVariables false
set_option linter.unusedSimpArgs false
set_option maxRecDepth 100000

/-- N values, told by a function. -/
def rngV (N : Nat) (f : Nat → Value) : List Value := (List.range N).map f
theorem rngV_len (N : Nat) (f : Nat → Value) : (rngV N f).length = N := by simp [rngV]
theorem rngV_get {N : Nat} {f : Nat → Value} {j : Nat} (h : j < N) : (rngV N f)[j]? = some (f j) := by simp [rngV, h]
theorem rngV_congr {N : Nat} {f g : Nat → Value} (h : ∀ i, i < N → f i = g i) : rngV N f = rngV N g := by
  unfold rngV
  refine List.map_congr_left (fun i hi => h i (by simpa using hi))
theorem rngV_set {N : Nat} {f : Nat → Value} {j : Nat} {v : Value} (h : j < N) : (rngV N f).set j v = rngV N (fun i => if i = j then v else f i) := by
  refine List.ext_getElem? (fun i => ?_)
  by_cases hi : i < N
  · rw [rngV_get hi]
    by_cases e : i = j
    · subst e; rw [List.getElem?_set_self (by rw [rngV_len]; exact hi)]; simp
    · rw [List.getElem?_set_ne (fun q => e q.symm), rngV_get hi]; simp [e]
  · rw [List.getElem?_eq_none (by simp [rngV_len]; omega), List.getElem?_eq_none (by simp [rngV_len]; omega)]
/-- A set stored. -/
def set4 (w : World) (g o : Nat) (S : PS) : World := (((w.setCell ⟨g, o, none⟩ (.int .u64 (wdN S 0 : Int))).setCell ⟨g, o + 1, none⟩ (.int .u64 (wdN S 1 : Int))).setCell ⟨g, o + 2, none⟩ (.int .u64 (wdN S 2 : Int))).setCell ⟨g, o + 3, none⟩ (.int .u64 (wdN S 3 : Int))
def setL4 (vs : List Value) (o : Nat) (S : PS) : List Value := (((vs.set o (.int .u64 (wdN S 0 : Int))).set (o + 1) (.int .u64 (wdN S 1 : Int))).set (o + 2) (.int .u64 (wdN S 2 : Int))).set (o + 3) (.int .u64 (wdN S 3 : Int))
theorem setL4_rng {N : Nat} {f : Nat → Value} {o : Nat} (S : PS) (h : o + 4 ≤ N) : setL4 (rngV N f) o S = rngV N (fun i => if o ≤ i ∧ i < o + 4 then .int .u64 (wdN S (i - o) : Int) else f i) := by
  unfold setL4
  rw [rngV_set (by omega), rngV_set (by omega), rngV_set (by omega), rngV_set (by omega)]
  refine rngV_congr (fun i hi => ?_)
  by_cases h1 : o ≤ i ∧ i < o + 4
  · rw [if_pos h1]
    rcases (by omega : i = o ∨ i = o + 1 ∨ i = o + 2 ∨ i = o + 3) with rfl | rfl | rfl | rfl
    · simp
    · simp
    · simp
    · simp
  · rw [if_neg h1, if_neg (by omega), if_neg (by omega), if_neg (by omega), if_neg (by omega)]
theorem own_set4 {w : World} {base e size : Nat} {g n cp : Nat} {xs : List Value} (h : w.ownsRow base e size (.slice (some ⟨g, 0, none⟩) n cp) n xs) (o : Nat) (S : PS) : (set4 w g o S).ownsRow base e size (.slice (some ⟨g, 0, none⟩) n cp) n (setL4 xs o S) :=
  (World.ownsRow.stored (World.ownsRow.stored (World.ownsRow.stored (World.ownsRow.stored h o _).1 (o + 1) _).1 (o + 2) _).1 (o + 3) _).1
theorem chg_set4 {S : Nat → Prop} (w : World) (g o : Nat) (X : PS) (hs : S g) : Chg S w (set4 w g o X) :=
  (((Chg.of_set w g o _ hs).trans (Chg.of_set _ g (o + 1) _ hs)).trans (Chg.of_set _ g (o + 2) _ hs)).trans (Chg.of_set _ g (o + 3) _ hs)
theorem size_set4 (w : World) (g o : Nat) (S : PS) : (set4 w g o S).heap.size = w.heap.size := by
  unfold set4; rw [size_set, size_set, size_set, size_set]
def eV (E : Nat → PS) (i : Nat) : Value := .int .u64 (wdN (E (i / 4)) (i % 4) : Int)
def mV (T : Nat → PS) (fv : Value) (en : PS) (mp : Nat) (i : Nat) : Value := if i < 1024 then eV T i else if i = 1024 then fv else if i < 1029 then .int .u64 (wdN en (i - 1025) : Int) else .map (some mp)
def updE (E : Nat → PS) (p : Nat) (S : PS) : Nat → PS := fun q => if q = p then S else E q
theorem eV_upd (E : Nat → PS) (p : Nat) (S : PS) (i : Nat) : (if 4 * p ≤ i ∧ i < 4 * p + 4 then Value.int .u64 (wdN S (i - 4 * p) : Int) else eV E i) = eV (updE E p S) i := by
  unfold eV updE
  by_cases h : 4 * p ≤ i ∧ i < 4 * p + 4
  · rw [if_pos h, if_pos (by omega), show i - 4 * p = i % 4 by omega]
  · rw [if_neg h, if_neg (by omega)]
/-- The matcher in block M: byte b is taken at T b, position p is followed by E p; positions below a are given out. -/
structure MtrI (w : World) (base M : Nat) (T : Nat → PS) (G cp a : Nat) (E : Nat → PS) (en : PS) (mp : Nat) : Prop where
  box : BoxAt w base 181 1030 M (rngV 1030 (mV T (.slice (some ⟨G, 0, none⟩) a cp) en mp))
  row : w.ownsRow base 178 4 (.slice (some ⟨G, 0, none⟩) a cp) a (rngV (4 * a) (eV E))
  new : ∀ p, a ≤ p → ∀ q, E p q = false
  tab : TabD w
  low : 1 < base
section
variable {w w' : World} {base M : Nat} {T : Nat → PS} {G cp a : Nat} {E : Nat → PS} {en : PS} {mp : Nat}
theorem MtrI.ltM (h : MtrI w base M T G cp a E en mp) : base ≤ M ∧ M < w.heap.size := h.box.lt
theorem MtrI.ltG (h : MtrI w base M T G cp a E en mp) : base ≤ G ∧ G < w.heap.size := World.ownsRow.lt h.row G rfl
theorem MtrI.ne (h : MtrI w base M T G cp a E en mp) : ¬ G = M := fun q => own_apart h.row h.box (by decide) G rfl (by rw [q]; rfl)
theorem MtrI.caps (h : MtrI w base M T G cp a E en mp) : a ≤ cp ∧ cp ≤ maxLen := by
  rcases h.row.2 with ⟨h0, _⟩ | ⟨g', cap', cur, hv, _, _, hn, hcap, _, _⟩
  · cases h0
  · simp at hv
    obtain ⟨rfl, rfl⟩ := hv
    exact ⟨hn, hcap⟩
theorem TabD.chg {S : Nat → Prop} (h : TabD w) (hc : Chg S w w') (hn : ¬ S 1) : TabD w' := fun j hj => by
  rw [hc.cell (p := ⟨1, j, none⟩) h.lt hn]; exact h j hj
theorem MtrI.chg {S : Nat → Prop} (h : MtrI w base M T G cp a E en mp) (hc : Chg S w w') (hM : ¬ S M) (hG : ¬ S G) (h0 : ∀ k, S k → base ≤ k) : MtrI w' base M T G cp a E en mp :=
  ⟨h.box.chg hc hM, own_chg h.row hc (fun k q => by simp [Value.ownBlock] at q; subst q; exact hG), h.new, h.tab.chg hc (fun q => by have := h0 _ q; have := h.low; omega), h.low⟩
theorem MtrI.below (h : MtrI w base M T G cp a E en mp) (hb : Below w.heap.size w w') : MtrI w' base M T G cp a E en mp := h.chg (S := fun _ => False) (Chg.of_below hb) (fun q => q) (fun q => q) (fun _ q => q.elim)
theorem MtrI.tk (h : MtrI w base M T G cp a E en mp) {b j : Nat} (hb : b < 256) (hj : j < 4) : w.cell? ⟨M, 4 * b + j, none⟩ = some (.int .u64 (wdN (T b) j : Int)) := by
  rw [h.box.cell (rngV_get (by omega))]
  unfold mV eV
  rw [if_pos (by omega), show (4 * b + j) / 4 = b by omega, show (4 * b + j) % 4 = j by omega]
theorem MtrI.fol (h : MtrI w base M T G cp a E en mp) : w.cell? ⟨M, 1024, none⟩ = some (.slice (some ⟨G, 0, none⟩) a cp) := by
  rw [h.box.cell (rngV_get (by omega))]; rfl
theorem MtrI.ends (h : MtrI w base M T G cp a E en mp) {j : Nat} (hj : j < 4) : w.cell? ⟨M, 1025 + j, none⟩ = some (.int .u64 (wdN en j : Int)) := by
  rw [h.box.cell (rngV_get (by omega))]
  unfold mV
  rw [if_neg (by omega), if_neg (by omega), if_pos (by omega), show 1025 + j - 1025 = j by omega]
theorem MtrI.map (h : MtrI w base M T G cp a E en mp) : w.cell? ⟨M, 1029, none⟩ = some (.map (some mp)) := by
  rw [h.box.cell (rngV_get (by omega))]; rfl
theorem MtrI.edge (h : MtrI w base M T G cp a E en mp) {p j : Nat} (hp : p < a) (hj : j < 4) : w.cell? ⟨G, 4 * p + j, none⟩ = some (.int .u64 (wdN (E p) j : Int)) := by
  rw [World.ownsRow.cellAt h.row (4 * p + j) (by omega), rngV_get (by omega)]
  unfold eV
  rw [show (4 * p + j) / 4 = p by omega, show (4 * p + j) % 4 = j by omega]
theorem MtrI.frzM (h : MtrI w base M T G cp a E en mp) (j : Nat) : w.frozen? ⟨M, j, none⟩ = false := h.box.frozen j
theorem MtrI.frzG (h : MtrI w base M T G cp a E en mp) (j : Nat) : w.frozen? ⟨G, j, none⟩ = false := World.ownsRow.frozenAt h.row j
theorem MtrI.setT (h : MtrI w base M T G cp a E en mp) {b : Nat} (hb : b < 256) (S : PS) : MtrI (set4 w M (4 * b) S) base M (updE T b S) G cp a E en mp := by
  have hc : Chg (fun k => k = M) w (set4 w M (4 * b) S) := chg_set4 w M (4 * b) S rfl
  refine ⟨?_, own_chg h.row hc (fun k q => by simp [Value.ownBlock] at q; subst q; exact h.ne), h.new, h.tab.chg hc (fun q => by have := h.ltM.1; have := h.low; omega), h.low⟩
  have h1 := own_set4 h.box (4 * b) S
  rw [setL4_rng S (by omega)] at h1
  have e : rngV 1030 (fun i => if 4 * b ≤ i ∧ i < 4 * b + 4 then .int .u64 (wdN S (i - 4 * b) : Int) else mV T (.slice (some ⟨G, 0, none⟩) a cp) en mp i) = rngV 1030 (mV (updE T b S) (.slice (some ⟨G, 0, none⟩) a cp) en mp) := by
    refine rngV_congr (fun i hi => ?_)
    unfold mV
    by_cases h1 : i < 1024
    · rw [if_pos h1, if_pos h1]; exact eV_upd T b S i
    · rw [if_neg h1, if_neg h1, if_neg (by omega)]
  rw [e] at h1
  exact h1
theorem MtrI.setE (h : MtrI w base M T G cp a E en mp) {p : Nat} (hp : p < a) (S : PS) : MtrI (set4 w G (4 * p) S) base M T G cp a (updE E p S) en mp := by
  have hc : Chg (fun k => k = G) w (set4 w G (4 * p) S) := chg_set4 w G (4 * p) S rfl
  refine ⟨h.box.chg hc (fun q => h.ne q.symm), ?_, fun q hq r => by unfold updE; rw [if_neg (by omega)]; exact h.new q hq r, h.tab.chg hc (fun q => by have := h.ltG.1; have := h.low; omega), h.low⟩
  have h1 := own_set4 h.row (4 * p) S
  rw [setL4_rng S (by omega), rngV_congr (fun i _ => eV_upd E p S i)] at h1
  exact h1
theorem MtrI.setEn (h : MtrI w base M T G cp a E en mp) (S : PS) : MtrI (set4 w M 1025 S) base M T G cp a E S mp := by
  have hc : Chg (fun k => k = M) w (set4 w M 1025 S) := chg_set4 w M 1025 S rfl
  refine ⟨?_, own_chg h.row hc (fun k q => by simp [Value.ownBlock] at q; subst q; exact h.ne), h.new, h.tab.chg hc (fun q => by have := h.ltM.1; have := h.low; omega), h.low⟩
  have h1 := own_set4 h.box 1025 S
  rw [setL4_rng S (by omega)] at h1
  have e : rngV 1030 (fun i => if 1025 ≤ i ∧ i < 1025 + 4 then .int .u64 (wdN S (i - 1025) : Int) else mV T (.slice (some ⟨G, 0, none⟩) a cp) en mp i) = rngV 1030 (mV T (.slice (some ⟨G, 0, none⟩) a cp) S mp) := by
    refine rngV_congr (fun i hi => ?_)
    unfold mV
    by_cases h1 : i < 1024
    · rw [if_neg (by omega), if_pos h1, if_pos h1]
    · by_cases h2 : i = 1024
      · rw [if_neg (by omega), if_neg h1, if_neg h1, if_pos h2, if_pos h2]
      · by_cases h3 : i < 1029
        · rw [if_pos (by omega), if_neg h1, if_neg h2, if_pos h3]
        · rw [if_neg (by omega), if_neg h1, if_neg h1, if_neg h2, if_neg h2, if_neg h3, if_neg h3]
  rw [e] at h1
  exact h1
/-- The row of follow grown, and its place stored anew. -/
theorem MtrI.grow (h : MtrI w base M T G cp a E en mp) {w1 : World} {G' cp' a' : Nat} (hg : w.grownBy w1 (some G)) (hr : w1.ownsRow base 178 4 (.slice (some ⟨G', 0, none⟩) a' cp') a' (rngV (4 * a') (eV E))) (ha : a ≤ a') : MtrI (w1.setCell ⟨M, 1024, none⟩ (.slice (some ⟨G', 0, none⟩) a' cp')) base M T G' cp' a' E en mp := by
  have hc : Chg (fun k => k = G) w w1 := Chg.of_grown hg (fun k q => by cases q; rfl)
  have hb := h.box.chg hc (fun q => h.ne q.symm)
  have hne : ¬ G' = M := fun q => own_apart hr hb (by decide) G' rfl (by rw [q]; rfl)
  have hc2 : Chg (fun k => k = M) w1 (w1.setCell ⟨M, 1024, none⟩ (.slice (some ⟨G', 0, none⟩) a' cp')) := Chg.of_set w1 M 1024 _ rfl
  refine ⟨?_, own_chg hr hc2 (fun k q => by simp [Value.ownBlock] at q; subst q; exact hne), fun p hp => h.new p (by omega), (h.tab.chg hc (fun q => by have := h.ltG.1; have := h.low; omega)).chg hc2 (fun q => by have := h.ltM.1; have := h.low; omega), h.low⟩
  have h1 := hb.set 1024 (.slice (some ⟨G', 0, none⟩) a' cp')
  rw [rngV_set (by omega)] at h1
  have e : rngV 1030 (fun i => if i = 1024 then .slice (some ⟨G', 0, none⟩) a' cp' else mV T (.slice (some ⟨G, 0, none⟩) a cp) en mp i) = rngV 1030 (mV T (.slice (some ⟨G', 0, none⟩) a' cp') en mp) := by
    refine rngV_congr (fun i hi => ?_)
    unfold mV
    by_cases h1 : i < 1024
    · rw [if_neg (by omega), if_pos h1, if_pos h1]
    · by_cases h2 : i = 1024
      · rw [if_pos h2, if_neg h1, if_pos h2]
      · rw [if_neg h2, if_neg h1, if_neg h1, if_neg h2, if_neg h2]
  rw [e] at h1
  exact h1
theorem MtrI.iff (h : MtrI w base M T G cp a E en mp) {T' E' : Nat → PS} (hT : ∀ b p, b < 256 → p < 256 → T' b p = T b p) (hE : ∀ q p, q < a → p < 256 → E' q p = E q p) (hn : ∀ p, a ≤ p → ∀ q, E' p q = false) : MtrI w base M T' G cp a E' en mp := by
  refine ⟨?_, ?_, hn, h.tab, h.low⟩
  · have e : rngV 1030 (mV T' (.slice (some ⟨G, 0, none⟩) a cp) en mp) = rngV 1030 (mV T (.slice (some ⟨G, 0, none⟩) a cp) en mp) := by
      refine rngV_congr (fun i hi => ?_)
      unfold mV
      by_cases h1 : i < 1024
      · rw [if_pos h1, if_pos h1]; unfold eV; rw [wdN_congr (fun p hp => hT (i / 4) p (by omega) hp) (by omega)]
      · rw [if_neg h1, if_neg h1]
    rw [e]; exact h.box
  · have e : rngV (4 * a) (eV E') = rngV (4 * a) (eV E) := by
      refine rngV_congr (fun i hi => ?_)
      unfold eV; rw [wdN_congr (fun p hp => hE (i / 4) p (by omega) hp) (by omega)]
    rw [e]; exact h.row
theorem MtrI.iffEn (h : MtrI w base M T G cp a E en mp) {en' : PS} (he : ∀ p, p < 256 → en' p = en p) : MtrI w base M T G cp a E en' mp := by
  refine ⟨?_, h.row, h.new, h.tab, h.low⟩
  have e : rngV 1030 (mV T (.slice (some ⟨G, 0, none⟩) a cp) en' mp) = rngV 1030 (mV T (.slice (some ⟨G, 0, none⟩) a cp) en mp) := by
    refine rngV_congr (fun i hi => ?_)
    unfold mV
    by_cases h1 : i < 1024
    · rw [if_pos h1, if_pos h1]
    · by_cases h2 : i = 1024
      · rw [if_neg h1, if_pos h2, if_neg h1, if_pos h2]
      · by_cases h3 : i < 1029
        · rw [if_neg h1, if_neg h2, if_pos h3, if_neg h1, if_neg h2, if_pos h3, wdN_congr he (by omega)]
        · rw [if_neg h1, if_neg h2, if_neg h3, if_neg h1, if_neg h2, if_neg h3]
  rw [e]; exact h.box
end
theorem Tryz.infoPs : (Tryz.prog.info? 178).map (fun i => (i.zero, i.size, i.bytes)) = some (some (.agg #[.int .u64 0, .int .u64 0, .int .u64 0, .int .u64 0]), 4, 32) := by kernel_rfl
theorem eV_snoc {E : Nat → PS} {a : Nat} (hE : ∀ q, E a q = false) : rngV (4 * a) (eV E) ++ z4.toList = rngV (4 * (a + 1)) (eV E) := by
  have hw : ∀ i, wdN (E a) i = 0 := fun i => by
    have : wdN (E a) i = wdN sNo i := ofB_congr (fun j _ => hE _)
    rw [this, wdN_no]
  have e : ∀ j, j < 4 → eV E (4 * a + j) = .int .u64 0 := fun j hj => by
    unfold eV; rw [show (4 * a + j) / 4 = a by omega, hw]; rfl
  have h4 : 4 * (a + 1) = 4 * a + 1 + 1 + 1 + 1 := by omega
  unfold rngV
  rw [h4, List.range_succ, List.range_succ, List.range_succ, List.range_succ]
  simp [e 0 (by omega), e 1 (by omega), e 2 (by omega), e 3 (by omega), show 4 * a + 1 + 1 = 4 * a + 2 by omega, show 4 * a + 1 + 1 + 1 = 4 * a + 3 by omega]
  have := e 0 (by omega)
  simpa using this.symm
/-- A set without members appended. -/
theorem wpList_append_ps {ops : Array Oper} {rest : List Oper} {o : Oper} {a : Act} {Q : Exit → Act → World → Prop} (w : World) (hgd : o.guard = none) (s x : Operand)
    (ho : o.op = .call { callee := .builtin .append, args := #[s, x], argTypes := #[175, 175] })
    (base r c k b cx : Nat) (E : Nat → PS) (hs : a.eval s = .slice (some ⟨r, 0, none⟩) k c) (hx : a.eval x = .slice (some ⟨b, 0, none⟩) 1 cx) (hO : w.ownsRow base 178 4 (.slice (some ⟨r, 0, none⟩) k c) k (rngV (4 * k) (eV E)))
    (hc : ∀ j, j < 4 → w.cell? ⟨b, j, none⟩ = some (.int .u64 0)) (hE : ∀ q, E k q = false) (hlen : k ≤ 2 ^ 20) (hbase : base ≤ w.heap.size)
    (h : ∀ r' c' w', w'.ownsRow base 178 4 (.slice (some ⟨r', 0, none⟩) (k + 1) c') (k + 1) (rngV (4 * (k + 1)) (eV E)) → w.grownBy w' (some r) → (r' = r ∨ r' = w.heap.size) → wpList Tryz.prog ops Q rest (a.put o.dst (.slice (some ⟨r', 0, none⟩) (k + 1) c')) w') : wpList Tryz.prog ops Q (o :: rest) a w := by
  obtain ⟨i, hi, hz0, hz1, hz2⟩ := info_parts Tryz.infoPs
  refine wpList_append_own_at w hgd s x 175 ho base 178 i _ 4 32 Tryz.underlying175 hi hz0 hz1 hz2 rfl (by decide) (.slice (some ⟨r, 0, none⟩) k c) k (rngV (4 * k) (eV E)) hs hO ⟨b, 0, none⟩ 1 cx z4.toList hx rfl (fun j u hu => ?_) (fun u hu => by simp at hu; subst hu; rfl) ?_ ?_ hbase ?_
  · have hj := (List.getElem?_eq_some_iff.1 hu).1
    have hj4 : j < 4 := by simpa using hj
    rcases (by omega : j = 0 ∨ j = 1 ∨ j = 2 ∨ j = 3) with rfl | rfl | rfl | rfl <;> (simp at hu; subst hu; exact hc _ hj4)
  · unfold maxLen; omega
  · omega
  · intro v' w' hO' hgr hnil hat
    rcases hO'.2 with ⟨h0, _⟩ | ⟨g', cap', cur, hv, _, _, hn, hcap, _, _⟩
    · have := (hnil.1 h0).1
      cases this
    · subst hv
      refine h g' cap' w' ?_ hgr ?_
      · rw [eV_snoc hE] at hO'
        exact hO'
      · simp [Value.ownBlock] at hat
        exact hat
end Go.Proofs.YtkidabedcgngcaaGreatDoor

/-
  newPosition, singleSpan.
-/
namespace Go.Proofs.YtkidabedcgngcaaGreatDoor
open Go.ChangeShapes Go.WideShapes Go.ChangeAt Go.RowKit Go.Deep
set_option linter.unusedVariables false
set_option linter.unusedSimpArgs false
set_option maxRecDepth 100000

abbrev spV (F L : PS) : Value := .agg #[.int .u64 (wdN F 0 : Int), .int .u64 (wdN F 1 : Int), .int .u64 (wdN F 2 : Int), .int .u64 (wdN F 3 : Int), .int .u64 (wdN L 0 : Int), .int .u64 (wdN L 1 : Int), .int .u64 (wdN L 2 : Int), .int .u64 (wdN L 3 : Int)]
def spL (F L : PS) : List Value := [.int .u64 (wdN F 0 : Int), .int .u64 (wdN F 1 : Int), .int .u64 (wdN F 2 : Int), .int .u64 (wdN F 3 : Int), .int .u64 (wdN L 0 : Int), .int .u64 (wdN L 1 : Int), .int .u64 (wdN L 2 : Int), .int .u64 (wdN L 3 : Int)]
/-- A span stored. -/
def setSp (w : World) (g : Nat) (F L : PS) : World := (((((((w.setCell ⟨g, 0, none⟩ (.int .u64 (wdN F 0 : Int))).setCell ⟨g, 1, none⟩ (.int .u64 (wdN F 1 : Int))).setCell ⟨g, 2, none⟩ (.int .u64 (wdN F 2 : Int))).setCell ⟨g, 3, none⟩ (.int .u64 (wdN F 3 : Int))).setCell ⟨g, 4, none⟩ (.int .u64 (wdN L 0 : Int))).setCell ⟨g, 5, none⟩ (.int .u64 (wdN L 1 : Int))).setCell ⟨g, 6, none⟩ (.int .u64 (wdN L 2 : Int))).setCell ⟨g, 7, none⟩ (.int .u64 (wdN L 3 : Int))
theorem size_setSp (w : World) (g : Nat) (F L : PS) : (setSp w g F L).heap.size = w.heap.size := by
  unfold setSp; simp only [size_set]
theorem BoxAt.setSp {w : World} {base t g : Nat} {vs : List Value} (h : BoxAt w base t 8 g vs) (F L : PS) : BoxAt (Go.Proofs.YtkidabedcgngcaaGreatDoor.setSp w g F L) base t 8 g (spL F L) := by
  have h1 := (((((((h.set 0 (.int .u64 (wdN F 0 : Int))).set 1 (.int .u64 (wdN F 1 : Int))).set 2 (.int .u64 (wdN F 2 : Int))).set 3 (.int .u64 (wdN F 3 : Int))).set 4 (.int .u64 (wdN L 0 : Int))).set 5 (.int .u64 (wdN L 1 : Int))).set 6 (.int .u64 (wdN L 2 : Int))).set 7 (.int .u64 (wdN L 3 : Int))
  have hl := h.len
  match vs, hl with
  | [_, _, _, _, _, _, _, _], _ => exact h1
theorem BoxAt.below_setSp {w w0 : World} {base B t g : Nat} {vs : List Value} (h : BoxAt w base t 8 g vs) (hb : Below B w0 w) (hB : B ≤ g) (F L : PS) : Below B w0 (Go.Proofs.YtkidabedcgngcaaGreatDoor.setSp w g F L) := by
  unfold Go.Proofs.YtkidabedcgngcaaGreatDoor.setSp
  exact below_set (below_set (below_set (below_set (below_set (below_set (below_set (below_set hb hB _ _) hB _ _) hB _ _) hB _ _) hB _ _) hB _ _) hB _ _) hB _ _
theorem chg_setSp {S : Nat → Prop} (w : World) (g : Nat) (F L : PS) (hs : S g) : Chg S w (setSp w g F L) :=
  (((((((Chg.of_set w g 0 _ hs).trans (Chg.of_set _ g 1 _ hs)).trans (Chg.of_set _ g 2 _ hs)).trans (Chg.of_set _ g 3 _ hs)).trans (Chg.of_set _ g 4 _ hs)).trans (Chg.of_set _ g 5 _ hs)).trans (Chg.of_set _ g 6 _ hs)).trans (Chg.of_set _ g 7 _ hs)
theorem span_res155 {w : World} {base g : Nat} {tmps : Array Value} {F L : PS} (ht : tmps[2]?.getD undef = .pointer (some ⟨g, 0, none⟩)) (h : BoxAt w base 183 8 g (spL F L)) : (results Tryz.f155 tmps).run Tryz.prog w = .ok (spV F L) w := by
  have p0 := h.cell (j := 0) rfl
  have p1 := h.cell (j := 1) rfl
  have p2 := h.cell (j := 2) rfl
  have p3 := h.cell (j := 3) rfl
  have p4 := h.cell (j := 4) rfl
  have p5 := h.cell (j := 5) rfl
  have p6 := h.cell (j := 6) rfl
  have p7 := h.cell (j := 7) rfl
  simp [results, Tryz.results155, ht, go_sem, p0, p1, p2, p3, p4, p5, p6, p7]
theorem span_res135 {w : World} {base g : Nat} {tmps : Array Value} {F L : PS} (ht : tmps[4]?.getD undef = .pointer (some ⟨g, 0, none⟩)) (h : BoxAt w base 183 8 g (spL F L)) : (results Tryz.f135 tmps).run Tryz.prog w = .ok (spV F L) w := by
  have p0 := h.cell (j := 0) rfl
  have p1 := h.cell (j := 1) rfl
  have p2 := h.cell (j := 2) rfl
  have p3 := h.cell (j := 3) rfl
  have p4 := h.cell (j := 4) rfl
  have p5 := h.cell (j := 5) rfl
  have p6 := h.cell (j := 6) rfl
  have p7 := h.cell (j := 7) rfl
  simp [results, Tryz.results135, ht, go_sem, p0, p1, p2, p3, p4, p5, p6, p7]
theorem span_res157 {w : World} {base g : Nat} {tmps : Array Value} {F L : PS} (ht : tmps[4]?.getD undef = .pointer (some ⟨g, 0, none⟩)) (h : BoxAt w base 183 8 g (spL F L)) : (results Tryz.f157 tmps).run Tryz.prog w = .ok (spV F L) w := by
  have p0 := h.cell (j := 0) rfl
  have p1 := h.cell (j := 1) rfl
  have p2 := h.cell (j := 2) rfl
  have p3 := h.cell (j := 3) rfl
  have p4 := h.cell (j := 4) rfl
  have p5 := h.cell (j := 5) rfl
  have p6 := h.cell (j := 6) rfl
  have p7 := h.cell (j := 7) rfl
  simp [results, Tryz.results157, ht, go_sem, p0, p1, p2, p3, p4, p5, p6, p7]
theorem span_res158 {w : World} {base g : Nat} {tmps : Array Value} {F L : PS} (ht : tmps[4]?.getD undef = .pointer (some ⟨g, 0, none⟩)) (h : BoxAt w base 183 8 g (spL F L)) : (results Tryz.f158 tmps).run Tryz.prog w = .ok (spV F L) w := by
  have p0 := h.cell (j := 0) rfl
  have p1 := h.cell (j := 1) rfl
  have p2 := h.cell (j := 2) rfl
  have p3 := h.cell (j := 3) rfl
  have p4 := h.cell (j := 4) rfl
  have p5 := h.cell (j := 5) rfl
  have p6 := h.cell (j := 6) rfl
  have p7 := h.cell (j := 7) rfl
  simp [results, Tryz.results158, ht, go_sem, p0, p1, p2, p3, p4, p5, p6, p7]
theorem psV_no : psV sNo = .agg #[.int .u64 0, .int .u64 0, .int .u64 0, .int .u64 0] := by simp only [psV, wdN_no]; rfl
set_option maxHeartbeats 4000000 in
theorem newPosition_core {base M : Nat} {T : Nat → PS} {G cp a : Nat} {E : Nat → PS} {en : PS} {mp : Nat} (w : World) (h : MtrI w base M T G cp a E en mp) (ha : a ≤ 300) : Calls Tryz.prog 154 #[.pointer (some ⟨M, 0, none⟩)] w fun e w' => ∃ G' cp', e = .returned (.int .i64 (a : Int)) ∧ Hid (MtrI w' base M T G' cp' (a + 1) E en mp ∧ Chg (fun k => k = M ∨ k = G) w w' ∧ (G' = G ∨ w.heap.size ≤ G')) := by
  have HM : Hid (MtrI w base M T G cp a E en mp) := h
  have c0 := h.fol
  have hcap := h.caps
  have hlM := h.ltM
  have hlG := h.ltG
  have hne := h.ne
  clear h
  go_enter Tryz.func154, Tryz.ntmps154
  go_wp2_with (at_builtin; refine wpList_append_ps _ rfl _ _ rfl base G cp a w.heap.size 1 E rfl rfl ?hO ?hc (HM.out.new a (Nat.le_refl _)) (by omega) ?hb ?_)
  case hO => exact (HM.out.below ((Below.refl _ _).alloc (Nat.le_refl _) _)).row
  case hc =>
    intro j hj
    rcases (by omega : j = 0 ∨ j = 1 ∨ j = 2 ∨ j = 3) with rfl | rfl | rfl | rfl <;> simp
  case hb => simp; omega
  intro G' cp' w2 hO hgr hat
  have hI : MtrI (w.alloc (.cells z4 178)) base M T G cp a E en mp := HM.out.below ((Below.refl _ _).alloc (Nat.le_refl _) _)
  have hC2 : Chg (fun k => k = G) (w.alloc (.cells z4 178)) w2 := Chg.of_grown hgr (fun k q => by cases q; rfl)
  have d0 : w2.cell? ⟨M, 1024, none⟩ = some (.slice (some ⟨G, 0, none⟩) a cp) := by rw [hC2.cell (p := ⟨M, 1024, none⟩) hI.ltM.2 (fun q => hne q.symm)]; exact hI.fol
  have d1 : w2.frozen? ⟨M, 1024, none⟩ = false := by rw [hC2.frozen (p := ⟨M, 1024, none⟩) hI.ltM.2 (fun q => hne q.symm)]; exact hI.frzM 1024
  have HF : Hid (MtrI (w2.setCell ⟨M, 1024, none⟩ (.slice (some ⟨G', 0, none⟩) (a + 1) cp')) base M T G' cp' (a + 1) E en mp ∧ Chg (fun k => k = M ∨ k = G) w (w2.setCell ⟨M, 1024, none⟩ (.slice (some ⟨G', 0, none⟩) (a + 1) cp')) ∧ (G' = G ∨ w.heap.size ≤ G')) := by
    refine ⟨hI.grow hgr hO (by omega), ?_, by rcases hat with q | q; exact .inl q; right; omega⟩
    have k1 : Chg (fun k => k = M ∨ k = G) w (w.alloc (.cells z4 178)) := Chg.of_below ((Below.refl _ _).alloc (Nat.le_refl _) _)
    exact (k1.trans (hC2.mono (fun k q => .inr q))).trans (Chg.of_set w2 M 1024 _ (.inl rfl))
  have hcap2 := HF.out.1.caps
  have e0 := HF.out.1.fol
  clear hO hgr hat hI hC2
  go_wp2_with fail
  go_ret
  refine ⟨G', cp', ?_, HF⟩
  go_num
set_option maxHeartbeats 4000000 in
theorem singleSpan_core (a : Nat) (ha : a < 256) (w : World) : Calls Tryz.prog 155 #[.int .i64 (a : Int)] w fun e w' => e = .returned (spV (sOne a) (sOne a)) ∧ Below w.heap.size w w' := by
  have hS : sOr sNo (sOne a) = sOne a := by funext p; simp [sOr, sNo]
  have HW : Hid (∀ wx : World, Calls Tryz.prog 137 #[.agg #[.int .u64 0, .int .u64 0, .int .u64 0, .int .u64 0], .int .i64 (a : Int)] wx fun e w' => e = .returned (psV (sOne a)) ∧ Below wx.heap.size wx w') := fun wx => by
    have := with_core sNo a ha wx
    rw [hS] at this
    rwa [psV_no] at this
  clear hS
  go_enter Tryz.func155, Tryz.ntmps155
  go_wp2_with fail
  refine (HW.out _).mono ?_
  rintro e w1 ⟨rfl, hb1⟩
  obtain ⟨W0, hW0⟩ : ∃ W0 : World, W0 = w.alloc (.cells #[.int .u64 0, .int .u64 0, .int .u64 0, .int .u64 0, .int .u64 0, .int .u64 0, .int .u64 0, .int .u64 0] 183) := ⟨_, rfl⟩
  have hB0 : BoxAt W0 w.heap.size 183 8 w.heap.size [.int .u64 0, .int .u64 0, .int .u64 0, .int .u64 0, .int .u64 0, .int .u64 0, .int .u64 0, .int .u64 0] := by rw [hW0]; exact boxAt_new w _ (Nat.le_refl _) rfl
  have hk0 : Below w.heap.size w W0 := by rw [hW0]; exact (Below.refl _ _).alloc (Nat.le_refl _) _
  rw [← hW0] at hb1
  have HB1 := hB0.below hb1
  have HK : Hid (Below w.heap.size w w1) := hk0.trans (hb1.mono hk0.size)
  have r0 := HB1.cell (j := 0) rfl
  have r1 := HB1.cell (j := 1) rfl
  have r2 := HB1.cell (j := 2) rfl
  have r3 := HB1.cell (j := 3) rfl
  have r4 := HB1.cell (j := 4) rfl
  have r5 := HB1.cell (j := 5) rfl
  have r6 := HB1.cell (j := 6) rfl
  have r7 := HB1.cell (j := 7) rfl
  have f0 := HB1.frozen 0
  have f1 := HB1.frozen 1
  have f2 := HB1.frozen 2
  have f3 := HB1.frozen 3
  have f4 := HB1.frozen 4
  have f5 := HB1.frozen 5
  have f6 := HB1.frozen 6
  have f7 := HB1.frozen 7
  have hlt := HB1.lt.2
  have HB : Hid (BoxAt w1 w.heap.size 183 8 w.heap.size [.int .u64 0, .int .u64 0, .int .u64 0, .int .u64 0, .int .u64 0, .int .u64 0, .int .u64 0, .int .u64 0]) := HB1
  clear hB0 hk0 hb1 hW0 HB1
  go_wp2_with fail
  refine bodyPost_ret (v := spV (sOne a) (sOne a)) (span_res155 (base := w.heap.size) (g := w.heap.size) rfl ((HB.out.setSp (sOne a) (sOne a)).below ((Below.refl _ _).alloc (Nat.le_refl _) _))) rfl ⟨rfl, ?_⟩
  exact (HB.out.below_setSp HK.out (Nat.le_refl _) (sOne a) (sOne a)).alloc (by rw [size_setSp]; exact Nat.le_of_lt hlt) _
end Go.Proofs.YtkidabedcgngcaaGreatDoor

/-
  The states of a matcher: a map keyed by sets of positions.
-/
namespace Go.Proofs.YtkidabedcgngcaaGreatDoor
open Go.ChangeShapes Go.WideShapes Go.ChangeAt Go.RowKit Go.Deep Go.Maps
set_option linter.unusedVariables false
set_option linter.unusedSimpArgs false
set_option maxRecDepth 100000

theorem psLaid : laidOutB Tryz.prog = true := by kernel_rfl
theorem rowPs : (178 : TypeId) < Tryz.prog.types.size := of_decide_eq_true (by kernel_rfl)
theorem widePs : (match Tryz.prog.underlying 178 with | some (.array _ _) | some (.struct _) => true | _ => false) = true := by kernel_rfl
theorem lawPs : Keyed Tryz.prog 178 := Keyed.of_law (deep_law_laid psLaid (m := 2) (by omega) rowPs (by kernel_rfl) widePs)
theorem psTypes : ∃ n, Tryz.prog.types.size = n + 1 := ⟨Tryz.prog.types.size - 1, by have h : (178 : Nat) < Tryz.prog.types.size := rowPs; omega⟩
def psK (S : PS) : Lit := .string (keyBytes [.int .u64 (wdN S 0 : Int), .int .u64 (wdN S 1 : Int), .int .u64 (wdN S 2 : Int), .int .u64 (wdN S 3 : Int)])
theorem wd_wf (S : PS) (i : Nat) : (Lit.int .u64 (wdN S i : Int)).wf = true := by
  have := wdN_lt S i
  simp [Lit.wf, IntKind.min, IntKind.max, IntKind.signed, IntKind.bits]
  omega
theorem keyPs (S : PS) : keyOf Tryz.prog 178 (psV S) = some (psK S) := by
  have h1 : Tryz.prog.keyType 178 = true := by kernel_rfl
  have h2 : Tryz.prog.cellsOf 178 = 4 := by kernel_rfl
  have h3 : Tryz.prog.cellsOf 49 = 1 := by kernel_rfl
  have h4 : List.range 4 = [0, 1, 2, 3] := rfl
  have w0 := wd_wf S 0
  have w1 := wd_wf S 1
  have w2 := wd_wf S 2
  have w3 := wd_wf S 3
  obtain ⟨n, hn⟩ := psTypes
  unfold keyOf
  rw [Tryz.underlying178]
  simp only [h1, Value.formed, Tryz.underlying178, h2, hn]
  simp [Program.keyLits, Tryz.underlying178, Tryz.underlying49, h2, h3, h4, Value.cells, psK, w0, w1, w2, w3]
theorem psK_inj {S S' : PS} (h : psK S = psK S') (p : Nat) (hp : p < 256) : S p = S' p := by
  unfold psK at h
  simp only [Lit.string.injEq] at h
  have e := keyBytes_inj (l := [.int .u64 (wdN S 0 : Int), .int .u64 (wdN S 1 : Int), .int .u64 (wdN S 2 : Int), .int .u64 (wdN S 3 : Int)]) (l' := [.int .u64 (wdN S' 0 : Int), .int .u64 (wdN S' 1 : Int), .int .u64 (wdN S' 2 : Int), .int .u64 (wdN S' 3 : Int)]) ⟨rfl, rfl, rfl, rfl, trivial⟩ (fun a ha => by
    simp only [List.mem_cons, List.not_mem_nil, or_false] at ha
    rcases ha with rfl | rfl | rfl | rfl <;> exact wd_wf S _) (fun a ha => by
    simp only [List.mem_cons, List.not_mem_nil, or_false] at ha
    rcases ha with rfl | rfl | rfl | rfl <;> exact wd_wf S' _) h
  simp at e
  refine words_inj (fun i hi => ?_) p hp
  rcases (by omega : i = 0 ∨ i = 1 ∨ i = 2 ∨ i = 3) with rfl | rfl | rfl | rfl
  · exact Int.ofNat.inj e.1
  · exact Int.ofNat.inj e.2.1
  · exact Int.ofNat.inj e.2.2.1
  · exact Int.ofNat.inj e.2.2.2
/-- A state as a value. -/
abbrev stV (A : PS) (b : Bool) : Value := .agg #[.int .u64 (wdN A 0 : Int), .int .u64 (wdN A 1 : Int), .int .u64 (wdN A 2 : Int), .int .u64 (wdN A 3 : Int), .bool b]
/-- What lies ahead of a set, from what follows each of its positions below k. -/
def ahdT (E : Nat → PS) (S : PS) (k : Nat) : PS := fun q => (List.range k).any (fun p => S p && E p q)
def ahd (E : Nat → PS) (S : PS) : PS := ahdT E S 256
def acc (en S : PS) : Bool := (List.range 256).any (fun p => S p && en p)
def RhS : Value → Option (DataW Value × List MemPlace) := fun v => some (.held v, [])
theorem RhS_eq {v : Value} {x : DataW Value} {ps : List MemPlace} (h : RhS v = some (x, ps)) : x = .held v ∧ ps = [] := by
  unfold RhS at h
  simp at h
  exact ⟨h.1.symm, h.2⟩
/-- Block mp is the map of states: what it holds is right. -/
def StI (w : World) (mp n : Nat) (E : Nat → PS) (en : PS) : Prop := ∃ D, w.ownsMap Tryz.prog 178 RhS mp n D ∧ ∀ S, Maps.has D (psK S) = false ∨ (Maps.has D (psK S) = true ∧ ∀ z, D.atKey (psK S) z = .held (stV (ahd E S) (acc en S)))
theorem StI.made {w : World} {mp : Nat} {E : Nat → PS} {en : PS} (h : w.heap[mp]? = some (.map #[] 0)) : StI w mp 0 E en := by
  refine ⟨.map [], ⟨#[], 0, h, ?_, by simp, by simp⟩, fun S => .inl rfl⟩
  obtain ⟨es, c, he, hf, _⟩ := World.ownsMap_made (H := Value) w Tryz.prog 178 RhS
  rw [World.alloc_heap_new] at he
  cases he
  exact hf
theorem StI.chg {S : Nat → Prop} {w w' : World} {mp n : Nat} {E : Nat → PS} {en : PS} (h : StI w mp n E en) (hc : Chg S w w') (hn : ¬ S mp) : StI w' mp n E en := by
  obtain ⟨D, ⟨es, c, h1, h2, h3, h4⟩, hk⟩ := h
  exact ⟨D, ⟨es, c, (hc.block mp (Array.getElem?_eq_some_iff.1 h1).1 hn).trans h1, h2, h3, h4⟩, hk⟩
theorem ahd_congr {E : Nat → PS} {S S' : PS} (h : ∀ p, p < 256 → S p = S' p) (k : Nat) (hk : k ≤ 256) : ahdT E S k = ahdT E S' k := by
  funext q
  unfold ahdT
  rw [Bool.eq_iff_iff, List.any_eq_true, List.any_eq_true]
  constructor
  · rintro ⟨p, hp, hx⟩
    exact ⟨p, hp, by rw [← h p (by have := List.mem_range.1 hp; omega)]; exact hx⟩
  · rintro ⟨p, hp, hx⟩
    exact ⟨p, hp, by rw [h p (by have := List.mem_range.1 hp; omega)]; exact hx⟩
theorem acc_congr {en S S' : PS} (h : ∀ p, p < 256 → S p = S' p) : acc en S = acc en S' := by
  unfold acc
  rw [Bool.eq_iff_iff, List.any_eq_true, List.any_eq_true]
  constructor
  · rintro ⟨p, hp, hx⟩
    exact ⟨p, hp, by rw [← h p (List.mem_range.1 hp)]; exact hx⟩
  · rintro ⟨p, hp, hx⟩
    exact ⟨p, hp, by rw [h p (List.mem_range.1 hp)]; exact hx⟩
theorem zeroSt (w : World) : (zeroValue 188).run Tryz.prog w = .ok (.agg #[.int .u64 0, .int .u64 0, .int .u64 0, .int .u64 0, .bool false]) w := by kernel_rfl
/-- The same with what the map reads as. -/
def StD (w : World) (mp n : Nat) (D : DataW Value) (E : Nat → PS) (en : PS) : Prop := w.ownsMap Tryz.prog 178 RhS mp n D ∧ ∀ S, Maps.has D (psK S) = false ∨ (Maps.has D (psK S) = true ∧ ∀ z, D.atKey (psK S) z = .held (stV (ahd E S) (acc en S)))
theorem StD.chg {S : Nat → Prop} {w w' : World} {mp n : Nat} {D : DataW Value} {E : Nat → PS} {en : PS} (h : StD w mp n D E en) (hc : Chg S w w') (hn : ¬ S mp) : StD w' mp n D E en := by
  obtain ⟨⟨es, c, h1, h2, h3, h4⟩, hk⟩ := h
  exact ⟨⟨es, c, (hc.block mp (Array.getElem?_eq_some_iff.1 h1).1 hn).trans h1, h2, h3, h4⟩, hk⟩
theorem StD.lt {w : World} {mp n : Nat} {D : DataW Value} {E : Nat → PS} {en : PS} (h : StD w mp n D E en) : mp < w.heap.size := by
  obtain ⟨⟨es, c, h1, h2, h3, h4⟩, hk⟩ := h
  exact (Array.getElem?_eq_some_iff.1 h1).1
theorem StD.ne {w : World} {mp n : Nat} {D : DataW Value} {E : Nat → PS} {en : PS} (h : StD w mp n D E en) {base t sz g : Nat} {k cp : Nat} {vs : List Value} (hb : w.ownsRow base t sz (.slice (some ⟨g, 0, none⟩) k cp) k vs) : ¬ mp = g := fun q => by
  obtain ⟨⟨es, c, h1, h2, h3, h4⟩, hk⟩ := h
  rcases hb.2 with ⟨h0, _⟩ | ⟨g', cap', cur, hv, _, hh, _⟩
  · cases h0
  · simp at hv
    rw [← hv.1, ← q, h1] at hh
    cases hh
/-- 'v, ok := m[set]'. -/
theorem StD.look_t {w : World} {mp n : Nat} {D : DataW Value} {E : Nat → PS} {en : PS} (h : StD w mp n D E en) (S : PS) (hh : Maps.has D (psK S) = true) : (Instr.lookup 176 (.map (some mp)) (psV S) true).run Tryz.prog w = .ok (.tuple #[stV (ahd E S) (acc en S), .bool true]) w := by
  obtain ⟨hD, hv⟩ := h
  obtain ⟨v, ps, hrun, hR⟩ := hD.look_ok lawPs Tryz.underlying176 (zeroSt w) (zd := .held (.agg #[.int .u64 0, .int .u64 0, .int .u64 0, .int .u64 0, .bool false])) (zp := []) rfl (keyPs S)
  have hR' := (RhS_eq hR).1
  rcases hv S with h2 | ⟨h2, h3⟩
  · rw [hh] at h2; cases h2
  · rw [h3] at hR'
    simp only [DataW.held.injEq] at hR'
    rw [← hR', h2] at hrun
    exact hrun
theorem StD.look_f {w : World} {mp n : Nat} {D : DataW Value} {E : Nat → PS} {en : PS} (h : StD w mp n D E en) (S : PS) (hh : Maps.has D (psK S) = false) : (Instr.lookup 176 (.map (some mp)) (psV S) true).run Tryz.prog w = .ok (.tuple #[.agg #[.int .u64 0, .int .u64 0, .int .u64 0, .int .u64 0, .bool false], .bool false]) w := by
  obtain ⟨hD, hv⟩ := h
  obtain ⟨v, ps, hrun, hR⟩ := hD.look_ok lawPs Tryz.underlying176 (zeroSt w) (zd := .held (.agg #[.int .u64 0, .int .u64 0, .int .u64 0, .int .u64 0, .bool false])) (zp := []) rfl (keyPs S)
  have hR' := (RhS_eq hR).1
  rw [Maps.atKey_of_not_has hh] at hR'
  simp only [DataW.held.injEq] at hR'
  rw [← hR', hh] at hrun
  exact hrun
theorem StI.look {w : World} {mp n : Nat} {E : Nat → PS} {en : PS} (h : StI w mp n E en) (S : PS) : (Instr.lookup 176 (.map (some mp)) (psV S) true).run Tryz.prog w = .ok (.tuple #[stV (ahd E S) (acc en S), .bool true]) w ∨ (Instr.lookup 176 (.map (some mp)) (psV S) true).run Tryz.prog w = .ok (.tuple #[.agg #[.int .u64 0, .int .u64 0, .int .u64 0, .int .u64 0, .bool false], .bool false]) w := by
  obtain ⟨D, hD, hv⟩ := h
  obtain ⟨v, ps, hrun, hR⟩ := hD.look_ok lawPs Tryz.underlying176 (zeroSt w) (zd := .held (.agg #[.int .u64 0, .int .u64 0, .int .u64 0, .int .u64 0, .bool false])) (zp := []) rfl (keyPs S)
  have hR' := (RhS_eq hR).1
  rcases hv S with h2 | ⟨h2, h3⟩
  · right
    rw [Maps.atKey_of_not_has h2] at hR'
    simp only [DataW.held.injEq] at hR'
    rw [← hR', h2] at hrun
    exact hrun
  · left
    rw [h3] at hR'
    simp only [DataW.held.injEq] at hR'
    rw [← hR', h2] at hrun
    exact hrun
theorem StI.len {w : World} {mp n : Nat} {E : Nat → PS} {en : PS} (h : StI w mp n E en) (ty : TypeId) : ∃ k : Nat, k ≤ n ∧ (Builtin.len_ #[176] ty #[.map (some mp)]).run Tryz.prog w = .ok (.int .i64 (k : Int)) w := by
  obtain ⟨D, hD, _⟩ := h
  exact ⟨_, hD.size_le, hD.len Tryz.underlying176 ty⟩
theorem StI.put {w : World} {mp n : Nat} {E : Nat → PS} {en : PS} (h : StI w mp n E en) (hn : n < maxLen) (S : PS) : ∃ w', (Instr.mapUpdate 176 (.map (some mp)) (psV S) (stV (ahd E S) (acc en S))).run Tryz.prog w = .ok () w' ∧ StI w' mp (n + 1) E en ∧ Chg (fun k => k = mp) w w' := by
  obtain ⟨D, hD, hv⟩ := h
  obtain ⟨w', hrun, ho, hg⟩ := hD.store lawPs Tryz.underlying176 hn (keyPs S) (val := stV (ahd E S) (acc en S)) (d := .held (stV (ahd E S) (acc en S))) (ps := []) rfl
  refine ⟨w', hrun, ⟨_, ho, fun S' => ?_⟩, Chg.of_grown hg.grown (fun k q => by cases q; rfl)⟩
  by_cases he : psK S' = psK S
  · have hp := psK_inj he
    rw [he, show ahd E S' = ahd E S from ahd_congr hp 256 (by omega), acc_congr hp]
    exact .inr ⟨Maps.has_put_same hD.isMap (lawPs.key (keyPs S)) _, fun z => Maps.atKey_put_same hD.isMap (lawPs.key (keyPs S)) _ z⟩
  · rcases hv S' with h2 | ⟨h2, h3⟩
    · exact .inl (by rw [Maps.has_put_other he]; exact h2)
    · exact .inr ⟨by rw [Maps.has_put_other he]; exact h2, fun z => by rw [Maps.atKey_put_other he]; exact h3 z⟩
end Go.Proofs.YtkidabedcgngcaaGreatDoor

/-
  A region that draws its order inside a round of a range over a function.
-/
namespace Go.Proofs.YtkidabedcgngcaaGreatDoor
open Go.ChangeShapes Go.WideShapes Go.ChangeAt Go.RowKit Go.Deep
set_option linter.unusedVariables false

section
variable {P : Program} {ops : Array Oper} {Q : Exit → Act → World → Prop} {md : Region.Mode} {S : World → Prop} {L : Nat} {l n : Nat}
theorem opIn_of {o : Oper} {a : Act} {w : World} {K : Act → World → Prop} (hd : ∀ c, o.op ≠ .defer c) (h : o.wp P a w K Q) : o.wpIn (Fence.wide.inRound l) n P a w K Q := by
  refine ⟨fun _ _ => trivial, ?_⟩
  rw [Oper.semAt_eq _ _ _ hd]
  unfold Oper.wp at h
  generalize (execOp a.eval o).run P w = r at *
  cases r with
  | ok x w' =>
    cases x with
    | value v => exact h
    | skip => exact h
    | defer d => exact h
    | enter f args => exact ⟨fun q => by simp [Fence.wide] at q, CallsIn.inRound l (callsIn_wide.2 h)⟩
    | row row args => exact ⟨fun q => by simp [Fence.wide] at q, fun c cs hr => let ⟨v, w'', r, s⟩ := h c cs; ⟨v, w'', r, stepsIn_wide.2 s⟩⟩
    | _ => exact h.elim
  | halt x w' => cases x <;> exact h
/-- No operation defers a call. -/
def noDefer (ops : Array Oper) : Bool := ops.all (fun o => match o.op with | .defer _ => false | _ => true)
theorem noDefer_spec (h : noDefer ops = true) {i : Nat} {o : Oper} (ho : ops[i]? = some o) (c : Call) : o.op ≠ .defer c := by
  intro q
  unfold noDefer at h
  rw [Array.all_eq_true] at h
  obtain ⟨hi, he⟩ := Array.getElem?_eq_some_iff.1 ho
  have := h i hi
  rw [he, q] at this
  cases this
theorem anyIn_of (hd : noDefer ops = true) (hno : ¬ LetsOut Q) : ∀ (fuel : Nat) (listed : Array Bool) (a : Act) (w : World), wpAny P md ops Q fuel listed a w → wpAnyIn (Fence.wide.inRound l) n P md ops Q fuel listed a w
  | 0, _, _, _, h => h
  | fuel + 1, listed, a, w, h => by
    refine ⟨h.1, fun i hi => ?_⟩
    have h1 := h.2 i hi
    unfold wpOp at h1
    unfold wpOpIn
    cases ho : ops[i]? with
    | none =>
      rw [ho] at h1
      exact anyIn_of hd hno fuel _ a w h1
    | some o =>
      rw [ho] at h1
      simp only at h1 ⊢
      split
      · next hw =>
        rw [if_pos hw] at h1
        rcases h1 with h1 | ⟨_, h1⟩
        · exact Oper.wpIn_mono (fun a w q => anyIn_of hd hno fuel _ a w q) (opIn_of (noDefer_spec hd ho) h1)
        · exact (hno h1).elim
      · next hw =>
        rw [if_neg hw] at h1
        exact ⟨fun _ _ => trivial, anyIn_of hd hno fuel _ _ w h1⟩
theorem wpIn_region_T {id : Nat} {a : Act} {w : World} (L : Nat) (S : World → Prop) (hm : P.follows .mixedOrders = true) (hd : noDefer ops = true) (hno : ¬ LetsOut Q)
    (h : AnyT P .any ops Q S L ops.size (Array.replicate ops.size false) a w.drew) : (Code.region id ops true).wpIn (Fence.wide.inRound l) n P Q a w :=
  wpIn_region_any hm (anyIn_of hd hno _ _ _ _ (any_of_T _ _ _ _ h))
end
end Go.Proofs.YtkidabedcgngcaaGreatDoor

