import Derived.Test.YtkidabedcgngcaaGreatDoorPkAM
import Derived.Test.YtkidabedcgngcaaGreatDoorPkAK
import Derived.Test.YtkidabedcgngcaaGreatDoorPkAD
/-
  state, where it is not known.
-/
namespace Go.Proofs.YtkidabedcgngcaaGreatDoor
open Go.ChangeShapes Go.WideShapes Go.ChangeAt Go.RowKit Go.Deep Go.Shelf
set_option linter.unusedVariables false
set_option linter.unusedSimpArgs false
set_option maxRecDepth 100000
attribute [local go_sem] Oper.semAt_some

theorem ahdT_skip {E : Nat → PS} {S : PS} {k k' : Nat} (hk : k ≤ k') (h : ∀ j, k ≤ j → j < k' → S j = false) : ahdT E S k' = ahdT E S k := by
  funext q
  unfold ahdT
  rw [Bool.eq_iff_iff, List.any_eq_true, List.any_eq_true]
  constructor
  · rintro ⟨p, hp, hx⟩
    have hp := List.mem_range.1 hp
    refine ⟨p, List.mem_range.2 ?_, hx⟩
    apply Classical.byContradiction
    intro hn
    rw [h p (by omega) hp] at hx
    cases hx
  · rintro ⟨p, hp, hx⟩
    exact ⟨p, List.mem_range.2 (by have := List.mem_range.1 hp; omega), hx⟩
theorem ahdT_succ {E : Nat → PS} {S : PS} {k x : Nat} (hk : k ≤ x) (hS : S x = true) (h : ∀ j, k ≤ j → j < x → S j = false) : ahdT E S (x + 1) = sOr (ahdT E S k) (E x) := by
  rw [← ahdT_skip hk h]
  funext q
  simp [ahdT, sOr, List.range_succ, List.any_append, hS]
theorem box_mapD {w : World} {mp n : Nat} {D : DataW Value} {E : Nat → PS} {en : PS} (h : StD w mp n D E en) {base t sz g : Nat} {vs : List Value} (hb : BoxAt w base t sz g vs) : ¬ g = mp := fun q => h.ne hb q.symm
theorem chg_ownS {Z : Nat → Prop} {w w5 w6 : World} (hx : Chg Z w w5) (hc : Chg (fun k => w.heap.size ≤ k) w5 w6) : Chg Z w w6 :=
  ⟨hc.os.trans hx.os, hc.tape.trans hx.tape, hc.output.trans hx.output, Nat.le_trans hx.size hc.size, fun j hj hn => (hc.block j (Nat.lt_of_lt_of_le hj hx.size) (by omega)).trans (hx.block j hj hn)⟩
/-- The range over the members of a set in state. -/
structure RaI (w : World) (base M : Nat) (T : Nat → PS) (G cp a : Nat) (E : Nat → PS) (en : PS) (mp n : Nat) (D : DataW Value) (S : PS) (b7 k : Nat) (W4 W : World) : Prop where
  st : StB w W base M T G cp a E en mp n D S
  made : BoxAt W w.heap.size 188 5 b7 (stL (ahdT E S k) (acc en S))
  low : Below w.heap.size w W
  size : W4.heap.size ≤ W.heap.size
set_option maxHeartbeats 8000000 in
theorem state_new {base M : Nat} {T : Nat → PS} {G cp a : Nat} {E : Nat → PS} {en : PS} {mp n : Nat} {D : DataW Value} (S : PS) (w : World) (h : MtrI w base M T G cp a E en mp) (hm : StD w mp n D E en) (hh : Maps.has D (psK S) = false) (hS : ∀ p, S p = true → p < a) (ha : a ≤ 256) (hn : n < 900) (hbm : base ≤ mp) : Calls Tryz.prog 138 #[.pointer (some ⟨M, 0, none⟩), psV S] w (StP base M T G cp a E en mp n S w) := by
  obtain ⟨W0, hW0⟩ : ∃ W0 : World, W0 = ((w.alloc (.cells #[.pointer (some ⟨M, 0, none⟩)] 109)).alloc (.cells (psL S).toArray 178)).alloc (.cells z5 188) := ⟨_, rfl⟩
  have HW0 : Hid (StB w W0 base M T G cp a E en mp n D S ∧ Below w.heap.size w W0) := by rw [hW0]; exact st_start S w h hm
  have HH : Hid (Maps.has D (psK S) = false) := hh
  have HLo : Hid (base ≤ w.heap.size) := by show _ ≤ _; have := h.ltM; omega
  have HS : Hid (∀ p, S p = true → p < a) := hS
  have HLp : Hid (base ≤ mp) := hbm
  clear h hm hh hS
  refine (callsIn_wide (n := 9)).1 ?_
  refine callsIn_of_wp_marks Tryz.func138 rfl trivial ?_ rfl
  simp only [Tryz.ntmps138, List.size_toArray, List.length_cons, List.length_nil, Nat.reduceAdd, Nat.reduceSub, Array.replicate_succ, Array.replicate_zero, List.push_toArray, List.append_toArray, List.nil_append, List.cons_append]
  gi_wp2
  have hW0' := hW0
  simp only [psL, z5] at hW0'
  rw [← hW0']
  clear hW0 hW0'
  have hSB : ∀ X, StB w X base M T G cp a E en mp n D S → (X.cell? ⟨w.heap.size, 0, none⟩ = some (.pointer (some ⟨M, 0, none⟩)) ∧ X.cell? ⟨M, 1029, none⟩ = some (.map (some mp)) ∧ X.cell? ⟨w.heap.size + 1, 0, none⟩ = some (.int .u64 (wdN S 0 : Int)) ∧ X.cell? ⟨w.heap.size + 1, 1, none⟩ = some (.int .u64 (wdN S 1 : Int)) ∧ X.cell? ⟨w.heap.size + 1, 2, none⟩ = some (.int .u64 (wdN S 2 : Int)) ∧ X.cell? ⟨w.heap.size + 1, 3, none⟩ = some (.int .u64 (wdN S 3 : Int)) ∧ StD X mp n D E en) := fun X h => ⟨h.ptr.cell (j := 0) rfl, h.mtr.map, h.set.cell (j := 0) rfl, h.set.cell (j := 1) rfl, h.set.cell (j := 2) rfl, h.set.cell (j := 3) rfl, h.map⟩
  have HSB : Hid (∀ X, StB w X base M T G cp a E en mp n D S → (X.cell? ⟨w.heap.size, 0, none⟩ = some (.pointer (some ⟨M, 0, none⟩)) ∧ X.cell? ⟨M, 1029, none⟩ = some (.map (some mp)) ∧ X.cell? ⟨w.heap.size + 1, 0, none⟩ = some (.int .u64 (wdN S 0 : Int)) ∧ X.cell? ⟨w.heap.size + 1, 1, none⟩ = some (.int .u64 (wdN S 1 : Int)) ∧ X.cell? ⟨w.heap.size + 1, 2, none⟩ = some (.int .u64 (wdN S 2 : Int)) ∧ X.cell? ⟨w.heap.size + 1, 3, none⟩ = some (.int .u64 (wdN S 3 : Int)) ∧ StD X mp n D E en)) := hSB
  have HD : Hid (StB w W0.drew base M T G cp a E en mp n D S) := HW0.out.1.below ((Below.refl _ _).drew)
  clear hSB
  refine wpIn_wide.2 ?_
  refine wp_region_noPanic ?_
  refine wp_region_T 99 (fun wz => wz.cell? ⟨w.heap.size, 0, none⟩ = some (.pointer (some ⟨M, 0, none⟩)) ∧ wz.cell? ⟨M, 1029, none⟩ = some (.map (some mp)) ∧ wz.cell? ⟨w.heap.size + 1, 0, none⟩ = some (.int .u64 (wdN S 0 : Int)) ∧ wz.cell? ⟨w.heap.size + 1, 1, none⟩ = some (.int .u64 (wdN S 1 : Int)) ∧ wz.cell? ⟨w.heap.size + 1, 2, none⟩ = some (.int .u64 (wdN S 2 : Int)) ∧ wz.cell? ⟨w.heap.size + 1, 3, none⟩ = some (.int .u64 (wdN S 3 : Int)) ∧ StD wz mp n D E en) (by kernel_rfl) ?_
  refine anyT_takeN (i := 0) (v := ?vkf0) rfl (by kernel_rfl) (by kernel_rfl) (by kernel_rfl) (by rfl) (fun _ _ _ h => h) (Or.inl ⟨by rfl, ?ykf0⟩) (HSB.out _ HD.out) ?_
  case ykf0 => (intro wz hSw; obtain ⟨d0, d1, d2, d3, d4, d5, d6⟩ := hSw; have hlk := d6.look_f S HH.out; go_simp; (try with_reducible rfl))
  try simp only [Act.put, List.getElem_toArray, List.getElem_cons_zero, List.getElem_cons_succ, List.setIfInBounds_toArray, List.set_cons_zero, List.set_cons_succ]
  refine anyT_takeN (i := 1) (v := ?vkf1) rfl (by kernel_rfl) (by kernel_rfl) (by kernel_rfl) (by rfl) (fun _ _ _ h => h) (Or.inl ⟨by rfl, ?ykf1⟩) (HSB.out _ HD.out) ?_
  case ykf1 => (intro wz hSw; obtain ⟨d0, d1, d2, d3, d4, d5, d6⟩ := hSw; have hlk := d6.look_f S HH.out; go_simp; (try with_reducible rfl))
  try simp only [Act.put, List.getElem_toArray, List.getElem_cons_zero, List.getElem_cons_succ, List.setIfInBounds_toArray, List.set_cons_zero, List.set_cons_succ]
  refine anyT_takeN (i := 2) (v := ?vkf2) rfl (by kernel_rfl) (by kernel_rfl) (by kernel_rfl) (by rfl) (fun _ _ _ h => h) (Or.inl ⟨by rfl, ?ykf2⟩) (HSB.out _ HD.out) ?_
  case ykf2 => (intro wz hSw; obtain ⟨d0, d1, d2, d3, d4, d5, d6⟩ := hSw; have hlk := d6.look_f S HH.out; go_simp; (try with_reducible rfl))
  try simp only [Act.put, List.getElem_toArray, List.getElem_cons_zero, List.getElem_cons_succ, List.setIfInBounds_toArray, List.set_cons_zero, List.set_cons_succ]
  refine anyT_takeN (i := 3) (v := ?vkf3) rfl (by kernel_rfl) (by kernel_rfl) (by kernel_rfl) (by rfl) (fun _ _ _ h => h) (Or.inl ⟨by rfl, ?ykf3⟩) (HSB.out _ HD.out) ?_
  case ykf3 => (intro wz hSw; obtain ⟨d0, d1, d2, d3, d4, d5, d6⟩ := hSw; have hlk := d6.look_f S HH.out; go_simp; (try with_reducible rfl))
  try simp only [Act.put, List.getElem_toArray, List.getElem_cons_zero, List.getElem_cons_succ, List.setIfInBounds_toArray, List.set_cons_zero, List.set_cons_succ]
  refine anyT_takeN (i := 4) (v := ?vkf4) rfl (by kernel_rfl) (by kernel_rfl) (by kernel_rfl) (by rfl) (fun _ _ _ h => h) (Or.inl ⟨by rfl, ?ykf4⟩) (HSB.out _ HD.out) ?_
  case ykf4 => (intro wz hSw; obtain ⟨d0, d1, d2, d3, d4, d5, d6⟩ := hSw; have hlk := d6.look_f S HH.out; go_simp; (try with_reducible rfl))
  try simp only [Act.put, List.getElem_toArray, List.getElem_cons_zero, List.getElem_cons_succ, List.setIfInBounds_toArray, List.set_cons_zero, List.set_cons_succ]
  refine anyT_takeN (i := 5) (v := ?vkf5) rfl (by kernel_rfl) (by kernel_rfl) (by kernel_rfl) (by rfl) (fun _ _ _ h => h) (Or.inl ⟨by rfl, ?ykf5⟩) (HSB.out _ HD.out) ?_
  case ykf5 => (intro wz hSw; obtain ⟨d0, d1, d2, d3, d4, d5, d6⟩ := hSw; have hlk := d6.look_f S HH.out; go_simp; (try with_reducible rfl))
  try simp only [Act.put, List.getElem_toArray, List.getElem_cons_zero, List.getElem_cons_succ, List.setIfInBounds_toArray, List.set_cons_zero, List.set_cons_succ]
  refine anyT_takeN (i := 6) (v := ?vkf6) rfl (by kernel_rfl) (by kernel_rfl) (by kernel_rfl) (by rfl) (fun _ _ _ h => h) (Or.inl ⟨by rfl, ?ykf6⟩) (HSB.out _ HD.out) ?_
  case ykf6 => (intro wz hSw; obtain ⟨d0, d1, d2, d3, d4, d5, d6⟩ := hSw; have hlk := d6.look_f S HH.out; go_simp; (try with_reducible rfl))
  try simp only [Act.put, List.getElem_toArray, List.getElem_cons_zero, List.getElem_cons_succ, List.setIfInBounds_toArray, List.set_cons_zero, List.set_cons_succ]
  refine anyT_takeN (i := 7) (v := ?vkf7) rfl (by kernel_rfl) (by kernel_rfl) (by kernel_rfl) (by rfl) (fun _ _ _ h => h) (Or.inl ⟨by rfl, ?ykf7⟩) (HSB.out _ HD.out) ?_
  case ykf7 => (intro wz hSw; obtain ⟨d0, d1, d2, d3, d4, d5, d6⟩ := hSw; have hlk := d6.look_f S HH.out; go_simp; (try with_reducible rfl))
  try simp only [Act.put, List.getElem_toArray, List.getElem_cons_zero, List.getElem_cons_succ, List.setIfInBounds_toArray, List.set_cons_zero, List.set_cons_succ]
  refine anyT_takeN (i := 8) (v := ?vkf8) rfl (by kernel_rfl) (by kernel_rfl) (by kernel_rfl) (by rfl) (fun _ _ _ h => h) (Or.inl ⟨by rfl, ?ykf8⟩) (HSB.out _ HD.out) ?_
  case ykf8 => (intro wz hSw; obtain ⟨d0, d1, d2, d3, d4, d5, d6⟩ := hSw; have hlk := d6.look_f S HH.out; go_simp; (try with_reducible rfl))
  try simp only [Act.put, List.getElem_toArray, List.getElem_cons_zero, List.getElem_cons_succ, List.setIfInBounds_toArray, List.set_cons_zero, List.set_cons_succ]
  refine anyT_one (i := 9) (by kernel_rfl) rfl (fun K hK => ?_)
  go_simp
  refine hK.out _ _ (.inr (HSB.out _ (HW0.out.1.below (by repeat (first | exact Below.refl _ _ | refine Below.drew ?_ | refine Below.alloc ?_ (Nat.le_refl _) _ | refine below_set ?_ (Nat.le_refl _) _ _))))) ?_
  clear hK
  try simp only [Act.put, List.getElem_toArray, List.getElem_cons_zero, List.getElem_cons_succ, List.setIfInBounds_toArray, List.set_cons_zero, List.set_cons_succ]
  refine anyT_one (i := 10) (by kernel_rfl) rfl (fun K hK => ?_)
  go_simp
  refine hK.out _ _ (.inr (HSB.out _ (HW0.out.1.below (by repeat (first | exact Below.refl _ _ | refine Below.drew ?_ | refine Below.alloc ?_ (Nat.le_refl _) _ | refine below_set ?_ (Nat.le_refl _) _ _))))) ?_
  clear hK
  try simp only [Act.put, List.getElem_toArray, List.getElem_cons_zero, List.getElem_cons_succ, List.setIfInBounds_toArray, List.set_cons_zero, List.set_cons_succ]
  refine anyT_one (i := 11) (by kernel_rfl) rfl (fun K hK => ?_)
  go_simp
  refine hK.out _ _ (.inr (HSB.out _ (HW0.out.1.below (by repeat (first | exact Below.refl _ _ | refine Below.drew ?_ | refine Below.alloc ?_ (Nat.le_refl _) _ | refine below_set ?_ (Nat.le_refl _) _ _))))) ?_
  clear hK
  try simp only [Act.put, List.getElem_toArray, List.getElem_cons_zero, List.getElem_cons_succ, List.setIfInBounds_toArray, List.set_cons_zero, List.set_cons_succ]
  refine anyT_done (by kernel_rfl) ?_
  dsimp only [NoPanic]
  obtain ⟨W1, hW1⟩ : ∃ W1 : World, W1 = (W0.alloc (.cells z5 188)).drew := ⟨_, rfl⟩
  have k1 : Below W0.heap.size W0 W1 := by rw [hW1]; exact ((Below.refl _ _).alloc (Nat.le_refl _) _).drew
  have s0 := HW0.out.2.size
  have HW1 : Hid (StB w W1 base M T G cp a E en mp n D S ∧ Below w.heap.size w W1) := ⟨HW0.out.1.below k1, HW0.out.2.trans (k1.mono s0)⟩
  have hW1' := hW1
  simp only [z5] at hW1'
  rw [← hW1']
  clear hW1 hW1' k1 HD HSB
  have heq := ps_equal (sAnd S en)
  have HCm : Hid (∀ wx : World, Calls Tryz.prog 139 #[psV S, psV en] wx fun e w' => e = .returned (psV (sAnd S en)) ∧ Below wx.heap.size wx w') := fun wx => common_core S en wx
  have HSC : Hid (∀ X, StB w X base M T G cp a E en mp n D S → (X.cell? ⟨w.heap.size, 0, none⟩ = some (.pointer (some ⟨M, 0, none⟩)) ∧ X.cell? ⟨w.heap.size + 1, 0, none⟩ = some (.int .u64 (wdN S 0 : Int)) ∧ X.cell? ⟨w.heap.size + 1, 1, none⟩ = some (.int .u64 (wdN S 1 : Int)) ∧ X.cell? ⟨w.heap.size + 1, 2, none⟩ = some (.int .u64 (wdN S 2 : Int)) ∧ X.cell? ⟨w.heap.size + 1, 3, none⟩ = some (.int .u64 (wdN S 3 : Int)) ∧ X.cell? ⟨M, 1025, none⟩ = some (.int .u64 (wdN en 0 : Int)) ∧ X.cell? ⟨M, 1026, none⟩ = some (.int .u64 (wdN en 1 : Int)) ∧ X.cell? ⟨M, 1027, none⟩ = some (.int .u64 (wdN en 2 : Int)) ∧ X.cell? ⟨M, 1028, none⟩ = some (.int .u64 (wdN en 3 : Int)))) := fun X h => ⟨h.ptr.cell (j := 0) rfl, h.set.cell (j := 0) rfl, h.set.cell (j := 1) rfl, h.set.cell (j := 2) rfl, h.set.cell (j := 3) rfl, h.mtr.ends (j := 0) (by omega), h.mtr.ends (j := 1) (by omega), h.mtr.ends (j := 2) (by omega), h.mtr.ends (j := 3) (by omega)⟩
  have HD : Hid (StB w W1.drew base M T G cp a E en mp n D S) := HW1.out.1.below ((Below.refl _ _).drew)
  gi_wp2
  refine wpIn_wide.2 ?_
  refine wp_region_noPanic ?_
  refine wp_region_T 99 (fun wz => wz.cell? ⟨w.heap.size, 0, none⟩ = some (.pointer (some ⟨M, 0, none⟩)) ∧ wz.cell? ⟨w.heap.size + 1, 0, none⟩ = some (.int .u64 (wdN S 0 : Int)) ∧ wz.cell? ⟨w.heap.size + 1, 1, none⟩ = some (.int .u64 (wdN S 1 : Int)) ∧ wz.cell? ⟨w.heap.size + 1, 2, none⟩ = some (.int .u64 (wdN S 2 : Int)) ∧ wz.cell? ⟨w.heap.size + 1, 3, none⟩ = some (.int .u64 (wdN S 3 : Int)) ∧ wz.cell? ⟨M, 1025, none⟩ = some (.int .u64 (wdN en 0 : Int)) ∧ wz.cell? ⟨M, 1026, none⟩ = some (.int .u64 (wdN en 1 : Int)) ∧ wz.cell? ⟨M, 1027, none⟩ = some (.int .u64 (wdN en 2 : Int)) ∧ wz.cell? ⟨M, 1028, none⟩ = some (.int .u64 (wdN en 3 : Int))) (by kernel_rfl) ?_
  refine anyT_takeN (i := 0) (v := ?vq0) rfl (by kernel_rfl) (by kernel_rfl) (by kernel_rfl) (by rfl) (fun _ _ _ h => h) (Or.inl ⟨by rfl, ?yq0⟩) (HSC.out _ HD.out) ?_
  case yq0 => (intro wz hSw; obtain ⟨d0, d1, d2, d3, d4, d5, d6, d7, d8⟩ := hSw; go_simp; (try with_reducible rfl))
  try simp only [Act.put, List.getElem_toArray, List.getElem_cons_zero, List.getElem_cons_succ, List.setIfInBounds_toArray, List.set_cons_zero, List.set_cons_succ]
  refine anyT_takeN (i := 1) (v := ?vq1) rfl (by kernel_rfl) (by kernel_rfl) (by kernel_rfl) (by rfl) (fun _ _ _ h => h) (Or.inl ⟨by rfl, ?yq1⟩) (HSC.out _ HD.out) ?_
  case yq1 => (intro wz hSw; obtain ⟨d0, d1, d2, d3, d4, d5, d6, d7, d8⟩ := hSw; go_simp; (try with_reducible rfl))
  try simp only [Act.put, List.getElem_toArray, List.getElem_cons_zero, List.getElem_cons_succ, List.setIfInBounds_toArray, List.set_cons_zero, List.set_cons_succ]
  refine anyT_takeN (i := 2) (v := ?vq2) rfl (by kernel_rfl) (by kernel_rfl) (by kernel_rfl) (by rfl) (fun _ _ _ h => h) (Or.inl ⟨by rfl, ?yq2⟩) (HSC.out _ HD.out) ?_
  case yq2 => (intro wz hSw; obtain ⟨d0, d1, d2, d3, d4, d5, d6, d7, d8⟩ := hSw; go_simp; (try with_reducible rfl))
  try simp only [Act.put, List.getElem_toArray, List.getElem_cons_zero, List.getElem_cons_succ, List.setIfInBounds_toArray, List.set_cons_zero, List.set_cons_succ]
  refine anyT_takeN (i := 3) (v := ?vq3) rfl (by kernel_rfl) (by kernel_rfl) (by kernel_rfl) (by rfl) (fun _ _ _ h => h) (Or.inl ⟨by rfl, ?yq3⟩) (HSC.out _ HD.out) ?_
  case yq3 => (intro wz hSw; obtain ⟨d0, d1, d2, d3, d4, d5, d6, d7, d8⟩ := hSw; go_simp; (try with_reducible rfl))
  try simp only [Act.put, List.getElem_toArray, List.getElem_cons_zero, List.getElem_cons_succ, List.setIfInBounds_toArray, List.set_cons_zero, List.set_cons_succ]
  refine anyT_takeN (i := 4) (v := ?vq4) rfl (by kernel_rfl) (by kernel_rfl) (by kernel_rfl) (by rfl) (fun _ _ _ h => h) (Or.inl ⟨by rfl, ?yq4⟩) (HSC.out _ HD.out) ?_
  case yq4 => (intro wz hSw; obtain ⟨d0, d1, d2, d3, d4, d5, d6, d7, d8⟩ := hSw; go_simp; (try with_reducible rfl))
  try simp only [Act.put, List.getElem_toArray, List.getElem_cons_zero, List.getElem_cons_succ, List.setIfInBounds_toArray, List.set_cons_zero, List.set_cons_succ]
  refine anyT_takeN (i := 6) (v := ?vq6) rfl (by kernel_rfl) (by kernel_rfl) (by kernel_rfl) (by rfl) (fun _ _ _ h => h) (Or.inl ⟨by rfl, ?yq6⟩) (HSC.out _ HD.out) ?_
  case yq6 => (intro wz hSw; obtain ⟨d0, d1, d2, d3, d4, d5, d6, d7, d8⟩ := hSw; go_simp; (try with_reducible rfl))
  try simp only [Act.put, List.getElem_toArray, List.getElem_cons_zero, List.getElem_cons_succ, List.setIfInBounds_toArray, List.set_cons_zero, List.set_cons_succ]
  refine anyT_two (i := 5) (j := 9) (by kernel_rfl) rfl rfl (fun K hK => ?_) (fun K hK => ?_)
  · go_simp
    refine (HCm.out _).mono ?_
    rintro r v3 ⟨rfl, hb3⟩
    have HV : Hid (Below W1.heap.size W1 v3) := ((Below.refl W1.heap.size W1).drew).trans hb3
    have HB3 : Hid (StB w v3 base M T G cp a E en mp n D S) := HW1.out.1.below HV.out
    refine hK.out _ _ (.inr (HSC.out _ HB3.out)) ?_
    clear hK hb3
    try simp only [Act.put, List.getElem_toArray, List.getElem_cons_zero, List.getElem_cons_succ, List.setIfInBounds_toArray, List.set_cons_zero, List.set_cons_succ]
    refine anyT_takeN (i := 7) (v := .bool (acc en S)) rfl (by kernel_rfl) (by kernel_rfl) (by kernel_rfl) (by rfl) (fun _ _ _ h => h) (Or.inl ⟨by rfl, ?yqa7⟩) (HSC.out _ HB3.out) ?_
    case yqa7 => (intro wz hSw; obtain ⟨d0, d1, d2, d3, d4, d5, d6, d7, d8⟩ := hSw; go_simp; (try with_reducible rfl); (try (rw [← acc_and, Bool.not_not])))
    try simp only [Act.put, List.getElem_toArray, List.getElem_cons_zero, List.getElem_cons_succ, List.setIfInBounds_toArray, List.set_cons_zero, List.set_cons_succ]
    refine anyT_takeN (i := 8) (v := ?vqa8) rfl (by kernel_rfl) (by kernel_rfl) (by kernel_rfl) (by rfl) (fun _ _ _ h => h) (Or.inl ⟨by rfl, ?yqa8⟩) (HSC.out _ HB3.out) ?_
    case yqa8 => (intro wz hSw; obtain ⟨d0, d1, d2, d3, d4, d5, d6, d7, d8⟩ := hSw; go_simp; (try with_reducible rfl))
    try simp only [Act.put, List.getElem_toArray, List.getElem_cons_zero, List.getElem_cons_succ, List.setIfInBounds_toArray, List.set_cons_zero, List.set_cons_succ]
    refine anyT_one (i := 9) (by kernel_rfl) rfl (fun K hK => ?_)
    go_simp
    refine hK.out _ _ (.inr (HSC.out _ (HB3.out.below (by repeat (first | exact Below.refl _ _ | refine Below.drew ?_ | refine Below.alloc ?_ (Nat.le_refl _) _ | refine below_set ?_ (Nat.le_refl _) _ _))))) ?_
    clear hK
    try simp only [Act.put, List.getElem_toArray, List.getElem_cons_zero, List.getElem_cons_succ, List.setIfInBounds_toArray, List.set_cons_zero, List.set_cons_succ]
    refine anyT_one (i := 10) (by kernel_rfl) rfl (fun K hK => ?_)
    go_simp
    refine hK.out _ _ (.inr (HSC.out _ (HB3.out.below (by repeat (first | exact Below.refl _ _ | refine Below.drew ?_ | refine Below.alloc ?_ (Nat.le_refl _) _ | refine below_set ?_ (Nat.le_refl _) _ _))))) ?_
    clear hK
    try simp only [Act.put, List.getElem_toArray, List.getElem_cons_zero, List.getElem_cons_succ, List.setIfInBounds_toArray, List.set_cons_zero, List.set_cons_succ]
    refine anyT_done (by kernel_rfl) ?_
    dsimp only [NoPanic]
    obtain ⟨b7, hb7⟩ : ∃ b7, b7 = v3.heap.size := ⟨_, rfl⟩
    obtain ⟨W4, hW4⟩ : ∃ W4 : World, W4 = v3.alloc (.cells #[.int .u64 0, .int .u64 0, .int .u64 0, .int .u64 0, .bool (acc en S)] 188) := ⟨_, rfl⟩
    have k4 : Below v3.heap.size v3 W4 := by rw [hW4]; exact (Below.refl _ _).alloc (Nat.le_refl _) _
    have s3 := HV.out.size
    have s1 := HW1.out.2.size
    have HR4 : Hid (RaI w base M T G cp a E en mp n D S b7 0 W4 W4 ∧ b7 < W4.heap.size) := by
      have e0 : (stL (ahdT E S 0) (acc en S)) = [.int .u64 0, .int .u64 0, .int .u64 0, .int .u64 0, .bool (acc en S)] := by
        show stL sNo _ = _
        simp only [stL, wdN_no]; rfl
      have b4 := boxAt_new v3 (base := w.heap.size) (t := 188) (sz := 5) #[.int .u64 0, .int .u64 0, .int .u64 0, .int .u64 0, .bool (acc en S)] (by omega) rfl
      refine ⟨⟨HB3.out.below k4, by rw [e0, hb7, hW4]; exact b4, (HW1.out.2.trans (HV.out.mono s1)).trans (k4.mono (by omega)), Nat.le_refl _⟩, by rw [hb7, hW4]; simp⟩
    have HGt : Hid (w.heap.size + 1 + 1 < b7) := by show _ < _; rw [hb7]; exact HB3.out.ans.lt.2
    rw [← hW4, ← hb7]
    clear hW4 hb7 k4
    have m0 := HR4.out.1.st.ptr.cell (j := 0) rfl
    have q0 := HR4.out.1.st.set.cell (j := 0) rfl
    have q1 := HR4.out.1.st.set.cell (j := 1) rfl
    have q2 := HR4.out.1.st.set.cell (j := 2) rfl
    have q3 := HR4.out.1.st.set.cell (j := 3) rfl
    gi_wp2
    have hbz : w.heap.size + 1 + 1 < W4.heap.size := HR4.out.1.st.ans.lt.2
    have hMz := HR4.out.1.st.mtr.ltM
    have hGz := HR4.out.1.st.mtr.ltG
    have hpz := HR4.out.1.st.map.lt
    refine wp_range_mem (by decide) S rfl rfl (fun k W => RaI w base M T G cp a E en mp n D S b7 k W4 W) ?hI ?hIt ?hIs HR4.out.1
      (fun x => { tmps := #[.pointer (some ⟨M, 0, none⟩), psV S, .pointer (some ⟨w.heap.size, 0, none⟩), .pointer (some ⟨w.heap.size + 1, 0, none⟩), .pointer (some ⟨w.heap.size + 1 + 1, 0, none⟩), .pointer (some ⟨W0.heap.size, 0, none⟩), .bool false, .pointer (some ⟨b7, 0, none⟩), .int .i64 (x : Int), .tuple #[.agg #[.int .u64 0, .int .u64 0, .int .u64 0, .int .u64 0, .bool false], .bool false], .pointer (some ⟨M, 0, none⟩), .pointer (some ⟨M, 0, none⟩), .pointer (some ⟨M, 1029, none⟩), .map (some mp), psV S, .tuple #[.agg #[.int .u64 0, .int .u64 0, .int .u64 0, .int .u64 0, .bool false], .bool false], .agg #[.int .u64 0, .int .u64 0, .int .u64 0, .int .u64 0, .bool false], .bool false, .bool false, undef, psV S, .pointer (some ⟨M, 0, none⟩), .pointer (some ⟨M, 0, none⟩), .pointer (some ⟨M, 1025, none⟩), psV en, psV (sAnd S en), .agg #[.int .u64 0, .int .u64 0, .int .u64 0, .int .u64 0], .bool (acc en S), .agg #[.int .u64 0, .int .u64 0, .int .u64 0, .int .u64 0, .bool (acc en S)], psV S, .func (.func 160) #[psV S] #[], .int .i64 (x : Int), undef, undef, undef, undef, undef, undef, undef, undef, undef, undef, undef, undef, undef, undef, undef, undef, undef, undef, undef, undef, undef, undef, undef, undef, undef, undef, undef, undef], defers := [] }) ?assign ?body ?done
    case hI =>
      rintro k A B row hA hg hr
      have hc : Chg (fun j => row = some j) A B := Chg.of_grown hg (fun j q => q)
      have hl : ∀ j, row = some j → W4.heap.size ≤ j := fun j q => (hr j q).1
      have hLo := HLo.out
      have hb7 := HR4.out.2
      exact ⟨hA.st.chg hc (fun q => by have := hl _ q; omega) (fun q => by have := hl _ q; omega) (fun q => by have := hl _ q; omega) (fun j q => by have := hl _ q; omega), hA.made.chg hc (fun q => by have := hl _ q; omega), Chg.below hA.low hc hA.low.size (fun j q => by have := hl _ q; omega), Nat.le_trans hA.size hc.size⟩
    case hIt => exact fun k W hA => hA.st.mtr.tab
    case hIs =>
      intro k k' W hA hk hno
      exact ⟨hA.st, by rw [ahdT_skip hk hno]; exact hA.made, hA.low, hA.size⟩
    case assign =>
      intro l x W K hK
      gi_wp2
      exact hK
    case body =>
      intro l k x W hA hkx hx hSx hbet
      have hxa := HS.out x hSx
      have zx : (x : Int) < (a : Int) := by omega
      have hcap := hA.st.mtr.caps
      have HA : Hid (RaI w base M T G cp a E en mp n D S b7 k W4 W ∧ S x = true ∧ (∀ j, k ≤ j → j < x → S j = false)) := ⟨hA, hSx, hbet⟩
      have HU : Hid (∀ wx : World, Calls Tryz.prog 161 #[psV (ahdT E S k), psV (E x)] wx fun e w' => e = .returned (psV (sOr (ahdT E S k) (E x))) ∧ Below wx.heap.size wx w') := fun wx => union_core _ _ wx
      have HS7 : Hid (∀ X, RaI w base M T G cp a E en mp n D S b7 k W4 X → (X.cell? ⟨w.heap.size, 0, none⟩ = some (.pointer (some ⟨M, 0, none⟩)) ∧ X.cell? ⟨M, 1024, none⟩ = some (.slice (some ⟨G, 0, none⟩) a cp) ∧ X.cell? ⟨b7, 0, none⟩ = some (.int .u64 (wdN (ahdT E S k) 0 : Int)) ∧ X.cell? ⟨b7, 1, none⟩ = some (.int .u64 (wdN (ahdT E S k) 1 : Int)) ∧ X.cell? ⟨b7, 2, none⟩ = some (.int .u64 (wdN (ahdT E S k) 2 : Int)) ∧ X.cell? ⟨b7, 3, none⟩ = some (.int .u64 (wdN (ahdT E S k) 3 : Int)) ∧ X.cell? ⟨G, x * 4, none⟩ = some (.int .u64 (wdN (E x) 0 : Int)) ∧ X.cell? ⟨G, x * 4 + 1, none⟩ = some (.int .u64 (wdN (E x) 1 : Int)) ∧ X.cell? ⟨G, x * 4 + 2, none⟩ = some (.int .u64 (wdN (E x) 2 : Int)) ∧ X.cell? ⟨G, x * 4 + 3, none⟩ = some (.int .u64 (wdN (E x) 3 : Int)))) := fun X h => by
        obtain ⟨g0, g1, g2, g3, _⟩ := h.st.mtr.edge4 hxa
        exact ⟨h.st.ptr.cell (j := 0) rfl, h.st.mtr.fol, h.made.cell (j := 0) rfl, h.made.cell (j := 1) rfl, h.made.cell (j := 2) rfl, h.made.cell (j := 3) rfl, g0, g1, g2, g3⟩
      have HBl : Hid (∀ X, Below W.heap.size W X → RaI w base M T G cp a E en mp n D S b7 k W4 X) := fun X hb => ⟨HA.out.1.st.below hb, HA.out.1.made.below hb, HA.out.1.low.trans (hb.mono HA.out.1.low.size), Nat.le_trans HA.out.1.size hb.size⟩
      clear hA hSx hbet
      gi_wp2
      refine wpIn_region_T 11 (fun wz => wz.cell? ⟨w.heap.size, 0, none⟩ = some (.pointer (some ⟨M, 0, none⟩)) ∧ wz.cell? ⟨M, 1024, none⟩ = some (.slice (some ⟨G, 0, none⟩) a cp) ∧ wz.cell? ⟨b7, 0, none⟩ = some (.int .u64 (wdN (ahdT E S k) 0 : Int)) ∧ wz.cell? ⟨b7, 1, none⟩ = some (.int .u64 (wdN (ahdT E S k) 1 : Int)) ∧ wz.cell? ⟨b7, 2, none⟩ = some (.int .u64 (wdN (ahdT E S k) 2 : Int)) ∧ wz.cell? ⟨b7, 3, none⟩ = some (.int .u64 (wdN (ahdT E S k) 3 : Int)) ∧ wz.cell? ⟨G, x * 4, none⟩ = some (.int .u64 (wdN (E x) 0 : Int)) ∧ wz.cell? ⟨G, x * 4 + 1, none⟩ = some (.int .u64 (wdN (E x) 1 : Int)) ∧ wz.cell? ⟨G, x * 4 + 2, none⟩ = some (.int .u64 (wdN (E x) 2 : Int)) ∧ wz.cell? ⟨G, x * 4 + 3, none⟩ = some (.int .u64 (wdN (E x) 3 : Int))) (by kernel_rfl) (by kernel_rfl) ?hlet ?_
      case hlet => rintro ⟨a0, w0, hq⟩; exact nomatch (show Exit.outgrown = Exit.normal from hq.1)
      refine anyT_take (i := 0) (v := ?vra0) rfl (by kernel_rfl) (by kernel_rfl) (by kernel_rfl) (by kernel_rfl) (by decide) (fun _ _ _ h => h) (Or.inl ⟨by rfl, ?yra0⟩) (HS7.out _ (HBl.out _ ((Below.refl _ _).drew))) ?_
      case yra0 => (intro wz hSw; obtain ⟨d0, d1, d2, d3, d4, d5, d6, d7, d8, d9⟩ := hSw; go_simp; (try with_reducible rfl))
      try simp only [Act.put, List.getElem_toArray, List.getElem_cons_zero, List.getElem_cons_succ, List.setIfInBounds_toArray, List.set_cons_zero, List.set_cons_succ]
      refine anyT_take (i := 1) (v := ?vra1) rfl (by kernel_rfl) (by kernel_rfl) (by kernel_rfl) (by kernel_rfl) (by decide) (fun _ _ _ h => h) (Or.inl ⟨by rfl, ?yra1⟩) (HS7.out _ (HBl.out _ ((Below.refl _ _).drew))) ?_
      case yra1 => (intro wz hSw; obtain ⟨d0, d1, d2, d3, d4, d5, d6, d7, d8, d9⟩ := hSw; go_simp; (try with_reducible rfl))
      try simp only [Act.put, List.getElem_toArray, List.getElem_cons_zero, List.getElem_cons_succ, List.setIfInBounds_toArray, List.set_cons_zero, List.set_cons_succ]
      refine anyT_take (i := 2) (v := ?vra2) rfl (by kernel_rfl) (by kernel_rfl) (by kernel_rfl) (by kernel_rfl) (by decide) (fun _ _ _ h => h) (Or.inl ⟨by rfl, ?yra2⟩) (HS7.out _ (HBl.out _ ((Below.refl _ _).drew))) ?_
      case yra2 => (intro wz hSw; obtain ⟨d0, d1, d2, d3, d4, d5, d6, d7, d8, d9⟩ := hSw; go_simp; (try with_reducible rfl))
      try simp only [Act.put, List.getElem_toArray, List.getElem_cons_zero, List.getElem_cons_succ, List.setIfInBounds_toArray, List.set_cons_zero, List.set_cons_succ]
      refine anyT_take (i := 3) (v := ?vra3) rfl (by kernel_rfl) (by kernel_rfl) (by kernel_rfl) (by kernel_rfl) (by decide) (fun _ _ _ h => h) (Or.inl ⟨by rfl, ?yra3⟩) (HS7.out _ (HBl.out _ ((Below.refl _ _).drew))) ?_
      case yra3 => (intro wz hSw; obtain ⟨d0, d1, d2, d3, d4, d5, d6, d7, d8, d9⟩ := hSw; go_simp; (try with_reducible rfl))
      try simp only [Act.put, List.getElem_toArray, List.getElem_cons_zero, List.getElem_cons_succ, List.setIfInBounds_toArray, List.set_cons_zero, List.set_cons_succ]
      refine anyT_take (i := 4) (v := ?vra4) rfl (by kernel_rfl) (by kernel_rfl) (by kernel_rfl) (by kernel_rfl) (by decide) (fun _ _ _ h => h) (Or.inl ⟨by rfl, ?yra4⟩) (HS7.out _ (HBl.out _ ((Below.refl _ _).drew))) ?_
      case yra4 => (intro wz hSw; obtain ⟨d0, d1, d2, d3, d4, d5, d6, d7, d8, d9⟩ := hSw; go_simp; (try with_reducible rfl))
      try simp only [Act.put, List.getElem_toArray, List.getElem_cons_zero, List.getElem_cons_succ, List.setIfInBounds_toArray, List.set_cons_zero, List.set_cons_succ]
      refine anyT_take (i := 5) (v := ?vra5) rfl (by kernel_rfl) (by kernel_rfl) (by kernel_rfl) (by kernel_rfl) (by decide) (fun _ _ _ h => h) (Or.inl ⟨by rfl, ?yra5⟩) (HS7.out _ (HBl.out _ ((Below.refl _ _).drew))) ?_
      case yra5 => (intro wz hSw; obtain ⟨d0, d1, d2, d3, d4, d5, d6, d7, d8, d9⟩ := hSw; go_simp; (try with_reducible rfl))
      try simp only [Act.put, List.getElem_toArray, List.getElem_cons_zero, List.getElem_cons_succ, List.setIfInBounds_toArray, List.set_cons_zero, List.set_cons_succ]
      refine anyT_take (i := 6) (v := ?vra6) rfl (by kernel_rfl) (by kernel_rfl) (by kernel_rfl) (by kernel_rfl) (by decide) (fun _ _ _ h => h) (Or.inl ⟨by rfl, ?yra6⟩) (HS7.out _ (HBl.out _ ((Below.refl _ _).drew))) ?_
      case yra6 => (intro wz hSw; obtain ⟨d0, d1, d2, d3, d4, d5, d6, d7, d8, d9⟩ := hSw; go_simp; (try with_reducible rfl))
      try simp only [Act.put, List.getElem_toArray, List.getElem_cons_zero, List.getElem_cons_succ, List.setIfInBounds_toArray, List.set_cons_zero, List.set_cons_succ]
      refine anyT_take (i := 7) (v := ?vra7) rfl (by kernel_rfl) (by kernel_rfl) (by kernel_rfl) (by kernel_rfl) (by decide) (fun _ _ _ h => h) (Or.inl ⟨by rfl, ?yra7⟩) (HS7.out _ (HBl.out _ ((Below.refl _ _).drew))) ?_
      case yra7 => (intro wz hSw; obtain ⟨d0, d1, d2, d3, d4, d5, d6, d7, d8, d9⟩ := hSw; go_simp; (try with_reducible rfl))
      try simp only [Act.put, List.getElem_toArray, List.getElem_cons_zero, List.getElem_cons_succ, List.setIfInBounds_toArray, List.set_cons_zero, List.set_cons_succ]
      refine anyT_take (i := 8) (v := ?vra8) rfl (by kernel_rfl) (by kernel_rfl) (by kernel_rfl) (by kernel_rfl) (by decide) (fun _ _ _ h => h) (Or.inl ⟨by rfl, ?yra8⟩) (HS7.out _ (HBl.out _ ((Below.refl _ _).drew))) ?_
      case yra8 => (intro wz hSw; obtain ⟨d0, d1, d2, d3, d4, d5, d6, d7, d8, d9⟩ := hSw; go_simp; (try with_reducible rfl))
      try simp only [Act.put, List.getElem_toArray, List.getElem_cons_zero, List.getElem_cons_succ, List.setIfInBounds_toArray, List.set_cons_zero, List.set_cons_succ]
      refine anyT_one (i := 9) (by kernel_rfl) rfl (fun K hK => ?_)
      go_simp
      refine (HU.out _).mono ?_
      rintro r v5 ⟨rfl, hb5⟩
      have HV5 : Hid (RaI w base M T G cp a E en mp n D S b7 k W4 v5 ∧ Below W.heap.size W v5) := ⟨HBl.out _ (((Below.refl W.heap.size W).drew).trans hb5), ((Below.refl W.heap.size W).drew).trans hb5⟩
      have y0 := HV5.out.1.made.cell (j := 0) rfl
      have y1 := HV5.out.1.made.cell (j := 1) rfl
      have y2 := HV5.out.1.made.cell (j := 2) rfl
      have y3 := HV5.out.1.made.cell (j := 3) rfl
      have o0 := HV5.out.1.made.frozen 0
      have o1 := HV5.out.1.made.frozen 1
      have o2 := HV5.out.1.made.frozen 2
      have o3 := HV5.out.1.made.frozen 3
      refine hK.out _ _ (.inr (HS7.out _ HV5.out.1)) ?_
      clear hK hb5
      try simp only [Act.put, List.getElem_toArray, List.getElem_cons_zero, List.getElem_cons_succ, List.setIfInBounds_toArray, List.set_cons_zero, List.set_cons_succ]
      refine anyT_take (i := 10) (v := ?vra10) rfl (by kernel_rfl) (by kernel_rfl) (by kernel_rfl) (by kernel_rfl) (by decide) (fun _ _ _ h => h) (Or.inl ⟨by rfl, ?yra10⟩) (HS7.out _ HV5.out.1) ?_
      case yra10 => (intro wz hSw; obtain ⟨d0, d1, d2, d3, d4, d5, d6, d7, d8, d9⟩ := hSw; go_simp; (try with_reducible rfl))
      try simp only [Act.put, List.getElem_toArray, List.getElem_cons_zero, List.getElem_cons_succ, List.setIfInBounds_toArray, List.set_cons_zero, List.set_cons_succ]
      refine anyT_one (i := 11) (by kernel_rfl) rfl (fun K hK => ?_)
      go_simp
      refine hK.out _ _ (.inl rfl) ?_
      clear hK
      try simp only [Act.put, List.getElem_toArray, List.getElem_cons_zero, List.getElem_cons_succ, List.setIfInBounds_toArray, List.set_cons_zero, List.set_cons_succ]
      refine anyT_done (by kernel_rfl) ?_
      have hc : Chg (fun j => j = b7) v5 (set4 v5 b7 0 (sOr (ahdT E S k) (E x))) := chg_set4 _ _ _ _ rfl
      have hb7 := HR4.out.2
      have h5 := HV5.out.1
      have hbw : w.heap.size ≤ b7 := h5.made.lt.1
      have hLo := HLo.out
      have hM : ¬ M = b7 := fun q => own_apart h5.st.mtr.box h5.made (by decide) M rfl (by rw [q]; rfl)
      have hG : ¬ G = b7 := fun q => own_apart h5.st.mtr.row h5.made (by decide) G rfl (by rw [q]; rfl)
      have hp : ¬ mp = b7 := h5.st.map.ne h5.made
      have hgt : w.heap.size + 1 + 1 < b7 := HGt.out
      refine ⟨rfl, ⟨Nat.le_trans HV5.out.2.size hc.size, fun j o hj ho _ => (hc.block j (Nat.lt_of_lt_of_le (Array.getElem?_eq_some_iff.1 ho).1 HV5.out.2.size) (by omega)).trans ((HV5.out.2.block j (Array.getElem?_eq_some_iff.1 ho).1).trans ho)⟩, ?_⟩
      refine ⟨h5.st.chg hc hM hG hp (fun j q => by omega), ?_, Chg.below h5.low hc h5.low.size (fun j q => by omega), Nat.le_trans h5.size hc.size⟩
      rw [ahdT_succ hkx HA.out.2.1 HA.out.2.2]
      have h6 := own_set4 h5.made 0 (sOr (ahdT E S k) (E x))
      exact h6
    case done =>
      rintro Dd W hD hA hK
      have m1 := hA.st.ptr.cell (j := 0) rfl
      have m2 := hA.st.mtr.map
      obtain ⟨kk, hkk, hlen⟩ : ∃ kk : Nat, kk ≤ n ∧ ∀ ty, (Builtin.len_ #[176] ty #[.map (some mp)]).run Tryz.prog W = .ok (.int .i64 (kk : Int)) W := ⟨_, hA.st.map.1.size_le, fun ty => hA.st.map.1.len Tryz.underlying176 ty⟩
      have zk : ¬ (1000 : Int) ≤ (kk : Int) := by omega
      have hAd : StD W.drew mp n D E en := hA.st.map.chg (S := fun _ => False) (Chg.of_below ((Below.refl _ _).drew)) (fun q => q)
      obtain ⟨w6, hput, hst6, hc6⟩ := StI.put (S := S) ⟨D, hAd⟩ (by unfold maxLen; omega)
      have HA : Hid (RaI w base M T G cp a E en mp n D S b7 256 W4 W ∧ W.heap[Dd]? = some (.deferred (some [])) ∧ StI w6 mp (n + 1) E en ∧ Chg (fun k => k = mp) W w6 ∧ W4.heap.size ≤ Dd) := by
        refine ⟨hA, hK, hst6, ?_, hD⟩
        have kd : Chg (fun k => k = mp) W W.drew := Chg.of_below ((Below.refl _ _).drew)
        exact kd.trans hc6
      clear hA hK hst6 hc6 hAd m0 q0 q1 q2 q3
      gi_wp2
      clear hlen
      have HS10 : Hid (W.drew.cell? ⟨w.heap.size, 0, none⟩ = some (.pointer (some ⟨M, 0, none⟩)) ∧ W.drew.cell? ⟨M, 1029, none⟩ = some (.map (some mp)) ∧ W.drew.cell? ⟨w.heap.size + 1, 0, none⟩ = some (.int .u64 (wdN S 0 : Int)) ∧ W.drew.cell? ⟨w.heap.size + 1, 1, none⟩ = some (.int .u64 (wdN S 1 : Int)) ∧ W.drew.cell? ⟨w.heap.size + 1, 2, none⟩ = some (.int .u64 (wdN S 2 : Int)) ∧ W.drew.cell? ⟨w.heap.size + 1, 3, none⟩ = some (.int .u64 (wdN S 3 : Int)) ∧ W.drew.cell? ⟨b7, 0, none⟩ = some (.int .u64 (wdN (ahd E S) 0 : Int)) ∧ W.drew.cell? ⟨b7, 1, none⟩ = some (.int .u64 (wdN (ahd E S) 1 : Int)) ∧ W.drew.cell? ⟨b7, 2, none⟩ = some (.int .u64 (wdN (ahd E S) 2 : Int)) ∧ W.drew.cell? ⟨b7, 3, none⟩ = some (.int .u64 (wdN (ahd E S) 3 : Int)) ∧ W.drew.cell? ⟨b7, 4, none⟩ = some (.bool (acc en S))) := by
        have h := HA.out.1
        exact ⟨h.st.ptr.cell (j := 0) rfl, h.st.mtr.map, h.st.set.cell (j := 0) rfl, h.st.set.cell (j := 1) rfl, h.st.set.cell (j := 2) rfl, h.st.set.cell (j := 3) rfl, h.made.cell (j := 0) rfl, h.made.cell (j := 1) rfl, h.made.cell (j := 2) rfl, h.made.cell (j := 3) rfl, h.made.cell (j := 4) rfl⟩
      refine wpIn_wide.2 ?_
      refine wp_region_noPanic ?_
      refine wp_region_T 6 (fun wz => wz.cell? ⟨w.heap.size, 0, none⟩ = some (.pointer (some ⟨M, 0, none⟩)) ∧ wz.cell? ⟨M, 1029, none⟩ = some (.map (some mp)) ∧ wz.cell? ⟨w.heap.size + 1, 0, none⟩ = some (.int .u64 (wdN S 0 : Int)) ∧ wz.cell? ⟨w.heap.size + 1, 1, none⟩ = some (.int .u64 (wdN S 1 : Int)) ∧ wz.cell? ⟨w.heap.size + 1, 2, none⟩ = some (.int .u64 (wdN S 2 : Int)) ∧ wz.cell? ⟨w.heap.size + 1, 3, none⟩ = some (.int .u64 (wdN S 3 : Int)) ∧ wz.cell? ⟨b7, 0, none⟩ = some (.int .u64 (wdN (ahd E S) 0 : Int)) ∧ wz.cell? ⟨b7, 1, none⟩ = some (.int .u64 (wdN (ahd E S) 1 : Int)) ∧ wz.cell? ⟨b7, 2, none⟩ = some (.int .u64 (wdN (ahd E S) 2 : Int)) ∧ wz.cell? ⟨b7, 3, none⟩ = some (.int .u64 (wdN (ahd E S) 3 : Int)) ∧ wz.cell? ⟨b7, 4, none⟩ = some (.bool (acc en S))) (by kernel_rfl) ?_
      refine anyT_take (i := 0) (v := ?vpu0) rfl (by kernel_rfl) (by kernel_rfl) (by kernel_rfl) (by kernel_rfl) (by decide) (fun _ _ _ h => h) (Or.inl ⟨by rfl, ?ypu0⟩) HS10.out ?_
      case ypu0 => (intro wz hSw; obtain ⟨d0, d1, d2, d3, d4, d5, d6, d7, d8, d9, d10⟩ := hSw; go_simp; (try with_reducible rfl))
      try simp only [Act.put, List.getElem_toArray, List.getElem_cons_zero, List.getElem_cons_succ, List.setIfInBounds_toArray, List.set_cons_zero, List.set_cons_succ]
      refine anyT_take (i := 1) (v := ?vpu1) rfl (by kernel_rfl) (by kernel_rfl) (by kernel_rfl) (by kernel_rfl) (by decide) (fun _ _ _ h => h) (Or.inl ⟨by rfl, ?ypu1⟩) HS10.out ?_
      case ypu1 => (intro wz hSw; obtain ⟨d0, d1, d2, d3, d4, d5, d6, d7, d8, d9, d10⟩ := hSw; go_simp; (try with_reducible rfl))
      try simp only [Act.put, List.getElem_toArray, List.getElem_cons_zero, List.getElem_cons_succ, List.setIfInBounds_toArray, List.set_cons_zero, List.set_cons_succ]
      refine anyT_take (i := 2) (v := ?vpu2) rfl (by kernel_rfl) (by kernel_rfl) (by kernel_rfl) (by kernel_rfl) (by decide) (fun _ _ _ h => h) (Or.inl ⟨by rfl, ?ypu2⟩) HS10.out ?_
      case ypu2 => (intro wz hSw; obtain ⟨d0, d1, d2, d3, d4, d5, d6, d7, d8, d9, d10⟩ := hSw; go_simp; (try with_reducible rfl))
      try simp only [Act.put, List.getElem_toArray, List.getElem_cons_zero, List.getElem_cons_succ, List.setIfInBounds_toArray, List.set_cons_zero, List.set_cons_succ]
      refine anyT_take (i := 3) (v := ?vpu3) rfl (by kernel_rfl) (by kernel_rfl) (by kernel_rfl) (by kernel_rfl) (by decide) (fun _ _ _ h => h) (Or.inl ⟨by rfl, ?ypu3⟩) HS10.out ?_
      case ypu3 => (intro wz hSw; obtain ⟨d0, d1, d2, d3, d4, d5, d6, d7, d8, d9, d10⟩ := hSw; go_simp; (try with_reducible rfl))
      try simp only [Act.put, List.getElem_toArray, List.getElem_cons_zero, List.getElem_cons_succ, List.setIfInBounds_toArray, List.set_cons_zero, List.set_cons_succ]
      refine anyT_take (i := 4) (v := ?vpu4) rfl (by kernel_rfl) (by kernel_rfl) (by kernel_rfl) (by kernel_rfl) (by decide) (fun _ _ _ h => h) (Or.inl ⟨by rfl, ?ypu4⟩) HS10.out ?_
      case ypu4 => (intro wz hSw; obtain ⟨d0, d1, d2, d3, d4, d5, d6, d7, d8, d9, d10⟩ := hSw; go_simp; (try with_reducible rfl))
      try simp only [Act.put, List.getElem_toArray, List.getElem_cons_zero, List.getElem_cons_succ, List.setIfInBounds_toArray, List.set_cons_zero, List.set_cons_succ]
      refine anyT_take (i := 5) (v := ?vpu5) rfl (by kernel_rfl) (by kernel_rfl) (by kernel_rfl) (by kernel_rfl) (by decide) (fun _ _ _ h => h) (Or.inl ⟨by rfl, ?ypu5⟩) HS10.out ?_
      case ypu5 => (intro wz hSw; obtain ⟨d0, d1, d2, d3, d4, d5, d6, d7, d8, d9, d10⟩ := hSw; go_simp; (try with_reducible rfl))
      try simp only [Act.put, List.getElem_toArray, List.getElem_cons_zero, List.getElem_cons_succ, List.setIfInBounds_toArray, List.set_cons_zero, List.set_cons_succ]
      refine anyT_one (i := 6) (by kernel_rfl) rfl (fun K hK => ?_)
      go_simp
      refine hK.out _ _ (.inl rfl) ?_
      clear hK
      try simp only [Act.put, List.getElem_toArray, List.getElem_cons_zero, List.getElem_cons_succ, List.setIfInBounds_toArray, List.set_cons_zero, List.set_cons_succ]
      refine anyT_done (by kernel_rfl) ?_
      dsimp only [NoPanic]
      have hp : ¬ mp = b7 := HA.out.1.st.map.ne HA.out.1.made
      have ha2 : ¬ mp = w.heap.size + 1 + 1 := HA.out.1.st.map.ne HA.out.1.st.ans
      have hB6 : BoxAt w6 w.heap.size 188 5 b7 (stL (ahd E S) (acc en S)) := HA.out.1.made.chg HA.out.2.2.2.1 (fun q => hp q.symm)
      have hA6 := HA.out.1.st.ans.chg HA.out.2.2.2.1 (fun q => ha2 q.symm)
      have r0 := hB6.cell (j := 0) rfl
      have a0 := hA6.cell (j := 0) rfl
      have f0 := hA6.frozen 0
      have r1 := hB6.cell (j := 1) rfl
      have a1 := hA6.cell (j := 1) rfl
      have f1 := hA6.frozen 1
      have r2 := hB6.cell (j := 2) rfl
      have a2 := hA6.cell (j := 2) rfl
      have f2 := hA6.frozen 2
      have r3 := hB6.cell (j := 3) rfl
      have a3 := hA6.cell (j := 3) rfl
      have f3 := hA6.frozen 3
      have r4 := hB6.cell (j := 4) rfl
      have a4 := hA6.cell (j := 4) rfl
      have f4 := hA6.frozen 4
      obtain ⟨W7, hW7⟩ : ∃ W7 : World, W7 = set5 w6 (w.heap.size + 1 + 1) (ahd E S) (acc en S) := ⟨_, rfl⟩
      have h := HA.out.1
      have hc7 : Chg (fun k => k = w.heap.size + 1 + 1) w6 W7 := by rw [hW7]; exact chg_set5 _ _ _ _ rfl
      have hLo := HLo.out
      have hM6 := h.st.mtr.box.chg HA.out.2.2.2.1 (fun q => box_mapD h.st.map h.st.mtr.box q)
      have hDm : ¬ Dd = mp := fun q => by
        obtain ⟨⟨es, c, h1, _⟩, _⟩ := h.st.map
        rw [← q, HA.out.2.1] at h1
        cases h1
      have hKD : W7.heap[Dd]? = some (.deferred (some [])) := by
        have hl : Dd < W.heap.size := (Array.getElem?_eq_some_iff.1 HA.out.2.1).1
        rw [hc7.block Dd (Nat.lt_of_lt_of_le hl HA.out.2.2.2.1.size) (by have := HA.out.2.2.2.2; omega), HA.out.2.2.2.1.block Dd hl hDm]
        exact HA.out.2.1
      have hMm : ¬ M = mp := box_mapD h.st.map h.st.mtr.box
      have hGm : ¬ G = mp := fun q => h.st.map.ne h.st.mtr.row q.symm
      have hMa : ¬ M = w.heap.size + 1 + 1 := fun q => own_apart h.st.mtr.box h.st.ans (by decide) M rfl (by rw [q]; rfl)
      have hGa : ¬ G = w.heap.size + 1 + 1 := fun q => own_apart h.st.mtr.row h.st.ans (by decide) G rfl (by rw [q]; rfl)
      have hbp : base ≤ mp := HLp.out
      have hc8 : Chg (fun k => k = Dd) W7 (W7.putObj Dd (.deferred none)) := Chg.of_grown (grownBy_putObj' W7 Dd _) (fun j q => by cases q; rfl)
      have hDd := HA.out.2.2.2.2
      have HF : Hid (StP base M T G cp a E en mp n S w (.returned (stV (ahd E S) (acc en S))) (W7.putObj Dd (.deferred none)) ∧ BoxAt (W7.putObj Dd (.deferred none)) w.heap.size 188 5 (w.heap.size + 1 + 1) (stL (ahd E S) (acc en S))) := by
        have m6 := h.st.mtr.chg HA.out.2.2.2.1 hMm hGm (fun k q => by omega)
        have m7 := m6.chg hc7 hMa hGa (fun k q => by omega)
        have m8 := m7.chg hc8 (by omega) (by omega) (fun k q => by omega)
        have hx : Chg (fun k => k = mp) w w6 := (Chg.of_below h.low).trans HA.out.2.2.2.1
        have hx7 := chg_ownS hx (hc7.mono (fun k q => by omega))
        have hx8 := chg_ownS hx7 (hc8.mono (fun k q => by omega))
        refine ⟨⟨rfl, m8, (HA.out.2.2.1.chg hc7 ha2).chg hc8 (fun q => hDm q.symm), hx8⟩, ?_⟩
        have b7' := hA6.set5 (ahd E S) (acc en S)
        rw [← hW7] at b7'
        exact b7'.chg hc8 (by omega)
      have hW7' := hW7
      simp only [set5] at hW7'
      clear hB6 hA6 hc7 hc8 hM6
      gi_wp2
      rw [← hW7']
      refine ⟨by simp, .inl ⟨_, _, rfl, run_takeDeferred hKD, ?_⟩⟩
      exact ⟨_, st_res (base := w.heap.size) (g := w.heap.size + 1 + 1) rfl HF.out.2, HF.out.1⟩
  · go_simp
    refine hK.out _ _ (.inr (HSC.out _ (HW1.out.1.below (by repeat (first | exact Below.refl _ _ | refine Below.drew ?_ | refine Below.alloc ?_ (Nat.le_refl _) _))))) ?_
    clear hK
    try simp only [Act.put, List.getElem_toArray, List.getElem_cons_zero, List.getElem_cons_succ, List.setIfInBounds_toArray, List.set_cons_zero, List.set_cons_succ]
    have hX : Below W1.heap.size W1 (W1.alloc (.cells z5 188)).drew := ((Below.refl _ _).alloc (Nat.le_refl _) _).drew
    have hBX : BoxAt (W1.alloc (.cells z5 188)).drew w.heap.size 188 5 W1.heap.size z5.toList := by exact (boxAt_new W1 z5 HW1.out.2.size rfl).below ((Below.refl _ _).drew)
    have HGt : Hid (w.heap.size + 1 + 1 < W1.heap.size) := by show _ < _; exact HW1.out.1.ans.lt.2
    refine anyT_one (i := 5) (by kernel_rfl) rfl (fun K hK => ?_)
    go_simp
    refine (HCm.out _).mono ?_
    rintro r v3 ⟨rfl, hb3⟩
    have HV : Hid (Below W1.heap.size W1 v3 ∧ Below w.heap.size w v3) := ⟨hX.trans (hb3.mono hX.size), HW1.out.2.trans ((hX.trans (hb3.mono hX.size)).mono HW1.out.2.size)⟩
    have HB3 : Hid (StB w v3 base M T G cp a E en mp n D S) := HW1.out.1.below HV.out.1
    have HBx : Hid (BoxAt v3 w.heap.size 188 5 W1.heap.size z5.toList) := hBX.below hb3
    have HNe : Hid (¬ M = W1.heap.size ∧ ¬ G = W1.heap.size ∧ ¬ mp = W1.heap.size) := ⟨fun q => own_apart HB3.out.mtr.box HBx.out (by decide) M rfl (by rw [q]; rfl), fun q => own_apart HB3.out.mtr.row HBx.out (by decide) G rfl (by rw [q]; rfl), HB3.out.map.ne HBx.out⟩
    have y0 := HBx.out.cell (j := 0) rfl
    have o0 := HBx.out.frozen 0
    have y1 := HBx.out.cell (j := 1) rfl
    have o1 := HBx.out.frozen 1
    have y2 := HBx.out.cell (j := 2) rfl
    have o2 := HBx.out.frozen 2
    have y3 := HBx.out.cell (j := 3) rfl
    have o3 := HBx.out.frozen 3
    have y4 := HBx.out.cell (j := 4) rfl
    have o4 := HBx.out.frozen 4
    refine hK.out _ _ (.inr (HSC.out _ HB3.out)) ?_
    clear hK hb3 hX hBX
    try simp only [Act.put, List.getElem_toArray, List.getElem_cons_zero, List.getElem_cons_succ, List.setIfInBounds_toArray, List.set_cons_zero, List.set_cons_succ]
    refine anyT_takeN (i := 7) (v := .bool (acc en S)) rfl (by kernel_rfl) (by kernel_rfl) (by kernel_rfl) (by rfl) (fun _ _ _ h => h) (Or.inl ⟨by rfl, ?yqb7⟩) (HSC.out _ HB3.out) ?_
    case yqb7 => (intro wz hSw; obtain ⟨d0, d1, d2, d3, d4, d5, d6, d7, d8⟩ := hSw; go_simp; (try with_reducible rfl); (try (rw [← acc_and, Bool.not_not])))
    try simp only [Act.put, List.getElem_toArray, List.getElem_cons_zero, List.getElem_cons_succ, List.setIfInBounds_toArray, List.set_cons_zero, List.set_cons_succ]
    refine anyT_takeN (i := 8) (v := ?vqb8) rfl (by kernel_rfl) (by kernel_rfl) (by kernel_rfl) (by rfl) (fun _ _ _ h => h) (Or.inl ⟨by rfl, ?yqb8⟩) (HSC.out _ HB3.out) ?_
    case yqb8 => (intro wz hSw; obtain ⟨d0, d1, d2, d3, d4, d5, d6, d7, d8⟩ := hSw; go_simp; (try with_reducible rfl))
    try simp only [Act.put, List.getElem_toArray, List.getElem_cons_zero, List.getElem_cons_succ, List.setIfInBounds_toArray, List.set_cons_zero, List.set_cons_succ]
    refine anyT_one (i := 10) (by kernel_rfl) rfl (fun K hK => ?_)
    go_simp
    refine hK.out _ _ (.inr (HSC.out _ (HB3.out.chg (Z := fun k => k = W1.heap.size) (((((Chg.of_set (S := fun k => k = W1.heap.size) _ W1.heap.size 0 _ rfl).trans (Chg.of_set (S := fun k => k = W1.heap.size) _ W1.heap.size 1 _ rfl)).trans (Chg.of_set (S := fun k => k = W1.heap.size) _ W1.heap.size 2 _ rfl)).trans (Chg.of_set (S := fun k => k = W1.heap.size) _ W1.heap.size 3 _ rfl)).trans (Chg.of_set (S := fun k => k = W1.heap.size) _ W1.heap.size 4 _ rfl)) (by have := HNe.out; omega) (by have := HNe.out; omega) (by have := HNe.out; omega) (fun k q => by have := HGt.out; have := HLo.out; omega)))) ?_
    clear hK
    try simp only [Act.put, List.getElem_toArray, List.getElem_cons_zero, List.getElem_cons_succ, List.setIfInBounds_toArray, List.set_cons_zero, List.set_cons_succ]
    refine anyT_done (by kernel_rfl) ?_
    dsimp only [NoPanic]
    obtain ⟨b7, hb7⟩ : ∃ b7, b7 = W1.heap.size := ⟨_, rfl⟩
    rw [← hb7] at HBx HNe HGt ⊢
    obtain ⟨W4, hW4⟩ : ∃ W4 : World, W4 = set5 v3 b7 sNo (acc en S) := ⟨_, rfl⟩
    have hc4 : Chg (fun k => k = b7) v3 W4 := by rw [hW4]; exact chg_set5 _ _ _ _ rfl
    have HR4 : Hid (RaI w base M T G cp a E en mp n D S b7 0 W4 W4 ∧ b7 < W4.heap.size) := by
      have b4 := HBx.out.set5 sNo (acc en S)
      rw [← hW4] at b4
      refine ⟨⟨HB3.out.chg hc4 (by have := HNe.out; omega) (by have := HNe.out; omega) (by have := HNe.out; omega) (fun k q => by have := HGt.out; have := HLo.out; omega), b4, Chg.below HV.out.2 hc4 HV.out.2.size (fun k q => by have := HGt.out; omega), Nat.le_refl _⟩, b4.lt.2⟩
    have hW4' := hW4
    simp only [set5, wdN_no] at hW4'
    simp only [Int.ofNat_zero, Int.natCast_zero] at hW4'
    rw [← hW4']
    clear hW4 hW4' hc4 hb7 y0 y1 y2 y3 y4 o0 o1 o2 o3 o4
    have m0 := HR4.out.1.st.ptr.cell (j := 0) rfl
    have q0 := HR4.out.1.st.set.cell (j := 0) rfl
    have q1 := HR4.out.1.st.set.cell (j := 1) rfl
    have q2 := HR4.out.1.st.set.cell (j := 2) rfl
    have q3 := HR4.out.1.st.set.cell (j := 3) rfl
    gi_wp2
    have hbz : w.heap.size + 1 + 1 < W4.heap.size := HR4.out.1.st.ans.lt.2
    have hMz := HR4.out.1.st.mtr.ltM
    have hGz := HR4.out.1.st.mtr.ltG
    have hpz := HR4.out.1.st.map.lt
    refine wp_range_mem (by decide) S rfl rfl (fun k W => RaI w base M T G cp a E en mp n D S b7 k W4 W) ?hIZ ?hItZ ?hIsZ HR4.out.1
      (fun x => { tmps := #[.pointer (some ⟨M, 0, none⟩), psV S, .pointer (some ⟨w.heap.size, 0, none⟩), .pointer (some ⟨w.heap.size + 1, 0, none⟩), .pointer (some ⟨w.heap.size + 1 + 1, 0, none⟩), .pointer (some ⟨W0.heap.size, 0, none⟩), .bool false, .pointer (some ⟨b7, 0, none⟩), .int .i64 (x : Int), .tuple #[.agg #[.int .u64 0, .int .u64 0, .int .u64 0, .int .u64 0, .bool false], .bool false], .pointer (some ⟨M, 0, none⟩), .pointer (some ⟨M, 0, none⟩), .pointer (some ⟨M, 1029, none⟩), .map (some mp), psV S, .tuple #[.agg #[.int .u64 0, .int .u64 0, .int .u64 0, .int .u64 0, .bool false], .bool false], .agg #[.int .u64 0, .int .u64 0, .int .u64 0, .int .u64 0, .bool false], .bool false, .bool false, undef, psV S, .pointer (some ⟨M, 0, none⟩), .pointer (some ⟨M, 0, none⟩), .pointer (some ⟨M, 1025, none⟩), psV en, psV (sAnd S en), .agg #[.int .u64 0, .int .u64 0, .int .u64 0, .int .u64 0], .bool (acc en S), .agg #[.int .u64 0, .int .u64 0, .int .u64 0, .int .u64 0, .bool (acc en S)], psV S, .func (.func 160) #[psV S] #[], .int .i64 (x : Int), undef, undef, undef, undef, undef, undef, undef, undef, undef, undef, undef, undef, undef, undef, undef, undef, undef, undef, undef, undef, undef, undef, undef, undef, undef, undef, undef, undef], defers := [] }) ?assignZ ?bodyZ ?doneZ
    case hIZ =>
      rintro k A B row hA hg hr
      have hc : Chg (fun j => row = some j) A B := Chg.of_grown hg (fun j q => q)
      have hl : ∀ j, row = some j → W4.heap.size ≤ j := fun j q => (hr j q).1
      have hLo := HLo.out
      have hb7 := HR4.out.2
      exact ⟨hA.st.chg hc (fun q => by have := hl _ q; omega) (fun q => by have := hl _ q; omega) (fun q => by have := hl _ q; omega) (fun j q => by have := hl _ q; omega), hA.made.chg hc (fun q => by have := hl _ q; omega), Chg.below hA.low hc hA.low.size (fun j q => by have := hl _ q; omega), Nat.le_trans hA.size hc.size⟩
    case hItZ => exact fun k W hA => hA.st.mtr.tab
    case hIsZ =>
      intro k k' W hA hk hno
      exact ⟨hA.st, by rw [ahdT_skip hk hno]; exact hA.made, hA.low, hA.size⟩
    case assignZ =>
      intro l x W K hK
      gi_wp2
      exact hK
    case bodyZ =>
      intro l k x W hA hkx hx hSx hbet
      have hxa := HS.out x hSx
      have zx : (x : Int) < (a : Int) := by omega
      have hcap := hA.st.mtr.caps
      have HA : Hid (RaI w base M T G cp a E en mp n D S b7 k W4 W ∧ S x = true ∧ (∀ j, k ≤ j → j < x → S j = false)) := ⟨hA, hSx, hbet⟩
      have HU : Hid (∀ wx : World, Calls Tryz.prog 161 #[psV (ahdT E S k), psV (E x)] wx fun e w' => e = .returned (psV (sOr (ahdT E S k) (E x))) ∧ Below wx.heap.size wx w') := fun wx => union_core _ _ wx
      have HS7 : Hid (∀ X, RaI w base M T G cp a E en mp n D S b7 k W4 X → (X.cell? ⟨w.heap.size, 0, none⟩ = some (.pointer (some ⟨M, 0, none⟩)) ∧ X.cell? ⟨M, 1024, none⟩ = some (.slice (some ⟨G, 0, none⟩) a cp) ∧ X.cell? ⟨b7, 0, none⟩ = some (.int .u64 (wdN (ahdT E S k) 0 : Int)) ∧ X.cell? ⟨b7, 1, none⟩ = some (.int .u64 (wdN (ahdT E S k) 1 : Int)) ∧ X.cell? ⟨b7, 2, none⟩ = some (.int .u64 (wdN (ahdT E S k) 2 : Int)) ∧ X.cell? ⟨b7, 3, none⟩ = some (.int .u64 (wdN (ahdT E S k) 3 : Int)) ∧ X.cell? ⟨G, x * 4, none⟩ = some (.int .u64 (wdN (E x) 0 : Int)) ∧ X.cell? ⟨G, x * 4 + 1, none⟩ = some (.int .u64 (wdN (E x) 1 : Int)) ∧ X.cell? ⟨G, x * 4 + 2, none⟩ = some (.int .u64 (wdN (E x) 2 : Int)) ∧ X.cell? ⟨G, x * 4 + 3, none⟩ = some (.int .u64 (wdN (E x) 3 : Int)))) := fun X h => by
        obtain ⟨g0, g1, g2, g3, _⟩ := h.st.mtr.edge4 hxa
        exact ⟨h.st.ptr.cell (j := 0) rfl, h.st.mtr.fol, h.made.cell (j := 0) rfl, h.made.cell (j := 1) rfl, h.made.cell (j := 2) rfl, h.made.cell (j := 3) rfl, g0, g1, g2, g3⟩
      have HBl : Hid (∀ X, Below W.heap.size W X → RaI w base M T G cp a E en mp n D S b7 k W4 X) := fun X hb => ⟨HA.out.1.st.below hb, HA.out.1.made.below hb, HA.out.1.low.trans (hb.mono HA.out.1.low.size), Nat.le_trans HA.out.1.size hb.size⟩
      clear hA hSx hbet
      gi_wp2
      refine wpIn_region_T 11 (fun wz => wz.cell? ⟨w.heap.size, 0, none⟩ = some (.pointer (some ⟨M, 0, none⟩)) ∧ wz.cell? ⟨M, 1024, none⟩ = some (.slice (some ⟨G, 0, none⟩) a cp) ∧ wz.cell? ⟨b7, 0, none⟩ = some (.int .u64 (wdN (ahdT E S k) 0 : Int)) ∧ wz.cell? ⟨b7, 1, none⟩ = some (.int .u64 (wdN (ahdT E S k) 1 : Int)) ∧ wz.cell? ⟨b7, 2, none⟩ = some (.int .u64 (wdN (ahdT E S k) 2 : Int)) ∧ wz.cell? ⟨b7, 3, none⟩ = some (.int .u64 (wdN (ahdT E S k) 3 : Int)) ∧ wz.cell? ⟨G, x * 4, none⟩ = some (.int .u64 (wdN (E x) 0 : Int)) ∧ wz.cell? ⟨G, x * 4 + 1, none⟩ = some (.int .u64 (wdN (E x) 1 : Int)) ∧ wz.cell? ⟨G, x * 4 + 2, none⟩ = some (.int .u64 (wdN (E x) 2 : Int)) ∧ wz.cell? ⟨G, x * 4 + 3, none⟩ = some (.int .u64 (wdN (E x) 3 : Int))) (by kernel_rfl) (by kernel_rfl) ?hletZ ?_
      case hletZ => rintro ⟨a0, w0, hq⟩; exact nomatch (show Exit.outgrown = Exit.normal from hq.1)
      refine anyT_take (i := 0) (v := ?vraZ0) rfl (by kernel_rfl) (by kernel_rfl) (by kernel_rfl) (by kernel_rfl) (by decide) (fun _ _ _ h => h) (Or.inl ⟨by rfl, ?yraZ0⟩) (HS7.out _ (HBl.out _ ((Below.refl _ _).drew))) ?_
      case yraZ0 => (intro wz hSw; obtain ⟨d0, d1, d2, d3, d4, d5, d6, d7, d8, d9⟩ := hSw; go_simp; (try with_reducible rfl))
      try simp only [Act.put, List.getElem_toArray, List.getElem_cons_zero, List.getElem_cons_succ, List.setIfInBounds_toArray, List.set_cons_zero, List.set_cons_succ]
      refine anyT_take (i := 1) (v := ?vraZ1) rfl (by kernel_rfl) (by kernel_rfl) (by kernel_rfl) (by kernel_rfl) (by decide) (fun _ _ _ h => h) (Or.inl ⟨by rfl, ?yraZ1⟩) (HS7.out _ (HBl.out _ ((Below.refl _ _).drew))) ?_
      case yraZ1 => (intro wz hSw; obtain ⟨d0, d1, d2, d3, d4, d5, d6, d7, d8, d9⟩ := hSw; go_simp; (try with_reducible rfl))
      try simp only [Act.put, List.getElem_toArray, List.getElem_cons_zero, List.getElem_cons_succ, List.setIfInBounds_toArray, List.set_cons_zero, List.set_cons_succ]
      refine anyT_take (i := 2) (v := ?vraZ2) rfl (by kernel_rfl) (by kernel_rfl) (by kernel_rfl) (by kernel_rfl) (by decide) (fun _ _ _ h => h) (Or.inl ⟨by rfl, ?yraZ2⟩) (HS7.out _ (HBl.out _ ((Below.refl _ _).drew))) ?_
      case yraZ2 => (intro wz hSw; obtain ⟨d0, d1, d2, d3, d4, d5, d6, d7, d8, d9⟩ := hSw; go_simp; (try with_reducible rfl))
      try simp only [Act.put, List.getElem_toArray, List.getElem_cons_zero, List.getElem_cons_succ, List.setIfInBounds_toArray, List.set_cons_zero, List.set_cons_succ]
      refine anyT_take (i := 3) (v := ?vraZ3) rfl (by kernel_rfl) (by kernel_rfl) (by kernel_rfl) (by kernel_rfl) (by decide) (fun _ _ _ h => h) (Or.inl ⟨by rfl, ?yraZ3⟩) (HS7.out _ (HBl.out _ ((Below.refl _ _).drew))) ?_
      case yraZ3 => (intro wz hSw; obtain ⟨d0, d1, d2, d3, d4, d5, d6, d7, d8, d9⟩ := hSw; go_simp; (try with_reducible rfl))
      try simp only [Act.put, List.getElem_toArray, List.getElem_cons_zero, List.getElem_cons_succ, List.setIfInBounds_toArray, List.set_cons_zero, List.set_cons_succ]
      refine anyT_take (i := 4) (v := ?vraZ4) rfl (by kernel_rfl) (by kernel_rfl) (by kernel_rfl) (by kernel_rfl) (by decide) (fun _ _ _ h => h) (Or.inl ⟨by rfl, ?yraZ4⟩) (HS7.out _ (HBl.out _ ((Below.refl _ _).drew))) ?_
      case yraZ4 => (intro wz hSw; obtain ⟨d0, d1, d2, d3, d4, d5, d6, d7, d8, d9⟩ := hSw; go_simp; (try with_reducible rfl))
      try simp only [Act.put, List.getElem_toArray, List.getElem_cons_zero, List.getElem_cons_succ, List.setIfInBounds_toArray, List.set_cons_zero, List.set_cons_succ]
      refine anyT_take (i := 5) (v := ?vraZ5) rfl (by kernel_rfl) (by kernel_rfl) (by kernel_rfl) (by kernel_rfl) (by decide) (fun _ _ _ h => h) (Or.inl ⟨by rfl, ?yraZ5⟩) (HS7.out _ (HBl.out _ ((Below.refl _ _).drew))) ?_
      case yraZ5 => (intro wz hSw; obtain ⟨d0, d1, d2, d3, d4, d5, d6, d7, d8, d9⟩ := hSw; go_simp; (try with_reducible rfl))
      try simp only [Act.put, List.getElem_toArray, List.getElem_cons_zero, List.getElem_cons_succ, List.setIfInBounds_toArray, List.set_cons_zero, List.set_cons_succ]
      refine anyT_take (i := 6) (v := ?vraZ6) rfl (by kernel_rfl) (by kernel_rfl) (by kernel_rfl) (by kernel_rfl) (by decide) (fun _ _ _ h => h) (Or.inl ⟨by rfl, ?yraZ6⟩) (HS7.out _ (HBl.out _ ((Below.refl _ _).drew))) ?_
      case yraZ6 => (intro wz hSw; obtain ⟨d0, d1, d2, d3, d4, d5, d6, d7, d8, d9⟩ := hSw; go_simp; (try with_reducible rfl))
      try simp only [Act.put, List.getElem_toArray, List.getElem_cons_zero, List.getElem_cons_succ, List.setIfInBounds_toArray, List.set_cons_zero, List.set_cons_succ]
      refine anyT_take (i := 7) (v := ?vraZ7) rfl (by kernel_rfl) (by kernel_rfl) (by kernel_rfl) (by kernel_rfl) (by decide) (fun _ _ _ h => h) (Or.inl ⟨by rfl, ?yraZ7⟩) (HS7.out _ (HBl.out _ ((Below.refl _ _).drew))) ?_
      case yraZ7 => (intro wz hSw; obtain ⟨d0, d1, d2, d3, d4, d5, d6, d7, d8, d9⟩ := hSw; go_simp; (try with_reducible rfl))
      try simp only [Act.put, List.getElem_toArray, List.getElem_cons_zero, List.getElem_cons_succ, List.setIfInBounds_toArray, List.set_cons_zero, List.set_cons_succ]
      refine anyT_take (i := 8) (v := ?vraZ8) rfl (by kernel_rfl) (by kernel_rfl) (by kernel_rfl) (by kernel_rfl) (by decide) (fun _ _ _ h => h) (Or.inl ⟨by rfl, ?yraZ8⟩) (HS7.out _ (HBl.out _ ((Below.refl _ _).drew))) ?_
      case yraZ8 => (intro wz hSw; obtain ⟨d0, d1, d2, d3, d4, d5, d6, d7, d8, d9⟩ := hSw; go_simp; (try with_reducible rfl))
      try simp only [Act.put, List.getElem_toArray, List.getElem_cons_zero, List.getElem_cons_succ, List.setIfInBounds_toArray, List.set_cons_zero, List.set_cons_succ]
      refine anyT_one (i := 9) (by kernel_rfl) rfl (fun K hK => ?_)
      go_simp
      refine (HU.out _).mono ?_
      rintro r v5 ⟨rfl, hb5⟩
      have HV5 : Hid (RaI w base M T G cp a E en mp n D S b7 k W4 v5 ∧ Below W.heap.size W v5) := ⟨HBl.out _ (((Below.refl W.heap.size W).drew).trans hb5), ((Below.refl W.heap.size W).drew).trans hb5⟩
      have y0 := HV5.out.1.made.cell (j := 0) rfl
      have y1 := HV5.out.1.made.cell (j := 1) rfl
      have y2 := HV5.out.1.made.cell (j := 2) rfl
      have y3 := HV5.out.1.made.cell (j := 3) rfl
      have o0 := HV5.out.1.made.frozen 0
      have o1 := HV5.out.1.made.frozen 1
      have o2 := HV5.out.1.made.frozen 2
      have o3 := HV5.out.1.made.frozen 3
      refine hK.out _ _ (.inr (HS7.out _ HV5.out.1)) ?_
      clear hK hb5
      try simp only [Act.put, List.getElem_toArray, List.getElem_cons_zero, List.getElem_cons_succ, List.setIfInBounds_toArray, List.set_cons_zero, List.set_cons_succ]
      refine anyT_take (i := 10) (v := ?vraZ10) rfl (by kernel_rfl) (by kernel_rfl) (by kernel_rfl) (by kernel_rfl) (by decide) (fun _ _ _ h => h) (Or.inl ⟨by rfl, ?yraZ10⟩) (HS7.out _ HV5.out.1) ?_
      case yraZ10 => (intro wz hSw; obtain ⟨d0, d1, d2, d3, d4, d5, d6, d7, d8, d9⟩ := hSw; go_simp; (try with_reducible rfl))
      try simp only [Act.put, List.getElem_toArray, List.getElem_cons_zero, List.getElem_cons_succ, List.setIfInBounds_toArray, List.set_cons_zero, List.set_cons_succ]
      refine anyT_one (i := 11) (by kernel_rfl) rfl (fun K hK => ?_)
      go_simp
      refine hK.out _ _ (.inl rfl) ?_
      clear hK
      try simp only [Act.put, List.getElem_toArray, List.getElem_cons_zero, List.getElem_cons_succ, List.setIfInBounds_toArray, List.set_cons_zero, List.set_cons_succ]
      refine anyT_done (by kernel_rfl) ?_
      have hc : Chg (fun j => j = b7) v5 (set4 v5 b7 0 (sOr (ahdT E S k) (E x))) := chg_set4 _ _ _ _ rfl
      have hb7 := HR4.out.2
      have h5 := HV5.out.1
      have hbw : w.heap.size ≤ b7 := h5.made.lt.1
      have hLo := HLo.out
      have hM : ¬ M = b7 := fun q => own_apart h5.st.mtr.box h5.made (by decide) M rfl (by rw [q]; rfl)
      have hG : ¬ G = b7 := fun q => own_apart h5.st.mtr.row h5.made (by decide) G rfl (by rw [q]; rfl)
      have hp : ¬ mp = b7 := h5.st.map.ne h5.made
      have hgt : w.heap.size + 1 + 1 < b7 := HGt.out
      refine ⟨rfl, ⟨Nat.le_trans HV5.out.2.size hc.size, fun j o hj ho _ => (hc.block j (Nat.lt_of_lt_of_le (Array.getElem?_eq_some_iff.1 ho).1 HV5.out.2.size) (by omega)).trans ((HV5.out.2.block j (Array.getElem?_eq_some_iff.1 ho).1).trans ho)⟩, ?_⟩
      refine ⟨h5.st.chg hc hM hG hp (fun j q => by omega), ?_, Chg.below h5.low hc h5.low.size (fun j q => by omega), Nat.le_trans h5.size hc.size⟩
      rw [ahdT_succ hkx HA.out.2.1 HA.out.2.2]
      have h6 := own_set4 h5.made 0 (sOr (ahdT E S k) (E x))
      exact h6
    case doneZ =>
      rintro Dd W hD hA hK
      have m1 := hA.st.ptr.cell (j := 0) rfl
      have m2 := hA.st.mtr.map
      obtain ⟨kk, hkk, hlen⟩ : ∃ kk : Nat, kk ≤ n ∧ ∀ ty, (Builtin.len_ #[176] ty #[.map (some mp)]).run Tryz.prog W = .ok (.int .i64 (kk : Int)) W := ⟨_, hA.st.map.1.size_le, fun ty => hA.st.map.1.len Tryz.underlying176 ty⟩
      have zk : ¬ (1000 : Int) ≤ (kk : Int) := by omega
      have hAd : StD W.drew mp n D E en := hA.st.map.chg (S := fun _ => False) (Chg.of_below ((Below.refl _ _).drew)) (fun q => q)
      obtain ⟨w6, hput, hst6, hc6⟩ := StI.put (S := S) ⟨D, hAd⟩ (by unfold maxLen; omega)
      have HA : Hid (RaI w base M T G cp a E en mp n D S b7 256 W4 W ∧ W.heap[Dd]? = some (.deferred (some [])) ∧ StI w6 mp (n + 1) E en ∧ Chg (fun k => k = mp) W w6 ∧ W4.heap.size ≤ Dd) := by
        refine ⟨hA, hK, hst6, ?_, hD⟩
        have kd : Chg (fun k => k = mp) W W.drew := Chg.of_below ((Below.refl _ _).drew)
        exact kd.trans hc6
      clear hA hK hst6 hc6 hAd m0 q0 q1 q2 q3
      gi_wp2
      clear hlen
      have HS10 : Hid (W.drew.cell? ⟨w.heap.size, 0, none⟩ = some (.pointer (some ⟨M, 0, none⟩)) ∧ W.drew.cell? ⟨M, 1029, none⟩ = some (.map (some mp)) ∧ W.drew.cell? ⟨w.heap.size + 1, 0, none⟩ = some (.int .u64 (wdN S 0 : Int)) ∧ W.drew.cell? ⟨w.heap.size + 1, 1, none⟩ = some (.int .u64 (wdN S 1 : Int)) ∧ W.drew.cell? ⟨w.heap.size + 1, 2, none⟩ = some (.int .u64 (wdN S 2 : Int)) ∧ W.drew.cell? ⟨w.heap.size + 1, 3, none⟩ = some (.int .u64 (wdN S 3 : Int)) ∧ W.drew.cell? ⟨b7, 0, none⟩ = some (.int .u64 (wdN (ahd E S) 0 : Int)) ∧ W.drew.cell? ⟨b7, 1, none⟩ = some (.int .u64 (wdN (ahd E S) 1 : Int)) ∧ W.drew.cell? ⟨b7, 2, none⟩ = some (.int .u64 (wdN (ahd E S) 2 : Int)) ∧ W.drew.cell? ⟨b7, 3, none⟩ = some (.int .u64 (wdN (ahd E S) 3 : Int)) ∧ W.drew.cell? ⟨b7, 4, none⟩ = some (.bool (acc en S))) := by
        have h := HA.out.1
        exact ⟨h.st.ptr.cell (j := 0) rfl, h.st.mtr.map, h.st.set.cell (j := 0) rfl, h.st.set.cell (j := 1) rfl, h.st.set.cell (j := 2) rfl, h.st.set.cell (j := 3) rfl, h.made.cell (j := 0) rfl, h.made.cell (j := 1) rfl, h.made.cell (j := 2) rfl, h.made.cell (j := 3) rfl, h.made.cell (j := 4) rfl⟩
      refine wpIn_wide.2 ?_
      refine wp_region_noPanic ?_
      refine wp_region_T 6 (fun wz => wz.cell? ⟨w.heap.size, 0, none⟩ = some (.pointer (some ⟨M, 0, none⟩)) ∧ wz.cell? ⟨M, 1029, none⟩ = some (.map (some mp)) ∧ wz.cell? ⟨w.heap.size + 1, 0, none⟩ = some (.int .u64 (wdN S 0 : Int)) ∧ wz.cell? ⟨w.heap.size + 1, 1, none⟩ = some (.int .u64 (wdN S 1 : Int)) ∧ wz.cell? ⟨w.heap.size + 1, 2, none⟩ = some (.int .u64 (wdN S 2 : Int)) ∧ wz.cell? ⟨w.heap.size + 1, 3, none⟩ = some (.int .u64 (wdN S 3 : Int)) ∧ wz.cell? ⟨b7, 0, none⟩ = some (.int .u64 (wdN (ahd E S) 0 : Int)) ∧ wz.cell? ⟨b7, 1, none⟩ = some (.int .u64 (wdN (ahd E S) 1 : Int)) ∧ wz.cell? ⟨b7, 2, none⟩ = some (.int .u64 (wdN (ahd E S) 2 : Int)) ∧ wz.cell? ⟨b7, 3, none⟩ = some (.int .u64 (wdN (ahd E S) 3 : Int)) ∧ wz.cell? ⟨b7, 4, none⟩ = some (.bool (acc en S))) (by kernel_rfl) ?_
      refine anyT_take (i := 0) (v := ?vpuZ0) rfl (by kernel_rfl) (by kernel_rfl) (by kernel_rfl) (by kernel_rfl) (by decide) (fun _ _ _ h => h) (Or.inl ⟨by rfl, ?ypuZ0⟩) HS10.out ?_
      case ypuZ0 => (intro wz hSw; obtain ⟨d0, d1, d2, d3, d4, d5, d6, d7, d8, d9, d10⟩ := hSw; go_simp; (try with_reducible rfl))
      try simp only [Act.put, List.getElem_toArray, List.getElem_cons_zero, List.getElem_cons_succ, List.setIfInBounds_toArray, List.set_cons_zero, List.set_cons_succ]
      refine anyT_take (i := 1) (v := ?vpuZ1) rfl (by kernel_rfl) (by kernel_rfl) (by kernel_rfl) (by kernel_rfl) (by decide) (fun _ _ _ h => h) (Or.inl ⟨by rfl, ?ypuZ1⟩) HS10.out ?_
      case ypuZ1 => (intro wz hSw; obtain ⟨d0, d1, d2, d3, d4, d5, d6, d7, d8, d9, d10⟩ := hSw; go_simp; (try with_reducible rfl))
      try simp only [Act.put, List.getElem_toArray, List.getElem_cons_zero, List.getElem_cons_succ, List.setIfInBounds_toArray, List.set_cons_zero, List.set_cons_succ]
      refine anyT_take (i := 2) (v := ?vpuZ2) rfl (by kernel_rfl) (by kernel_rfl) (by kernel_rfl) (by kernel_rfl) (by decide) (fun _ _ _ h => h) (Or.inl ⟨by rfl, ?ypuZ2⟩) HS10.out ?_
      case ypuZ2 => (intro wz hSw; obtain ⟨d0, d1, d2, d3, d4, d5, d6, d7, d8, d9, d10⟩ := hSw; go_simp; (try with_reducible rfl))
      try simp only [Act.put, List.getElem_toArray, List.getElem_cons_zero, List.getElem_cons_succ, List.setIfInBounds_toArray, List.set_cons_zero, List.set_cons_succ]
      refine anyT_take (i := 3) (v := ?vpuZ3) rfl (by kernel_rfl) (by kernel_rfl) (by kernel_rfl) (by kernel_rfl) (by decide) (fun _ _ _ h => h) (Or.inl ⟨by rfl, ?ypuZ3⟩) HS10.out ?_
      case ypuZ3 => (intro wz hSw; obtain ⟨d0, d1, d2, d3, d4, d5, d6, d7, d8, d9, d10⟩ := hSw; go_simp; (try with_reducible rfl))
      try simp only [Act.put, List.getElem_toArray, List.getElem_cons_zero, List.getElem_cons_succ, List.setIfInBounds_toArray, List.set_cons_zero, List.set_cons_succ]
      refine anyT_take (i := 4) (v := ?vpuZ4) rfl (by kernel_rfl) (by kernel_rfl) (by kernel_rfl) (by kernel_rfl) (by decide) (fun _ _ _ h => h) (Or.inl ⟨by rfl, ?ypuZ4⟩) HS10.out ?_
      case ypuZ4 => (intro wz hSw; obtain ⟨d0, d1, d2, d3, d4, d5, d6, d7, d8, d9, d10⟩ := hSw; go_simp; (try with_reducible rfl))
      try simp only [Act.put, List.getElem_toArray, List.getElem_cons_zero, List.getElem_cons_succ, List.setIfInBounds_toArray, List.set_cons_zero, List.set_cons_succ]
      refine anyT_take (i := 5) (v := ?vpuZ5) rfl (by kernel_rfl) (by kernel_rfl) (by kernel_rfl) (by kernel_rfl) (by decide) (fun _ _ _ h => h) (Or.inl ⟨by rfl, ?ypuZ5⟩) HS10.out ?_
      case ypuZ5 => (intro wz hSw; obtain ⟨d0, d1, d2, d3, d4, d5, d6, d7, d8, d9, d10⟩ := hSw; go_simp; (try with_reducible rfl))
      try simp only [Act.put, List.getElem_toArray, List.getElem_cons_zero, List.getElem_cons_succ, List.setIfInBounds_toArray, List.set_cons_zero, List.set_cons_succ]
      refine anyT_one (i := 6) (by kernel_rfl) rfl (fun K hK => ?_)
      go_simp
      refine hK.out _ _ (.inl rfl) ?_
      clear hK
      try simp only [Act.put, List.getElem_toArray, List.getElem_cons_zero, List.getElem_cons_succ, List.setIfInBounds_toArray, List.set_cons_zero, List.set_cons_succ]
      refine anyT_done (by kernel_rfl) ?_
      dsimp only [NoPanic]
      have hp : ¬ mp = b7 := HA.out.1.st.map.ne HA.out.1.made
      have ha2 : ¬ mp = w.heap.size + 1 + 1 := HA.out.1.st.map.ne HA.out.1.st.ans
      have hB6 : BoxAt w6 w.heap.size 188 5 b7 (stL (ahd E S) (acc en S)) := HA.out.1.made.chg HA.out.2.2.2.1 (fun q => hp q.symm)
      have hA6 := HA.out.1.st.ans.chg HA.out.2.2.2.1 (fun q => ha2 q.symm)
      have r0 := hB6.cell (j := 0) rfl
      have a0 := hA6.cell (j := 0) rfl
      have f0 := hA6.frozen 0
      have r1 := hB6.cell (j := 1) rfl
      have a1 := hA6.cell (j := 1) rfl
      have f1 := hA6.frozen 1
      have r2 := hB6.cell (j := 2) rfl
      have a2 := hA6.cell (j := 2) rfl
      have f2 := hA6.frozen 2
      have r3 := hB6.cell (j := 3) rfl
      have a3 := hA6.cell (j := 3) rfl
      have f3 := hA6.frozen 3
      have r4 := hB6.cell (j := 4) rfl
      have a4 := hA6.cell (j := 4) rfl
      have f4 := hA6.frozen 4
      obtain ⟨W7, hW7⟩ : ∃ W7 : World, W7 = set5 w6 (w.heap.size + 1 + 1) (ahd E S) (acc en S) := ⟨_, rfl⟩
      have h := HA.out.1
      have hc7 : Chg (fun k => k = w.heap.size + 1 + 1) w6 W7 := by rw [hW7]; exact chg_set5 _ _ _ _ rfl
      have hLo := HLo.out
      have hM6 := h.st.mtr.box.chg HA.out.2.2.2.1 (fun q => box_mapD h.st.map h.st.mtr.box q)
      have hDm : ¬ Dd = mp := fun q => by
        obtain ⟨⟨es, c, h1, _⟩, _⟩ := h.st.map
        rw [← q, HA.out.2.1] at h1
        cases h1
      have hKD : W7.heap[Dd]? = some (.deferred (some [])) := by
        have hl : Dd < W.heap.size := (Array.getElem?_eq_some_iff.1 HA.out.2.1).1
        rw [hc7.block Dd (Nat.lt_of_lt_of_le hl HA.out.2.2.2.1.size) (by have := HA.out.2.2.2.2; omega), HA.out.2.2.2.1.block Dd hl hDm]
        exact HA.out.2.1
      have hMm : ¬ M = mp := box_mapD h.st.map h.st.mtr.box
      have hGm : ¬ G = mp := fun q => h.st.map.ne h.st.mtr.row q.symm
      have hMa : ¬ M = w.heap.size + 1 + 1 := fun q => own_apart h.st.mtr.box h.st.ans (by decide) M rfl (by rw [q]; rfl)
      have hGa : ¬ G = w.heap.size + 1 + 1 := fun q => own_apart h.st.mtr.row h.st.ans (by decide) G rfl (by rw [q]; rfl)
      have hbp : base ≤ mp := HLp.out
      have hc8 : Chg (fun k => k = Dd) W7 (W7.putObj Dd (.deferred none)) := Chg.of_grown (grownBy_putObj' W7 Dd _) (fun j q => by cases q; rfl)
      have hDd := HA.out.2.2.2.2
      have HF : Hid (StP base M T G cp a E en mp n S w (.returned (stV (ahd E S) (acc en S))) (W7.putObj Dd (.deferred none)) ∧ BoxAt (W7.putObj Dd (.deferred none)) w.heap.size 188 5 (w.heap.size + 1 + 1) (stL (ahd E S) (acc en S))) := by
        have m6 := h.st.mtr.chg HA.out.2.2.2.1 hMm hGm (fun k q => by omega)
        have m7 := m6.chg hc7 hMa hGa (fun k q => by omega)
        have m8 := m7.chg hc8 (by omega) (by omega) (fun k q => by omega)
        have hx : Chg (fun k => k = mp) w w6 := (Chg.of_below h.low).trans HA.out.2.2.2.1
        have hx7 := chg_ownS hx (hc7.mono (fun k q => by omega))
        have hx8 := chg_ownS hx7 (hc8.mono (fun k q => by omega))
        refine ⟨⟨rfl, m8, (HA.out.2.2.1.chg hc7 ha2).chg hc8 (fun q => hDm q.symm), hx8⟩, ?_⟩
        have b7' := hA6.set5 (ahd E S) (acc en S)
        rw [← hW7] at b7'
        exact b7'.chg hc8 (by omega)
      have hW7' := hW7
      simp only [set5] at hW7'
      clear hB6 hA6 hc7 hc8 hM6
      gi_wp2
      rw [← hW7']
      refine ⟨by simp, .inl ⟨_, _, rfl, run_takeDeferred hKD, ?_⟩⟩
      exact ⟨_, st_res (base := w.heap.size) (g := w.heap.size + 1 + 1) rfl HF.out.2, HF.out.1⟩
end Go.Proofs.YtkidabedcgngcaaGreatDoor

/-
  How heavy a pattern is: no list of it is longer, it has no more positions.
-/
namespace Go.Proofs.YtkidabedcgngcaaGreatDoor
set_option linter.unusedVariables false
set_option linter.unusedSimpArgs false
mutual
def wtP : Pat → Nat
  | .byte _ => 1
  | .cls _ => 1
  | .rep t _ _ => wtP t
  | .alt os => wtA os + 1
def wtA : List (List Pat) → Nat
  | [] => 0
  | ts :: os => wtS ts + 1 + wtA os
def wtS : List Pat → Nat
  | [] => 0
  | t :: ts => wtP t + wtS ts
end
theorem wtP_pos : ∀ t : Pat, 1 ≤ wtP t
  | .byte _ => by simp [wtP]
  | .cls _ => by simp [wtP]
  | .rep t _ _ => by simp only [wtP]; exact wtP_pos t
  | .alt os => by simp [wtP]
theorem wtS_len : ∀ ts : List Pat, ts.length ≤ wtS ts
  | [] => by simp [wtS]
  | t :: ts => by have := wtS_len ts; have := wtP_pos t; simp only [wtS, List.length_cons]; omega
theorem wtA_len : ∀ os : List (List Pat), os.length ≤ wtA os
  | [] => by simp [wtA]
  | t :: ts => by have := wtA_len ts; simp only [wtA, List.length_cons]; omega
theorem wtS_mem : ∀ {ts : List Pat} {t : Pat}, t ∈ ts → wtP t ≤ wtS ts
  | s :: ts, t, h => by
    rcases List.mem_cons.1 h with rfl | q
    · simp only [wtS]; omega
    · have := wtS_mem q; simp only [wtS]; omega
theorem wtA_mem : ∀ {os : List (List Pat)} {ts : List Pat}, ts ∈ os → wtS ts ≤ wtA os
  | s :: os, ts, h => by
    rcases List.mem_cons.1 h with rfl | q
    · simp only [wtA]; omega
    · have := wtA_mem q; simp only [wtA]; omega
theorem wt_rep {A : List UInt8 → Pat → Prop} (hA : ∀ xs t, A xs t → wtP t ≤ xs.length) {xs : List UInt8} {t : Pat} : RepG A xs t → wtP t ≤ xs.length
  | ⟨ys, ops, a, h1, h2, h3, h4⟩ => by
    have := hA _ _ h2
    rw [h1, h4]
    split
    · simp; omega
    · simp only [wtP, List.length_append]; omega
theorem wt_seq {A : List UInt8 → Pat → Prop} (hA : ∀ xs t, A xs t → wtP t ≤ xs.length) : ∀ {ts : List Pat} {xs : List UInt8}, SeqG A ts xs → wtS ts ≤ xs.length
  | [], _, h => by simp [wtS]
  | t :: ts, xs, ⟨ys, zs, h1, h2, h3⟩ => by
    have := wt_rep hA h2
    have := wt_seq hA h3
    rw [h1]; simp only [wtS, List.length_append]; omega
theorem wt_alt {A : List UInt8 → Pat → Prop} (hA : ∀ xs t, A xs t → wtP t ≤ xs.length) : ∀ {os : List (List Pat)} {xs : List UInt8}, AltG A os xs → wtA os ≤ xs.length + 1
  | [], _, h => h.elim
  | [ts], xs, h => by have := wt_seq hA (ts := ts) (xs := xs) h; simp only [wtA]; omega
  | ts :: t2 :: os, xs, ⟨ys, zs, h1, h2, h3⟩ => by
    have := wt_seq hA h2
    have := wt_alt hA (os := t2 :: os) h3
    rw [h1]; rw [show wtA (ts :: t2 :: os) = wtS ts + 1 + wtA (t2 :: os) from rfl]; simp only [List.length_append, List.length_cons]; omega
theorem wt_atom : ∀ (n : Nat) (xs : List UInt8) (t : Pat), AtomG n xs t → wtP t ≤ xs.length
  | 0, _, _, h => h.elim
  | n + 1, xs, t, h => by
    rcases h with ⟨c, rfl, _, rfl⟩ | ⟨rfl, rfl⟩ | ⟨c, rfl, rfl⟩ | ⟨ys, os, rfl, h2, rfl⟩ | ⟨p, i, k, f, h1, h2, rfl, rfl⟩
    · simp [wtP]
    · simp [wtP]
    · simp [wtP]
    · have := wt_alt (fun xs t q => wt_atom n xs t q) h2
      simp only [wtP, List.length_append, List.length_cons, List.length_nil]; omega
    · have hg := classM_gt h2
      rw [cut_len hg.2]; simp only [wtP]; omega
mutual
theorem nx_P : ∀ (t : Pat) (a : Nat), (lyP t a).nx ≤ a + wtP t
  | .byte _, a => by simp [lyP, wtP]
  | .cls _, a => by simp [lyP, wtP]
  | .rep t _ _, a => by simp only [lyP, wtP, Lay.rep]; exact nx_P t a
  | .alt os, a => by have := nx_A os (Lay.no a); simp only [lyP, wtP, Lay.no] at *; omega
theorem nx_A : ∀ (os : List (List Pat)) (g : Lay), (lyA os g).nx ≤ g.nx + wtA os
  | [], g => by simp [lyA, wtA]
  | ts :: os, g => by
    have h1 := nx_A os (g.alt (lyS ts true (Lay.no g.nx)))
    have h2 := nx_S ts true (Lay.no g.nx)
    simp only [lyA, wtA, Lay.alt, Lay.no] at *; omega
theorem nx_S : ∀ (ts : List Pat) (em : Bool) (g : Lay), (lyS ts em g).nx ≤ g.nx + wtS ts
  | [], em, g => by simp [lyS, wtS]
  | t :: ts, em, g => by
    have h1 := nx_S ts (em && nulB t) (g.seq em (nulB t) (lyP t g.nx))
    have h2 := nx_P t g.nx
    simp only [lyS, wtS, Lay.seq] at *; omega
end
end Go.Proofs.YtkidabedcgngcaaGreatDoor

/-
  Which node an interface holds.
-/
namespace Go.Proofs.YtkidabedcgngcaaGreatDoor
set_option linter.unusedVariables false
set_option maxRecDepth 100000

/-- A type's zero, as the program lays it. -/
noncomputable def zeroOf (t : Nat) : Value := ((Tryz.prog.info? t).bind (fun i => i.zero)).getD undef
theorem asBB (cs : Array Value) (w : World) : (Instr.typeAssert (.iface 211 (.agg cs)) 209 211 true).run Tryz.prog w = .ok (.tuple #[.agg cs, .bool true]) w := by kernel_rfl
theorem asCC (cs : Array Value) (w : World) : (Instr.typeAssert (.iface 217 (.agg cs)) 209 217 true).run Tryz.prog w = .ok (.tuple #[.agg cs, .bool true]) w := by kernel_rfl
theorem asCB (cs : Array Value) (w : World) : (Instr.typeAssert (.iface 217 (.agg cs)) 209 211 true).run Tryz.prog w = .ok (.tuple #[zeroOf 211, .bool false]) w := by kernel_rfl
theorem asRR (cs : Array Value) (w : World) : (Instr.typeAssert (.iface 219 (.agg cs)) 209 219 true).run Tryz.prog w = .ok (.tuple #[.agg cs, .bool true]) w := by kernel_rfl
theorem asRB (cs : Array Value) (w : World) : (Instr.typeAssert (.iface 219 (.agg cs)) 209 211 true).run Tryz.prog w = .ok (.tuple #[zeroOf 211, .bool false]) w := by kernel_rfl
theorem asRC (cs : Array Value) (w : World) : (Instr.typeAssert (.iface 219 (.agg cs)) 209 217 true).run Tryz.prog w = .ok (.tuple #[zeroOf 217, .bool false]) w := by kernel_rfl
theorem asSS (cs : Array Value) (w : World) : (Instr.typeAssert (.iface 206 (.agg cs)) 209 206 true).run Tryz.prog w = .ok (.tuple #[.agg cs, .bool true]) w := by kernel_rfl
theorem asSB (cs : Array Value) (w : World) : (Instr.typeAssert (.iface 206 (.agg cs)) 209 211 true).run Tryz.prog w = .ok (.tuple #[zeroOf 211, .bool false]) w := by kernel_rfl
theorem asSC (cs : Array Value) (w : World) : (Instr.typeAssert (.iface 206 (.agg cs)) 209 217 true).run Tryz.prog w = .ok (.tuple #[zeroOf 217, .bool false]) w := by kernel_rfl
theorem asSR (cs : Array Value) (w : World) : (Instr.typeAssert (.iface 206 (.agg cs)) 209 219 true).run Tryz.prog w = .ok (.tuple #[zeroOf 219, .bool false]) w := by kernel_rfl
theorem asAA (cs : Array Value) (w : World) : (Instr.typeAssert (.iface 142 (.agg cs)) 209 142 true).run Tryz.prog w = .ok (.tuple #[.agg cs, .bool true]) w := by kernel_rfl
theorem asAB (cs : Array Value) (w : World) : (Instr.typeAssert (.iface 142 (.agg cs)) 209 211 true).run Tryz.prog w = .ok (.tuple #[zeroOf 211, .bool false]) w := by kernel_rfl
theorem asAC (cs : Array Value) (w : World) : (Instr.typeAssert (.iface 142 (.agg cs)) 209 217 true).run Tryz.prog w = .ok (.tuple #[zeroOf 217, .bool false]) w := by kernel_rfl
theorem asAR (cs : Array Value) (w : World) : (Instr.typeAssert (.iface 142 (.agg cs)) 209 219 true).run Tryz.prog w = .ok (.tuple #[zeroOf 219, .bool false]) w := by kernel_rfl
theorem asAS (cs : Array Value) (w : World) : (Instr.typeAssert (.iface 142 (.agg cs)) 209 206 true).run Tryz.prog w = .ok (.tuple #[zeroOf 206, .bool false]) w := by kernel_rfl
end Go.Proofs.YtkidabedcgngcaaGreatDoor

