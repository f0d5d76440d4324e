import Derived.Test.YtkidabedcgngcaaGreatDoorPkAZ
import Derived.Test.YtkidabedcgngcaaGreatDoorPkAF
import Derived.Test.YtkidabedcgngcaaGreatDoorPkAE
/-
  impl.stepOf.
-/
namespace Go.Proofs.YtkidabedcgngcaaGreatDoor
open Go.ChangeShapes Go.WideShapes Go.ChangeAt Go.RowKit Go.Deep
set_option linter.unusedVariables false
set_option linter.unusedSimpArgs false
set_option maxRecDepth 100000

theorem run_store_fn {P : Program} {w : World} {a : Addr} {m : Mode} (f : Fn) (b c : Array Value) : (store a (.func f b c) m).run P w = stored P w a (.func f b c) m := run_store P w a _ m rfl
attribute [local go_sem] run_store_fn
abbrev fvC (f : Nat × Array Value) : Value := .func (Fn.func f.1) #[] f.2
/-- What stepOf hands back: a step of the tree in blocks of the operands' and in new ones. -/
def SoP (t : CT) (Q : Nat → Prop) (w : World) (e : Ending) (w' : World) : Prop := ∃ (f : Nat × Array Value), e = .returned (fvC f) ∧ Hid (∃ R : Nat → Prop, StepAt w' t R (fvC f) ∧ (∀ k, R k → Q k ∨ (w.heap.size ≤ k ∧ k < w'.heap.size)) ∧ Below w.heap.size w w')
theorem goodN_num {n : Nd} (h : GoodN n) (hk : n.kind = 11 ∨ n.kind = 12 ∨ n.kind = 13) : 1 ≤ n.n ∧ n.n ≤ 1000 := by
  rcases h.2.2.2 with q | q | q | q | q
  · have := q.1; omega
  · have := q.1; omega
  · have := q.1; omega
  · exact q.2.2
  · have := q.1; omega
theorem goodN_pat {n : Nd} (h : GoodN n) (hk : PatK n.kind) : (checkM (sb n.s)).1 = 0 := by
  unfold PatK at hk
  rcases h.2.2.2 with q | q | q | q | q
  · exact q.2.2
  · have := q.1; omega
  · have := q.1; omega
  · have := q.1; omega
  · have := q.1; omega
theorem box_base {w : World} {base t sz g : Nat} {vs : List Value} (h : BoxAt w base t sz g vs) : BoxAt w 0 t sz g vs := row_low h (Nat.zero_le _)
set_option maxHeartbeats 4000000 in
theorem sto_leaf (n : Nd) (hg : GoodN n) (ha : arity n.kind = 0) (b off cx m : Nat) (w : World) (hT : TabD w) : Calls Tryz.prog 31 #[n.v, .slice (some ⟨b, off, none⟩) m cx] w (SoP (.leaf n) (fun _ => False) w) := by
  obtain ⟨W1, hW1⟩ : ∃ W1 : World, W1 = w.alloc (.cells #[.int .i64 n.kind, .string n.s, .bool n.hi, .string n.t, .int .u64 n.lo, .int .u64 n.up, .int .i64 n.n] 75) := ⟨_, rfl⟩
  have z1 : W1.heap.size = w.heap.size + 1 := by rw [hW1]; simp
  have HW1 : Hid (BoxAt W1 w.heap.size 75 7 w.heap.size n.seven ∧ Below w.heap.size w W1 ∧ W1.heap.size = w.heap.size + 1) := ⟨by rw [hW1]; exact boxAt_new w _ (Nat.le_refl _) rfl, by rw [hW1]; exact (Below.refl _ _).alloc (Nat.le_refl _) _, z1⟩
  have HG : Hid (GoodN n ∧ TabD w) := ⟨hg, hT⟩
  have hkk : ¬ n.kind = 14 ∧ ¬ n.kind = 15 ∧ ¬ n.kind = 16 := by
    unfold arity at ha
    refine ⟨fun q => ?_, fun q => ?_, fun q => ?_⟩
    · rw [if_pos (.inl q)] at ha; cases ha
    · rw [if_pos (.inr q)] at ha; cases ha
    · rw [if_neg (by omega), if_pos q] at ha; cases ha
  have b14 : (n.kind == 14) = false := by rw [beq_eq_false_iff_ne]; exact hkk.1
  have b15 : (n.kind == 15) = false := by rw [beq_eq_false_iff_ne]; exact hkk.2.1
  have b16 : (n.kind == 16) = false := by rw [beq_eq_false_iff_ne]; exact hkk.2.2
  clear hg hT ha hkk z1
  have n0 := HW1.out.1.cell (j := 0) rfl
  have n1 := HW1.out.1.cell (j := 1) rfl
  have n2 := HW1.out.1.cell (j := 2) rfl
  have n3 := HW1.out.1.cell (j := 3) rfl
  have n4 := HW1.out.1.cell (j := 4) rfl
  have n5 := HW1.out.1.cell (j := 5) rfl
  have n6 := HW1.out.1.cell (j := 6) rfl
  by_cases h3 : n.kind = 3
  · have HE : Hid (SoP (.leaf n) (fun _ => False) w (.returned (fvC (66, #[]))) W1) := ⟨_, rfl, fun _ => False, .strip h3, fun k q => q.elim, HW1.out.2.1⟩
    have b3 : (n.kind == 3) = true := by rw [beq_iff_eq]; exact h3
    clear h3
    go_enter Tryz.func31, Tryz.ntmps31
    go_upto_region 1 with fail
    rw [← hW1]
    clear hW1
    go_wp2_with fail
    go_ret
    exact HE.out
  have b3 : (n.kind == 3) = false := by rw [beq_eq_false_iff_ne]; exact h3
  by_cases h11 : n.kind = 11
  · have HE : Hid (SoP (.leaf n) (fun _ => False) w (.returned (fvC (67, #[ptrC w.heap.size]))) W1) := ⟨_, rfl, fun k => k = w.heap.size, .vers h11 (goodN_num HG.out.1 (by omega)) _ rfl (box_base HW1.out.1), fun k q => .inr ⟨by omega, by have := HW1.out.2.2; omega⟩, HW1.out.2.1⟩
    have b11 : (n.kind == 11) = true := by rw [beq_iff_eq]; exact h11
    clear h11
    go_enter Tryz.func31, Tryz.ntmps31
    go_upto_region 1 with fail
    rw [← hW1]
    clear hW1
    go_wp2_with fail
    go_ret
    exact HE.out
  have b11 : (n.kind == 11) = false := by rw [beq_eq_false_iff_ne]; exact h11
  by_cases h12 : n.kind = 12
  · have HE : Hid (SoP (.leaf n) (fun _ => False) w (.returned (fvC (69, #[ptrC w.heap.size]))) W1) := ⟨_, rfl, fun k => k = w.heap.size, .cells h12 (goodN_num HG.out.1 (by omega)) _ rfl (box_base HW1.out.1), fun k q => .inr ⟨by omega, by have := HW1.out.2.2; omega⟩, HW1.out.2.1⟩
    have b12 : (n.kind == 12) = true := by rw [beq_iff_eq]; exact h12
    clear h12
    go_enter Tryz.func31, Tryz.ntmps31
    go_upto_region 1 with fail
    rw [← hW1]
    clear hW1
    go_wp2_with fail
    go_ret
    exact HE.out
  have b12 : (n.kind == 12) = false := by rw [beq_eq_false_iff_ne]; exact h12
  by_cases h13 : n.kind = 13
  · have HE : Hid (SoP (.leaf n) (fun _ => False) w (.returned (fvC (70, #[ptrC w.heap.size]))) W1) := ⟨_, rfl, fun k => k = w.heap.size, .skip h13 (goodN_num HG.out.1 (by omega)) _ rfl (box_base HW1.out.1), fun k q => .inr ⟨by omega, by have := HW1.out.2.2; omega⟩, HW1.out.2.1⟩
    have b13 : (n.kind == 13) = true := by rw [beq_iff_eq]; exact h13
    clear h13
    go_enter Tryz.func31, Tryz.ntmps31
    go_upto_region 1 with fail
    rw [← hW1]
    clear hW1
    go_wp2_with fail
    go_ret
    exact HE.out
  have b13 : (n.kind == 13) = false := by rw [beq_eq_false_iff_ne]; exact h13
  have HP : Hid (Plain n) := ⟨h3, h11, h12, h13⟩
  have HC : Hid (Calls Tryz.prog 71 #[n.v] W1 (CteP n W1)) := makeCellTest_core n W1 (HG.out.2.chg (S := fun _ => False) (Chg.of_below HW1.out.2.1) (fun q => q)) (by have := HG.out.1.1; unfold maxLen; omega) (goodN_pat HG.out.1)
  clear h3 h11 h12 h13
  go_enter Tryz.func31, Tryz.ntmps31
  go_upto_region 1 with fail
  rw [← hW1]
  clear hW1
  go_wp2_with fail
  refine HC.out.mono ?_
  rintro e w2 ⟨mp, rfl, H2⟩
  obtain ⟨W3, hW3⟩ : ∃ W3 : World, W3 = w2.alloc (.cells #[.int .i64 n.kind, .string n.s, .bool n.hi, .string n.t, .int .u64 n.lo, .int .u64 n.up, .int .i64 n.n, .pointer mp] 111) := ⟨_, rfl⟩
  have HE : Hid (SoP (.leaf n) (fun _ => False) w (.returned (fvC (72, #[ptrC w2.heap.size]))) W3) := by
    have s1 := HW1.out.2.2
    have s2 := H2.out.2.size
    have k3 : Below w2.heap.size w2 W3 := by rw [hW3]; exact (Below.refl _ _).alloc (Nat.le_refl _) _
    have s3 : W3.heap.size = w2.heap.size + 1 := by rw [hW3]; simp
    refine ⟨_, rfl, fun k => InB W1.heap.size W3.heap.size k, .test HP.out w2.heap.size W1.heap.size w2.heap.size mp ⟨⟨by omega, by omega⟩, fun z => by have := z.2; omega⟩ ⟨by omega, Nat.le_refl _⟩ (fun k z => ⟨z.1, by have := z.2; omega⟩) ?_ (H2.out.1.below k3), fun k q => .inr ⟨by have := q.1; omega, q.2⟩, (HW1.out.2.1.trans (H2.out.2.mono (by omega))).trans (k3.mono (by omega))⟩
    rw [hW3]; exact boxAt_new w2 #[.int .i64 n.kind, .string n.s, .bool n.hi, .string n.t, .int .u64 n.lo, .int .u64 n.up, .int .i64 n.n, .pointer mp] (Nat.zero_le _) rfl
  go_upto_region 19 with fail
  rw [← hW3]
  clear hW3 n0 n1 n2 n3 n4 n5 n6
  go_wp2_with fail
  go_ret
  exact HE.out
/-- Two func values in variables of their own. -/
theorem two_made {X : World} (fa fb : Value) : BoxAt ((((X.alloc (.cells #[.nilFunc] 58)).alloc (.cells #[.nilFunc] 58)).setCell ⟨X.heap.size, 0, none⟩ fa).setCell ⟨X.heap.size + 1, 0, none⟩ fb) 0 58 1 X.heap.size [fa] ∧ BoxAt ((((X.alloc (.cells #[.nilFunc] 58)).alloc (.cells #[.nilFunc] 58)).setCell ⟨X.heap.size, 0, none⟩ fa).setCell ⟨X.heap.size + 1, 0, none⟩ fb) 0 58 1 (X.heap.size + 1) [fb] ∧ Below X.heap.size X ((((X.alloc (.cells #[.nilFunc] 58)).alloc (.cells #[.nilFunc] 58)).setCell ⟨X.heap.size, 0, none⟩ fa).setCell ⟨X.heap.size + 1, 0, none⟩ fb) ∧ ((((X.alloc (.cells #[.nilFunc] 58)).alloc (.cells #[.nilFunc] 58)).setCell ⟨X.heap.size, 0, none⟩ fa).setCell ⟨X.heap.size + 1, 0, none⟩ fb).heap.size = X.heap.size + 2 := by
  obtain ⟨X1, hX1⟩ : ∃ X1, X1 = X.alloc (.cells #[.nilFunc] 58) := ⟨_, rfl⟩
  have z1 : X1.heap.size = X.heap.size + 1 := by rw [hX1]; simp
  have b1 : BoxAt X1 0 58 1 X.heap.size [.nilFunc] := by rw [hX1]; exact boxAt_new X #[.nilFunc] (Nat.zero_le _) rfl
  have k1 : Below X.heap.size X X1 := by rw [hX1]; exact (Below.refl _ _).alloc (Nat.le_refl _) _
  rw [← hX1]
  obtain ⟨X2, hX2⟩ : ∃ X2, X2 = X1.alloc (.cells #[.nilFunc] 58) := ⟨_, rfl⟩
  have b2 : BoxAt X2 0 58 1 X1.heap.size [.nilFunc] := by rw [hX2]; exact boxAt_new X1 #[.nilFunc] (Nat.zero_le _) rfl
  have k2 : Below X1.heap.size X1 X2 := by rw [hX2]; exact (Below.refl _ _).alloc (Nat.le_refl _) _
  have z2 : X2.heap.size = X.heap.size + 2 := by rw [hX2]; simp [z1]
  rw [← hX2]
  rw [z1] at b2
  have c1 := (b1.below k2).set 0 fa
  have c2 := b2.beside (k := X.heap.size) (by omega) 0 fa
  refine ⟨c1.beside (by omega) 0 fb, c2.set 0 fb, ?_, by simp [z2]⟩
  exact below_set (below_set (k1.trans (k2.mono k1.size)) (Nat.le_refl _) 0 fa) (by omega) 0 fb
set_option maxHeartbeats 8000000 in
theorem sto_chain (n : Nd) (hk : n.kind = 14) (b off cx : Nat) (fa fb : Nat × Array Value) (ta tb : CT) (A B : Nat → Prop) (w : World) (h0 : w.cell? ⟨b, off, none⟩ = some (fvC fa)) (h1 : w.cell? ⟨b, off + 1, none⟩ = some (fvC fb)) (hb : b < w.heap.size) (hA : StepAt w ta A (fvC fa)) (hB : StepAt w tb B (fvC fb)) (hd : ∀ k, A k → ¬ B k) (hla : ∀ k, A k → k < w.heap.size) (hlb : ∀ k, B k → k < w.heap.size) : Calls Tryz.prog 31 #[n.v, .slice (some ⟨b, off, none⟩) 2 cx] w (SoP (.chain n ta tb) (fun k => A k ∨ B k) w) := by
  obtain ⟨W1, hW1⟩ : ∃ W1 : World, W1 = w.alloc (.cells #[.int .i64 n.kind, .string n.s, .bool n.hi, .string n.t, .int .u64 n.lo, .int .u64 n.up, .int .i64 n.n] 75) := ⟨_, rfl⟩
  have z1 : W1.heap.size = w.heap.size + 1 := by rw [hW1]; simp
  have k1 : Below w.heap.size w W1 := by rw [hW1]; exact (Below.refl _ _).alloc (Nat.le_refl _) _
  have n0 : W1.cell? ⟨w.heap.size, 0, none⟩ = some (.int .i64 n.kind) := by rw [hW1]; simp
  have hS0 : (fun w' : World => w'.cell? ⟨b, off, none⟩ = some (fvC fa) ∧ w'.cell? ⟨b, off + 1, none⟩ = some (fvC fb)) W1.drew := ⟨by show W1.cell? _ = _; rw [(Chg.of_below k1 (S := fun _ => False)).cell (p := ⟨b, off, none⟩) hb (fun q => q)]; exact h0, by show W1.cell? _ = _; rw [(Chg.of_below k1 (S := fun _ => False)).cell (p := ⟨b, off + 1, none⟩) hb (fun q => q)]; exact h1⟩
  have kd : Below w.heap.size w W1.drew := k1.drew
  have HSb : Hid (∀ X : World, Below w.heap.size w X → X.cell? ⟨b, off, none⟩ = some (fvC fa) ∧ X.cell? ⟨b, off + 1, none⟩ = some (fvC fb)) := fun X hX => ⟨by rw [hX.cell (p := ⟨b, off, none⟩) hb]; exact h0, by rw [hX.cell (p := ⟨b, off + 1, none⟩) hb]; exact h1⟩
  have HF : Hid (∀ (Y : World) (pa pb : Nat), BoxAt Y 0 58 1 pa [fvC fa] → BoxAt Y 0 58 1 pb [fvC fb] → Below w.heap.size w Y → w.heap.size ≤ pa → w.heap.size ≤ pb → SoP (.chain n ta tb) (fun k => A k ∨ B k) w (.returned (fvC (62, #[ptrC pb, ptrC pa]))) Y) := fun Y pa pb hpa hpb hY ga gb => by
    refine ⟨_, rfl, fun k => (A k ∨ B k) ∨ k = pa ∨ k = pb, ⟨A, B, pa, pb, fa.1, fa.2, fb.1, fb.2, ⟨fun k z => .inl (.inl z), fun k z => .inl (.inr z), hd⟩, ⟨.inr (.inl rfl), fun z => by have := hla _ z; omega⟩, ⟨.inr (.inl rfl), fun z => by have := hlb _ z; omega⟩, ⟨.inr (.inr rfl), fun z => by have := hla _ z; omega⟩, ⟨.inr (.inr rfl), fun z => by have := hlb _ z; omega⟩, rfl, hpa, hpb, hA.below hY, hB.below hY⟩, fun k z => ?_, hY⟩
    rcases z with z | z | z
    · exact .inl z
    · exact .inr ⟨by omega, by have := hpa.lt.2; omega⟩
    · exact .inr ⟨by omega, by have := hpb.lt.2; omega⟩
  have HZ : Hid (Below w.heap.size w W1.drew ∧ W1.drew.heap.size = w.heap.size + 1) := ⟨kd, z1⟩
  have zk : (n.kind == 14) = true := by rw [beq_iff_eq]; exact hk
  
  clear hA hB hd hla hlb h0 h1 hb k1 kd hk
  obtain ⟨fka, fca⟩ := fa
  obtain ⟨fkb, fcb⟩ := fb
  go_enter Tryz.func31, Tryz.ntmps31
  go_upto_region 1 with fail
  rw [← hW1]
  clear hW1
  go_upto_region 3 with fail
  refine wp_region_T 99 (fun w' : World => w'.cell? ⟨b, off, none⟩ = some (.func (Fn.func fka) #[] fca) ∧ w'.cell? ⟨b, off + 1, none⟩ = some (.func (Fn.func fkb) #[] fcb)) (by kernel_rfl) ?_
  refine anyT_takeN (i := 0) (v := ?voc0) rfl (by kernel_rfl) (by kernel_rfl) (by kernel_rfl) (by rfl) (fun _ _ _ h => h) (Or.inl ⟨by rfl, ?yoc0⟩) hS0 ?_
  case yoc0 => (intro wz hSw; obtain ⟨hz0, hz1⟩ := hSw; go_simp; (try with_reducible rfl))
  try simp only [Act.put, List.getElem_toArray, List.getElem_cons_zero, List.getElem_cons_succ, List.setIfInBounds_toArray, List.set_cons_zero, List.set_cons_succ]
  refine anyT_takeN (i := 1) (v := ?voc1) rfl (by kernel_rfl) (by kernel_rfl) (by kernel_rfl) (by rfl) (fun _ _ _ h => h) (Or.inl ⟨by rfl, ?yoc1⟩) hS0 ?_
  case yoc1 => (intro wz hSw; obtain ⟨hz0, hz1⟩ := hSw; go_simp; (try with_reducible rfl))
  try simp only [Act.put, List.getElem_toArray, List.getElem_cons_zero, List.getElem_cons_succ, List.setIfInBounds_toArray, List.set_cons_zero, List.set_cons_succ]
  refine anyT_takeN (i := 2) (v := ?voc2) rfl (by kernel_rfl) (by kernel_rfl) (by kernel_rfl) (by rfl) (fun _ _ _ h => h) (Or.inl ⟨by rfl, ?yoc2⟩) hS0 ?_
  case yoc2 => (intro wz hSw; obtain ⟨hz0, hz1⟩ := hSw; go_simp; (try with_reducible rfl))
  try simp only [Act.put, List.getElem_toArray, List.getElem_cons_zero, List.getElem_cons_succ, List.setIfInBounds_toArray, List.set_cons_zero, List.set_cons_succ]
  refine anyT_takeN (i := 3) (v := ?voc3) rfl (by kernel_rfl) (by kernel_rfl) (by kernel_rfl) (by rfl) (fun _ _ _ h => h) (Or.inl ⟨by rfl, ?yoc3⟩) hS0 ?_
  case yoc3 => (intro wz hSw; obtain ⟨hz0, hz1⟩ := hSw; go_simp; (try with_reducible rfl))
  try simp only [Act.put, List.getElem_toArray, List.getElem_cons_zero, List.getElem_cons_succ, List.setIfInBounds_toArray, List.set_cons_zero, List.set_cons_succ]
  refine anyT_takeN (i := 4) (v := ?voc4) rfl (by kernel_rfl) (by kernel_rfl) (by kernel_rfl) (by rfl) (fun _ _ _ h => h) (Or.inl ⟨by rfl, ?yoc4⟩) hS0 ?_
  case yoc4 => (intro wz hSw; obtain ⟨hz0, hz1⟩ := hSw; go_simp; (try with_reducible rfl))
  try simp only [Act.put, List.getElem_toArray, List.getElem_cons_zero, List.getElem_cons_succ, List.setIfInBounds_toArray, List.set_cons_zero, List.set_cons_succ]
  refine anyT_takeN (i := 5) (v := ?voc5) rfl (by kernel_rfl) (by kernel_rfl) (by kernel_rfl) (by rfl) (fun _ _ _ h => h) (Or.inl ⟨by rfl, ?yoc5⟩) hS0 ?_
  case yoc5 => (intro wz hSw; obtain ⟨hz0, hz1⟩ := hSw; go_simp; (try with_reducible rfl))
  try simp only [Act.put, List.getElem_toArray, List.getElem_cons_zero, List.getElem_cons_succ, List.setIfInBounds_toArray, List.set_cons_zero, List.set_cons_succ]
  obtain ⟨V2, hV2⟩ : ∃ V2 : World, V2 = ((W1.alloc (.cells #[.nilFunc] 58)).alloc (.cells #[.nilFunc] 58)).drew := ⟨_, rfl⟩
  have HV2 : Hid (BoxAt V2 0 58 1 (w.heap.size + 1) [.nilFunc] ∧ BoxAt V2 0 58 1 (w.heap.size + 1 + 1) [.nilFunc] ∧ Below w.heap.size w V2 ∧ Below w.heap.size w (W1.alloc (.cells #[.nilFunc] 58)).drew) := by
    have b1 := boxAt_new W1 (base := 0) (t := 58) (sz := 1) #[.nilFunc] (Nat.zero_le _) rfl
    obtain ⟨X1, hX1⟩ : ∃ X, X = W1.alloc (.cells #[.nilFunc] 58) := ⟨_, rfl⟩
    have k1 : Below W1.heap.size W1 X1 := by rw [hX1]; exact (Below.refl _ _).alloc (Nat.le_refl _) _
    have zx : X1.heap.size = w.heap.size + 1 + 1 := by rw [hX1]; simp [z1]
    rw [← hX1] at b1 hV2 ⊢
    have b2 := boxAt_new X1 (base := 0) (t := 58) (sz := 1) #[.nilFunc] (Nat.zero_le _) rfl
    have k2 : Below X1.heap.size X1 V2 := by rw [hV2]; exact ((Below.refl _ _).alloc (Nat.le_refl _) _).drew
    rw [z1] at b1
    rw [zx] at b2
    have kw : Below w.heap.size w W1 := ⟨HZ.out.1.os, HZ.out.1.tape, HZ.out.1.output, HZ.out.1.size, HZ.out.1.block⟩
    have kx : Below w.heap.size w X1 := kw.trans (k1.mono (by omega))
    refine ⟨b1.below k2, ?_, kx.trans (k2.mono (by omega)), kx.drew⟩
    rw [hV2]
    exact b2.below ((Below.refl _ _).drew)
  refine anyT_two (i := 6) (j := 7) (by kernel_rfl) rfl rfl (fun K hK => ?_) (fun K hK => ?_)
  · go_simp
    refine hK.out _ _ (.inr (HSb.out _ HV2.out.2.2.2)) ?_
    clear hK
    try simp only [Act.put, List.getElem_toArray, List.getElem_cons_zero, List.getElem_cons_succ, List.setIfInBounds_toArray, List.set_cons_zero, List.set_cons_succ]
    refine anyT_one (i := 7) (by kernel_rfl) rfl (fun K hK => ?_)
    go_simp
    rw [← hV2]
    refine hK.out _ _ (.inr (HSb.out _ HV2.out.2.2.1)) ?_
    clear hK hV2
    try simp only [Act.put, List.getElem_toArray, List.getElem_cons_zero, List.getElem_cons_succ, List.setIfInBounds_toArray, List.set_cons_zero, List.set_cons_succ]
    have x5 := HV2.out.1.cell (j := 0) rfl
    have y5 := HV2.out.1.frozen 0
    obtain ⟨V3, hV3⟩ : ∃ V3 : World, V3 = V2.setCell ⟨w.heap.size + 1, 0, none⟩ (.func (Fn.func fka) #[] fca) := ⟨_, rfl⟩
    have HV3 : Hid (BoxAt V3 0 58 1 (w.heap.size + 1) [(.func (Fn.func fka) #[] fca)] ∧ BoxAt V3 0 58 1 (w.heap.size + 1 + 1) [.nilFunc] ∧ Below w.heap.size w V3) := by rw [hV3]; exact ⟨HV2.out.1.set 0 _, HV2.out.2.1.beside (by omega) 0 _, below_set HV2.out.2.2.1 (by omega) _ _⟩
    refine anyT_one (i := 8) (by kernel_rfl) rfl (fun K hK => ?_)
    go_simp
    rw [← hV3]
    refine hK.out _ _ (.inr (HSb.out _ HV3.out.2.2)) ?_
    clear hK hV3 x5 y5
    try simp only [Act.put, List.getElem_toArray, List.getElem_cons_zero, List.getElem_cons_succ, List.setIfInBounds_toArray, List.set_cons_zero, List.set_cons_succ]
    have x6 := HV3.out.2.1.cell (j := 0) rfl
    have y6 := HV3.out.2.1.frozen 0
    obtain ⟨V4, hV4⟩ : ∃ V4 : World, V4 = V3.setCell ⟨w.heap.size + 1 + 1, 0, none⟩ (.func (Fn.func fkb) #[] fcb) := ⟨_, rfl⟩
    have HV4 : Hid (BoxAt V4 0 58 1 (w.heap.size + 1) [(.func (Fn.func fka) #[] fca)] ∧ BoxAt V4 0 58 1 (w.heap.size + 1 + 1) [(.func (Fn.func fkb) #[] fcb)] ∧ Below w.heap.size w V4) := by rw [hV4]; exact ⟨HV3.out.1.beside (by omega) 0 _, HV3.out.2.1.set 0 _, below_set HV3.out.2.2 (by omega) _ _⟩
    refine anyT_one (i := 9) (by kernel_rfl) rfl (fun K hK => ?_)
    go_simp
    rw [← hV4]
    refine hK.out _ _ (.inr (HSb.out _ HV4.out.2.2)) ?_
    clear hK hV4 x6 y6
    try simp only [Act.put, List.getElem_toArray, List.getElem_cons_zero, List.getElem_cons_succ, List.setIfInBounds_toArray, List.set_cons_zero, List.set_cons_succ]
    refine anyT_done (by kernel_rfl) ?_
    have HE : Hid (SoP (.chain n ta tb) (fun k => A k ∨ B k) w (.returned (fvC (62, #[ptrC (w.heap.size + 1 + 1), ptrC (w.heap.size + 1)]))) V4) := HF.out V4 _ _ HV4.out.1 HV4.out.2.1 HV4.out.2.2 (by omega) (by omega)
    go_wp2_with fail
    go_ret
    exact HE.out
  · go_simp
    refine hK.out _ _ (.inr (HSb.out _ HV2.out.2.2.2)) ?_
    clear hK
    try simp only [Act.put, List.getElem_toArray, List.getElem_cons_zero, List.getElem_cons_succ, List.setIfInBounds_toArray, List.set_cons_zero, List.set_cons_succ]
    refine anyT_one (i := 6) (by kernel_rfl) rfl (fun K hK => ?_)
    go_simp
    rw [← hV2]
    refine hK.out _ _ (.inr (HSb.out _ HV2.out.2.2.1)) ?_
    clear hK hV2
    try simp only [Act.put, List.getElem_toArray, List.getElem_cons_zero, List.getElem_cons_succ, List.setIfInBounds_toArray, List.set_cons_zero, List.set_cons_succ]
    have x5 := HV2.out.2.1.cell (j := 0) rfl
    have y5 := HV2.out.2.1.frozen 0
    obtain ⟨V3, hV3⟩ : ∃ V3 : World, V3 = V2.setCell ⟨w.heap.size + 1 + 1, 0, none⟩ (.func (Fn.func fka) #[] fca) := ⟨_, rfl⟩
    have HV3 : Hid (BoxAt V3 0 58 1 (w.heap.size + 1 + 1) [(.func (Fn.func fka) #[] fca)] ∧ BoxAt V3 0 58 1 (w.heap.size + 1) [.nilFunc] ∧ Below w.heap.size w V3) := by rw [hV3]; exact ⟨HV2.out.2.1.set 0 _, HV2.out.1.beside (by omega) 0 _, below_set HV2.out.2.2.1 (by omega) _ _⟩
    refine anyT_one (i := 8) (by kernel_rfl) rfl (fun K hK => ?_)
    go_simp
    rw [← hV3]
    refine hK.out _ _ (.inr (HSb.out _ HV3.out.2.2)) ?_
    clear hK hV3 x5 y5
    try simp only [Act.put, List.getElem_toArray, List.getElem_cons_zero, List.getElem_cons_succ, List.setIfInBounds_toArray, List.set_cons_zero, List.set_cons_succ]
    have x6 := HV3.out.2.1.cell (j := 0) rfl
    have y6 := HV3.out.2.1.frozen 0
    obtain ⟨V4, hV4⟩ : ∃ V4 : World, V4 = V3.setCell ⟨w.heap.size + 1, 0, none⟩ (.func (Fn.func fkb) #[] fcb) := ⟨_, rfl⟩
    have HV4 : Hid (BoxAt V4 0 58 1 (w.heap.size + 1 + 1) [(.func (Fn.func fka) #[] fca)] ∧ BoxAt V4 0 58 1 (w.heap.size + 1) [(.func (Fn.func fkb) #[] fcb)] ∧ Below w.heap.size w V4) := by rw [hV4]; exact ⟨HV3.out.1.beside (by omega) 0 _, HV3.out.2.1.set 0 _, below_set HV3.out.2.2 (by omega) _ _⟩
    refine anyT_one (i := 9) (by kernel_rfl) rfl (fun K hK => ?_)
    go_simp
    rw [← hV4]
    refine hK.out _ _ (.inr (HSb.out _ HV4.out.2.2)) ?_
    clear hK hV4 x6 y6
    try simp only [Act.put, List.getElem_toArray, List.getElem_cons_zero, List.getElem_cons_succ, List.setIfInBounds_toArray, List.set_cons_zero, List.set_cons_succ]
    refine anyT_done (by kernel_rfl) ?_
    have HE : Hid (SoP (.chain n ta tb) (fun k => A k ∨ B k) w (.returned (fvC (62, #[ptrC (w.heap.size + 1), ptrC (w.heap.size + 1 + 1)]))) V4) := HF.out V4 _ _ HV4.out.1 HV4.out.2.1 HV4.out.2.2 (by omega) (by omega)
    go_wp2_with fail
    go_ret
    exact HE.out
set_option maxHeartbeats 8000000 in
theorem sto_inter (n : Nd) (hk : n.kind = 15) (b off cx : Nat) (fa fb : Nat × Array Value) (ta tb : CT) (A B : Nat → Prop) (w : World) (h0 : w.cell? ⟨b, off, none⟩ = some (fvC fa)) (h1 : w.cell? ⟨b, off + 1, none⟩ = some (fvC fb)) (hb : b < w.heap.size) (hA : StepAt w ta A (fvC fa)) (hB : StepAt w tb B (fvC fb)) (hd : ∀ k, A k → ¬ B k) (hla : ∀ k, A k → k < w.heap.size) (hlb : ∀ k, B k → k < w.heap.size) : Calls Tryz.prog 31 #[n.v, .slice (some ⟨b, off, none⟩) 2 cx] w (SoP (.inter n ta tb) (fun k => A k ∨ B k) w) := by
  obtain ⟨W1, hW1⟩ : ∃ W1 : World, W1 = w.alloc (.cells #[.int .i64 n.kind, .string n.s, .bool n.hi, .string n.t, .int .u64 n.lo, .int .u64 n.up, .int .i64 n.n] 75) := ⟨_, rfl⟩
  have z1 : W1.heap.size = w.heap.size + 1 := by rw [hW1]; simp
  have k1 : Below w.heap.size w W1 := by rw [hW1]; exact (Below.refl _ _).alloc (Nat.le_refl _) _
  have n0 : W1.cell? ⟨w.heap.size, 0, none⟩ = some (.int .i64 n.kind) := by rw [hW1]; simp
  have hS0 : (fun w' : World => w'.cell? ⟨b, off, none⟩ = some (fvC fa) ∧ w'.cell? ⟨b, off + 1, none⟩ = some (fvC fb)) W1.drew := ⟨by show W1.cell? _ = _; rw [(Chg.of_below k1 (S := fun _ => False)).cell (p := ⟨b, off, none⟩) hb (fun q => q)]; exact h0, by show W1.cell? _ = _; rw [(Chg.of_below k1 (S := fun _ => False)).cell (p := ⟨b, off + 1, none⟩) hb (fun q => q)]; exact h1⟩
  have kd : Below w.heap.size w W1.drew := k1.drew
  have HSb : Hid (∀ X : World, Below w.heap.size w X → X.cell? ⟨b, off, none⟩ = some (fvC fa) ∧ X.cell? ⟨b, off + 1, none⟩ = some (fvC fb)) := fun X hX => ⟨by rw [hX.cell (p := ⟨b, off, none⟩) hb]; exact h0, by rw [hX.cell (p := ⟨b, off + 1, none⟩) hb]; exact h1⟩
  have HF : Hid (∀ (Y : World) (pa pb : Nat), BoxAt Y 0 58 1 pa [fvC fa] → BoxAt Y 0 58 1 pb [fvC fb] → Below w.heap.size w Y → w.heap.size ≤ pa → w.heap.size ≤ pb → SoP (.inter n ta tb) (fun k => A k ∨ B k) w (.returned (fvC (63, #[ptrC pa, ptrC pb]))) Y) := fun Y pa pb hpa hpb hY ga gb => by
    refine ⟨_, rfl, fun k => (A k ∨ B k) ∨ k = pa ∨ k = pb, ⟨A, B, pa, pb, fa.1, fa.2, fb.1, fb.2, ⟨fun k z => .inl (.inl z), fun k z => .inl (.inr z), hd⟩, ⟨.inr (.inl rfl), fun z => by have := hla _ z; omega⟩, ⟨.inr (.inl rfl), fun z => by have := hlb _ z; omega⟩, ⟨.inr (.inr rfl), fun z => by have := hla _ z; omega⟩, ⟨.inr (.inr rfl), fun z => by have := hlb _ z; omega⟩, rfl, hpa, hpb, hA.below hY, hB.below hY⟩, fun k z => ?_, hY⟩
    rcases z with z | z | z
    · exact .inl z
    · exact .inr ⟨by omega, by have := hpa.lt.2; omega⟩
    · exact .inr ⟨by omega, by have := hpb.lt.2; omega⟩
  have HZ : Hid (Below w.heap.size w W1.drew ∧ W1.drew.heap.size = w.heap.size + 1) := ⟨kd, z1⟩
  have zk : (n.kind == 15) = true := by rw [beq_iff_eq]; exact hk
  have zk14 : (n.kind == 14) = false := by rw [beq_eq_false_iff_ne]; omega
  clear hA hB hd hla hlb h0 h1 hb k1 kd hk
  obtain ⟨fka, fca⟩ := fa
  obtain ⟨fkb, fcb⟩ := fb
  go_enter Tryz.func31, Tryz.ntmps31
  go_upto_region 1 with fail
  rw [← hW1]
  clear hW1
  go_upto_region 6 with fail
  refine wp_region_T 99 (fun w' : World => w'.cell? ⟨b, off, none⟩ = some (.func (Fn.func fka) #[] fca) ∧ w'.cell? ⟨b, off + 1, none⟩ = some (.func (Fn.func fkb) #[] fcb)) (by kernel_rfl) ?_
  refine anyT_takeN (i := 0) (v := ?voi0) rfl (by kernel_rfl) (by kernel_rfl) (by kernel_rfl) (by rfl) (fun _ _ _ h => h) (Or.inl ⟨by rfl, ?yoi0⟩) hS0 ?_
  case yoi0 => (intro wz hSw; obtain ⟨hz0, hz1⟩ := hSw; go_simp; (try with_reducible rfl))
  try simp only [Act.put, List.getElem_toArray, List.getElem_cons_zero, List.getElem_cons_succ, List.setIfInBounds_toArray, List.set_cons_zero, List.set_cons_succ]
  refine anyT_takeN (i := 1) (v := ?voi1) rfl (by kernel_rfl) (by kernel_rfl) (by kernel_rfl) (by rfl) (fun _ _ _ h => h) (Or.inl ⟨by rfl, ?yoi1⟩) hS0 ?_
  case yoi1 => (intro wz hSw; obtain ⟨hz0, hz1⟩ := hSw; go_simp; (try with_reducible rfl))
  try simp only [Act.put, List.getElem_toArray, List.getElem_cons_zero, List.getElem_cons_succ, List.setIfInBounds_toArray, List.set_cons_zero, List.set_cons_succ]
  refine anyT_takeN (i := 2) (v := ?voi2) rfl (by kernel_rfl) (by kernel_rfl) (by kernel_rfl) (by rfl) (fun _ _ _ h => h) (Or.inl ⟨by rfl, ?yoi2⟩) hS0 ?_
  case yoi2 => (intro wz hSw; obtain ⟨hz0, hz1⟩ := hSw; go_simp; (try with_reducible rfl))
  try simp only [Act.put, List.getElem_toArray, List.getElem_cons_zero, List.getElem_cons_succ, List.setIfInBounds_toArray, List.set_cons_zero, List.set_cons_succ]
  refine anyT_takeN (i := 3) (v := ?voi3) rfl (by kernel_rfl) (by kernel_rfl) (by kernel_rfl) (by rfl) (fun _ _ _ h => h) (Or.inl ⟨by rfl, ?yoi3⟩) hS0 ?_
  case yoi3 => (intro wz hSw; obtain ⟨hz0, hz1⟩ := hSw; go_simp; (try with_reducible rfl))
  try simp only [Act.put, List.getElem_toArray, List.getElem_cons_zero, List.getElem_cons_succ, List.setIfInBounds_toArray, List.set_cons_zero, List.set_cons_succ]
  refine anyT_takeN (i := 4) (v := ?voi4) rfl (by kernel_rfl) (by kernel_rfl) (by kernel_rfl) (by rfl) (fun _ _ _ h => h) (Or.inl ⟨by rfl, ?yoi4⟩) hS0 ?_
  case yoi4 => (intro wz hSw; obtain ⟨hz0, hz1⟩ := hSw; go_simp; (try with_reducible rfl))
  try simp only [Act.put, List.getElem_toArray, List.getElem_cons_zero, List.getElem_cons_succ, List.setIfInBounds_toArray, List.set_cons_zero, List.set_cons_succ]
  refine anyT_takeN (i := 5) (v := ?voi5) rfl (by kernel_rfl) (by kernel_rfl) (by kernel_rfl) (by rfl) (fun _ _ _ h => h) (Or.inl ⟨by rfl, ?yoi5⟩) hS0 ?_
  case yoi5 => (intro wz hSw; obtain ⟨hz0, hz1⟩ := hSw; go_simp; (try with_reducible rfl))
  try simp only [Act.put, List.getElem_toArray, List.getElem_cons_zero, List.getElem_cons_succ, List.setIfInBounds_toArray, List.set_cons_zero, List.set_cons_succ]
  obtain ⟨V2, hV2⟩ : ∃ V2 : World, V2 = ((W1.alloc (.cells #[.nilFunc] 58)).alloc (.cells #[.nilFunc] 58)).drew := ⟨_, rfl⟩
  have HV2 : Hid (BoxAt V2 0 58 1 (w.heap.size + 1) [.nilFunc] ∧ BoxAt V2 0 58 1 (w.heap.size + 1 + 1) [.nilFunc] ∧ Below w.heap.size w V2 ∧ Below w.heap.size w (W1.alloc (.cells #[.nilFunc] 58)).drew) := by
    have b1 := boxAt_new W1 (base := 0) (t := 58) (sz := 1) #[.nilFunc] (Nat.zero_le _) rfl
    obtain ⟨X1, hX1⟩ : ∃ X, X = W1.alloc (.cells #[.nilFunc] 58) := ⟨_, rfl⟩
    have k1 : Below W1.heap.size W1 X1 := by rw [hX1]; exact (Below.refl _ _).alloc (Nat.le_refl _) _
    have zx : X1.heap.size = w.heap.size + 1 + 1 := by rw [hX1]; simp [z1]
    rw [← hX1] at b1 hV2 ⊢
    have b2 := boxAt_new X1 (base := 0) (t := 58) (sz := 1) #[.nilFunc] (Nat.zero_le _) rfl
    have k2 : Below X1.heap.size X1 V2 := by rw [hV2]; exact ((Below.refl _ _).alloc (Nat.le_refl _) _).drew
    rw [z1] at b1
    rw [zx] at b2
    have kw : Below w.heap.size w W1 := ⟨HZ.out.1.os, HZ.out.1.tape, HZ.out.1.output, HZ.out.1.size, HZ.out.1.block⟩
    have kx : Below w.heap.size w X1 := kw.trans (k1.mono (by omega))
    refine ⟨b1.below k2, ?_, kx.trans (k2.mono (by omega)), kx.drew⟩
    rw [hV2]
    exact b2.below ((Below.refl _ _).drew)
  refine anyT_two (i := 6) (j := 7) (by kernel_rfl) rfl rfl (fun K hK => ?_) (fun K hK => ?_)
  · go_simp
    refine hK.out _ _ (.inr (HSb.out _ HV2.out.2.2.2)) ?_
    clear hK
    try simp only [Act.put, List.getElem_toArray, List.getElem_cons_zero, List.getElem_cons_succ, List.setIfInBounds_toArray, List.set_cons_zero, List.set_cons_succ]
    refine anyT_one (i := 7) (by kernel_rfl) rfl (fun K hK => ?_)
    go_simp
    rw [← hV2]
    refine hK.out _ _ (.inr (HSb.out _ HV2.out.2.2.1)) ?_
    clear hK hV2
    try simp only [Act.put, List.getElem_toArray, List.getElem_cons_zero, List.getElem_cons_succ, List.setIfInBounds_toArray, List.set_cons_zero, List.set_cons_succ]
    have x5 := HV2.out.1.cell (j := 0) rfl
    have y5 := HV2.out.1.frozen 0
    obtain ⟨V3, hV3⟩ : ∃ V3 : World, V3 = V2.setCell ⟨w.heap.size + 1, 0, none⟩ (.func (Fn.func fka) #[] fca) := ⟨_, rfl⟩
    have HV3 : Hid (BoxAt V3 0 58 1 (w.heap.size + 1) [(.func (Fn.func fka) #[] fca)] ∧ BoxAt V3 0 58 1 (w.heap.size + 1 + 1) [.nilFunc] ∧ Below w.heap.size w V3) := by rw [hV3]; exact ⟨HV2.out.1.set 0 _, HV2.out.2.1.beside (by omega) 0 _, below_set HV2.out.2.2.1 (by omega) _ _⟩
    refine anyT_one (i := 8) (by kernel_rfl) rfl (fun K hK => ?_)
    go_simp
    rw [← hV3]
    refine hK.out _ _ (.inr (HSb.out _ HV3.out.2.2)) ?_
    clear hK hV3 x5 y5
    try simp only [Act.put, List.getElem_toArray, List.getElem_cons_zero, List.getElem_cons_succ, List.setIfInBounds_toArray, List.set_cons_zero, List.set_cons_succ]
    have x6 := HV3.out.2.1.cell (j := 0) rfl
    have y6 := HV3.out.2.1.frozen 0
    obtain ⟨V4, hV4⟩ : ∃ V4 : World, V4 = V3.setCell ⟨w.heap.size + 1 + 1, 0, none⟩ (.func (Fn.func fkb) #[] fcb) := ⟨_, rfl⟩
    have HV4 : Hid (BoxAt V4 0 58 1 (w.heap.size + 1) [(.func (Fn.func fka) #[] fca)] ∧ BoxAt V4 0 58 1 (w.heap.size + 1 + 1) [(.func (Fn.func fkb) #[] fcb)] ∧ Below w.heap.size w V4) := by rw [hV4]; exact ⟨HV3.out.1.beside (by omega) 0 _, HV3.out.2.1.set 0 _, below_set HV3.out.2.2 (by omega) _ _⟩
    refine anyT_one (i := 9) (by kernel_rfl) rfl (fun K hK => ?_)
    go_simp
    rw [← hV4]
    refine hK.out _ _ (.inr (HSb.out _ HV4.out.2.2)) ?_
    clear hK hV4 x6 y6
    try simp only [Act.put, List.getElem_toArray, List.getElem_cons_zero, List.getElem_cons_succ, List.setIfInBounds_toArray, List.set_cons_zero, List.set_cons_succ]
    refine anyT_done (by kernel_rfl) ?_
    have HE : Hid (SoP (.inter n ta tb) (fun k => A k ∨ B k) w (.returned (fvC (63, #[ptrC (w.heap.size + 1), ptrC (w.heap.size + 1 + 1)]))) V4) := HF.out V4 _ _ HV4.out.1 HV4.out.2.1 HV4.out.2.2 (by omega) (by omega)
    go_wp2_with fail
    go_ret
    exact HE.out
  · go_simp
    refine hK.out _ _ (.inr (HSb.out _ HV2.out.2.2.2)) ?_
    clear hK
    try simp only [Act.put, List.getElem_toArray, List.getElem_cons_zero, List.getElem_cons_succ, List.setIfInBounds_toArray, List.set_cons_zero, List.set_cons_succ]
    refine anyT_one (i := 6) (by kernel_rfl) rfl (fun K hK => ?_)
    go_simp
    rw [← hV2]
    refine hK.out _ _ (.inr (HSb.out _ HV2.out.2.2.1)) ?_
    clear hK hV2
    try simp only [Act.put, List.getElem_toArray, List.getElem_cons_zero, List.getElem_cons_succ, List.setIfInBounds_toArray, List.set_cons_zero, List.set_cons_succ]
    have x5 := HV2.out.2.1.cell (j := 0) rfl
    have y5 := HV2.out.2.1.frozen 0
    obtain ⟨V3, hV3⟩ : ∃ V3 : World, V3 = V2.setCell ⟨w.heap.size + 1 + 1, 0, none⟩ (.func (Fn.func fka) #[] fca) := ⟨_, rfl⟩
    have HV3 : Hid (BoxAt V3 0 58 1 (w.heap.size + 1 + 1) [(.func (Fn.func fka) #[] fca)] ∧ BoxAt V3 0 58 1 (w.heap.size + 1) [.nilFunc] ∧ Below w.heap.size w V3) := by rw [hV3]; exact ⟨HV2.out.2.1.set 0 _, HV2.out.1.beside (by omega) 0 _, below_set HV2.out.2.2.1 (by omega) _ _⟩
    refine anyT_one (i := 8) (by kernel_rfl) rfl (fun K hK => ?_)
    go_simp
    rw [← hV3]
    refine hK.out _ _ (.inr (HSb.out _ HV3.out.2.2)) ?_
    clear hK hV3 x5 y5
    try simp only [Act.put, List.getElem_toArray, List.getElem_cons_zero, List.getElem_cons_succ, List.setIfInBounds_toArray, List.set_cons_zero, List.set_cons_succ]
    have x6 := HV3.out.2.1.cell (j := 0) rfl
    have y6 := HV3.out.2.1.frozen 0
    obtain ⟨V4, hV4⟩ : ∃ V4 : World, V4 = V3.setCell ⟨w.heap.size + 1, 0, none⟩ (.func (Fn.func fkb) #[] fcb) := ⟨_, rfl⟩
    have HV4 : Hid (BoxAt V4 0 58 1 (w.heap.size + 1 + 1) [(.func (Fn.func fka) #[] fca)] ∧ BoxAt V4 0 58 1 (w.heap.size + 1) [(.func (Fn.func fkb) #[] fcb)] ∧ Below w.heap.size w V4) := by rw [hV4]; exact ⟨HV3.out.1.beside (by omega) 0 _, HV3.out.2.1.set 0 _, below_set HV3.out.2.2 (by omega) _ _⟩
    refine anyT_one (i := 9) (by kernel_rfl) rfl (fun K hK => ?_)
    go_simp
    rw [← hV4]
    refine hK.out _ _ (.inr (HSb.out _ HV4.out.2.2)) ?_
    clear hK hV4 x6 y6
    try simp only [Act.put, List.getElem_toArray, List.getElem_cons_zero, List.getElem_cons_succ, List.setIfInBounds_toArray, List.set_cons_zero, List.set_cons_succ]
    refine anyT_done (by kernel_rfl) ?_
    have HE : Hid (SoP (.inter n ta tb) (fun k => A k ∨ B k) w (.returned (fvC (63, #[ptrC (w.heap.size + 1 + 1), ptrC (w.heap.size + 1)]))) V4) := HF.out V4 _ _ HV4.out.1 HV4.out.2.1 HV4.out.2.2 (by omega) (by omega)
    go_wp2_with fail
    go_ret
    exact HE.out
def BrP (fp fa fb : Nat × Array Value) (w : World) (e : Ending) (w' : World) : Prop := e = .returned (fvC (102, #[ptrC w.heap.size, ptrC (w.heap.size + 1), ptrC (w.heap.size + 1 + 1)])) ∧ Hid (BoxAt w' 0 58 1 w.heap.size [fvC fp] ∧ BoxAt w' 0 58 1 (w.heap.size + 1) [fvC fa] ∧ BoxAt w' 0 58 1 (w.heap.size + 1 + 1) [fvC fb] ∧ Below w.heap.size w w')
set_option maxHeartbeats 4000000 in
theorem branchStep_core (fp fa fb : Nat × Array Value) (w : World) : Calls Tryz.prog 65 #[fvC fp, fvC fa, fvC fb] w (BrP fp fa fb w) := by
  obtain ⟨W3, hW3⟩ : ∃ W3 : World, W3 = ((w.alloc (.cells #[fvC fp] 58)).alloc (.cells #[fvC fa] 58)).alloc (.cells #[fvC fb] 58) := ⟨_, rfl⟩
  have HE : Hid (BrP fp fa fb w (.returned (fvC (102, #[ptrC w.heap.size, ptrC (w.heap.size + 1), ptrC (w.heap.size + 1 + 1)]))) W3) := by
    refine ⟨rfl, ?_⟩
    have b1 := boxAt_new w (base := 0) (t := 58) (sz := 1) #[fvC fp] (Nat.zero_le _) rfl
    obtain ⟨X1, hX1⟩ : ∃ X, X = w.alloc (.cells #[fvC fp] 58) := ⟨_, rfl⟩
    have z1 : X1.heap.size = w.heap.size + 1 := by rw [hX1]; simp
    have k1 : Below w.heap.size w X1 := by rw [hX1]; exact (Below.refl _ _).alloc (Nat.le_refl _) _
    rw [← hX1] at b1 hW3
    have b2 := boxAt_new X1 (base := 0) (t := 58) (sz := 1) #[fvC fa] (Nat.zero_le _) rfl
    obtain ⟨X2, hX2⟩ : ∃ X, X = X1.alloc (.cells #[fvC fa] 58) := ⟨_, rfl⟩
    have z2 : X2.heap.size = w.heap.size + 1 + 1 := by rw [hX2]; simp [z1]
    have k2 : Below X1.heap.size X1 X2 := by rw [hX2]; exact (Below.refl _ _).alloc (Nat.le_refl _) _
    rw [← hX2] at b2 hW3
    have b3 := boxAt_new X2 (base := 0) (t := 58) (sz := 1) #[fvC fb] (Nat.zero_le _) rfl
    have k3 : Below X2.heap.size X2 W3 := by rw [hW3]; exact (Below.refl _ _).alloc (Nat.le_refl _) _
    rw [← hW3, z2] at b3
    rw [z1] at b2
    exact ⟨(b1.below k2).below k3, b2.below k3, b3, (k1.trans (k2.mono (by omega))).trans (k3.mono (by omega))⟩
  obtain ⟨fkp, fcp⟩ := fp
  obtain ⟨fka, fca⟩ := fa
  obtain ⟨fkb, fcb⟩ := fb
  go_enter Tryz.func65, Tryz.ntmps65
  go_wp2_with fail
  rw [← hW3]
  go_ret
  exact HE.out
set_option maxHeartbeats 8000000 in
theorem sto_cond (n : Nd) (hk : n.kind = 16) (b off cx : Nat) (fp fa fb : Nat × Array Value) (tp ta tb : CT) (P A B : Nat → Prop) (w : World) (h0 : w.cell? ⟨b, off, none⟩ = some (fvC fp)) (h1 : w.cell? ⟨b, off + 1, none⟩ = some (fvC fa)) (h2 : w.cell? ⟨b, off + 2, none⟩ = some (fvC fb)) (hb : b < w.heap.size) (hP : StepAt w tp P (fvC fp)) (hA : StepAt w ta A (fvC fa)) (hB : StepAt w tb B (fvC fb)) (hd1 : ∀ k, P k → ¬ A k) (hd2 : ∀ k, P k → ¬ B k) (hd3 : ∀ k, A k → ¬ B k) (hlp : ∀ k, P k → k < w.heap.size) (hla : ∀ k, A k → k < w.heap.size) (hlb : ∀ k, B k → k < w.heap.size) : Calls Tryz.prog 31 #[n.v, .slice (some ⟨b, off, none⟩) 3 cx] w (SoP (.cond n tp ta tb) (fun k => P k ∨ A k ∨ B k) w) := by
  obtain ⟨W1, hW1⟩ : ∃ W1 : World, W1 = w.alloc (.cells #[.int .i64 n.kind, .string n.s, .bool n.hi, .string n.t, .int .u64 n.lo, .int .u64 n.up, .int .i64 n.n] 75) := ⟨_, rfl⟩
  have z1 : W1.heap.size = w.heap.size + 1 := by rw [hW1]; simp
  have k1 : Below w.heap.size w W1 := by rw [hW1]; exact (Below.refl _ _).alloc (Nat.le_refl _) _
  have n0 : W1.cell? ⟨w.heap.size, 0, none⟩ = some (.int .i64 n.kind) := by rw [hW1]; simp
  have HSb : Hid (∀ X : World, Below w.heap.size w X → X.cell? ⟨b, off, none⟩ = some (fvC fp) ∧ X.cell? ⟨b, off + 1, none⟩ = some (fvC fa) ∧ X.cell? ⟨b, off + 2, none⟩ = some (fvC fb)) := fun X hX => ⟨by rw [hX.cell (p := ⟨b, off, none⟩) hb]; exact h0, by rw [hX.cell (p := ⟨b, off + 1, none⟩) hb]; exact h1, by rw [hX.cell (p := ⟨b, off + 2, none⟩) hb]; exact h2⟩
  have HZ : Hid (Below w.heap.size w W1.drew ∧ W1.drew.heap.size = w.heap.size + 1) := ⟨k1.drew, z1⟩
  have HF : Hid (∀ (Y : World), BrP fp fa fb W1.drew (.returned (fvC (102, #[ptrC W1.heap.size, ptrC (W1.heap.size + 1), ptrC (W1.heap.size + 1 + 1)]))) Y → SoP (.cond n tp ta tb) (fun k => P k ∨ A k ∨ B k) w (.returned (fvC (102, #[ptrC W1.heap.size, ptrC (W1.heap.size + 1), ptrC (W1.heap.size + 1 + 1)]))) Y) := fun Y hY => by
    obtain ⟨_, H⟩ := hY
    have hp := H.out.1
    have hpa := H.out.2.1
    have hpb := H.out.2.2.1
    have kY := HZ.out.1.trans (H.out.2.2.2.mono HZ.out.1.size)
    have zz : W1.drew.heap.size = w.heap.size + 1 := z1
    refine ⟨_, rfl, fun k => (P k ∨ A k ∨ B k) ∨ k = W1.heap.size ∨ k = W1.heap.size + 1 ∨ k = W1.heap.size + 1 + 1, ⟨P, A, B, W1.heap.size, W1.heap.size + 1, W1.heap.size + 1 + 1, fp.1, fp.2, fa.1, fa.2, fb.1, fb.2, ⟨⟨fun k z => .inl (.inl z), fun k z => .inl (.inr (.inl z)), hd1⟩, ⟨fun k z => .inl (.inl z), fun k z => .inl (.inr (.inr z)), hd2⟩, ⟨fun k z => .inl (.inr (.inl z)), fun k z => .inl (.inr (.inr z)), hd3⟩⟩, ⟨⟨.inr (.inl rfl), fun z => by have := hlp _ z; omega⟩, ⟨.inr (.inl rfl), fun z => by have := hla _ z; omega⟩, ⟨.inr (.inl rfl), fun z => by have := hlb _ z; omega⟩⟩, ⟨⟨.inr (.inr (.inl rfl)), fun z => by have := hlp _ z; omega⟩, ⟨.inr (.inr (.inl rfl)), fun z => by have := hla _ z; omega⟩, ⟨.inr (.inr (.inl rfl)), fun z => by have := hlb _ z; omega⟩⟩, ⟨⟨.inr (.inr (.inr rfl)), fun z => by have := hlp _ z; omega⟩, ⟨.inr (.inr (.inr rfl)), fun z => by have := hla _ z; omega⟩, ⟨.inr (.inr (.inr rfl)), fun z => by have := hlb _ z; omega⟩⟩, rfl, hp, hpa, hpb, hP.below kY, hA.below kY, hB.below kY⟩, fun k z => ?_, kY⟩
    have l1 := hpb.lt.2
    have e3 : W1.drew.heap.size = W1.heap.size := rfl
    rw [e3] at l1
    rcases z with z | z | z | z
    · exact .inl z
    · exact .inr ⟨by omega, by omega⟩
    · exact .inr ⟨by omega, by omega⟩
    · exact .inr ⟨by omega, by omega⟩
  have HBr : Hid (Calls Tryz.prog 65 #[fvC fp, fvC fa, fvC fb] W1.drew (BrP fp fa fb W1.drew)) := branchStep_core fp fa fb W1.drew
  have zk : (n.kind == 16) = true := by rw [beq_iff_eq]; exact hk
  have zk14 : (n.kind == 14) = false := by rw [beq_eq_false_iff_ne]; omega
  have zk15 : (n.kind == 15) = false := by rw [beq_eq_false_iff_ne]; omega
  have hS0 := HSb.out W1.drew HZ.out.1
  clear hP hA hB hd1 hd2 hd3 hlp hla hlb h0 h1 h2 hb k1 hk z1
  obtain ⟨fkp, fcp⟩ := fp
  obtain ⟨fka, fca⟩ := fa
  obtain ⟨fkb, fcb⟩ := fb
  go_enter Tryz.func31, Tryz.ntmps31
  go_upto_region 1 with fail
  rw [← hW1]
  clear hW1
  go_upto_region 9 with fail
  refine wp_region_T 99 (fun w' : World => w'.cell? ⟨b, off, none⟩ = some (.func (Fn.func fkp) #[] fcp) ∧ w'.cell? ⟨b, off + 1, none⟩ = some (.func (Fn.func fka) #[] fca) ∧ w'.cell? ⟨b, off + 2, none⟩ = some (.func (Fn.func fkb) #[] fcb)) (by kernel_rfl) ?_
  refine anyT_takeN (i := 0) (v := ?vob0) rfl (by kernel_rfl) (by kernel_rfl) (by kernel_rfl) (by rfl) (fun _ _ _ h => h) (Or.inl ⟨by rfl, ?yob0⟩) hS0 ?_
  case yob0 => (intro wz hSw; obtain ⟨hz0, hz1, hz2⟩ := hSw; go_simp; (try with_reducible rfl))
  try simp only [Act.put, List.getElem_toArray, List.getElem_cons_zero, List.getElem_cons_succ, List.setIfInBounds_toArray, List.set_cons_zero, List.set_cons_succ]
  refine anyT_takeN (i := 1) (v := ?vob1) rfl (by kernel_rfl) (by kernel_rfl) (by kernel_rfl) (by rfl) (fun _ _ _ h => h) (Or.inl ⟨by rfl, ?yob1⟩) hS0 ?_
  case yob1 => (intro wz hSw; obtain ⟨hz0, hz1, hz2⟩ := hSw; go_simp; (try with_reducible rfl))
  try simp only [Act.put, List.getElem_toArray, List.getElem_cons_zero, List.getElem_cons_succ, List.setIfInBounds_toArray, List.set_cons_zero, List.set_cons_succ]
  refine anyT_takeN (i := 2) (v := ?vob2) rfl (by kernel_rfl) (by kernel_rfl) (by kernel_rfl) (by rfl) (fun _ _ _ h => h) (Or.inl ⟨by rfl, ?yob2⟩) hS0 ?_
  case yob2 => (intro wz hSw; obtain ⟨hz0, hz1, hz2⟩ := hSw; go_simp; (try with_reducible rfl))
  try simp only [Act.put, List.getElem_toArray, List.getElem_cons_zero, List.getElem_cons_succ, List.setIfInBounds_toArray, List.set_cons_zero, List.set_cons_succ]
  refine anyT_takeN (i := 3) (v := ?vob3) rfl (by kernel_rfl) (by kernel_rfl) (by kernel_rfl) (by rfl) (fun _ _ _ h => h) (Or.inl ⟨by rfl, ?yob3⟩) hS0 ?_
  case yob3 => (intro wz hSw; obtain ⟨hz0, hz1, hz2⟩ := hSw; go_simp; (try with_reducible rfl))
  try simp only [Act.put, List.getElem_toArray, List.getElem_cons_zero, List.getElem_cons_succ, List.setIfInBounds_toArray, List.set_cons_zero, List.set_cons_succ]
  refine anyT_takeN (i := 4) (v := ?vob4) rfl (by kernel_rfl) (by kernel_rfl) (by kernel_rfl) (by rfl) (fun _ _ _ h => h) (Or.inl ⟨by rfl, ?yob4⟩) hS0 ?_
  case yob4 => (intro wz hSw; obtain ⟨hz0, hz1, hz2⟩ := hSw; go_simp; (try with_reducible rfl))
  try simp only [Act.put, List.getElem_toArray, List.getElem_cons_zero, List.getElem_cons_succ, List.setIfInBounds_toArray, List.set_cons_zero, List.set_cons_succ]
  refine anyT_takeN (i := 5) (v := ?vob5) rfl (by kernel_rfl) (by kernel_rfl) (by kernel_rfl) (by rfl) (fun _ _ _ h => h) (Or.inl ⟨by rfl, ?yob5⟩) hS0 ?_
  case yob5 => (intro wz hSw; obtain ⟨hz0, hz1, hz2⟩ := hSw; go_simp; (try with_reducible rfl))
  try simp only [Act.put, List.getElem_toArray, List.getElem_cons_zero, List.getElem_cons_succ, List.setIfInBounds_toArray, List.set_cons_zero, List.set_cons_succ]
  refine anyT_takeN (i := 6) (v := ?vob6) rfl (by kernel_rfl) (by kernel_rfl) (by kernel_rfl) (by rfl) (fun _ _ _ h => h) (Or.inl ⟨by rfl, ?yob6⟩) hS0 ?_
  case yob6 => (intro wz hSw; obtain ⟨hz0, hz1, hz2⟩ := hSw; go_simp; (try with_reducible rfl))
  try simp only [Act.put, List.getElem_toArray, List.getElem_cons_zero, List.getElem_cons_succ, List.setIfInBounds_toArray, List.set_cons_zero, List.set_cons_succ]
  refine anyT_takeN (i := 7) (v := ?vob7) rfl (by kernel_rfl) (by kernel_rfl) (by kernel_rfl) (by rfl) (fun _ _ _ h => h) (Or.inl ⟨by rfl, ?yob7⟩) hS0 ?_
  case yob7 => (intro wz hSw; obtain ⟨hz0, hz1, hz2⟩ := hSw; go_simp; (try with_reducible rfl))
  try simp only [Act.put, List.getElem_toArray, List.getElem_cons_zero, List.getElem_cons_succ, List.setIfInBounds_toArray, List.set_cons_zero, List.set_cons_succ]
  refine anyT_takeN (i := 8) (v := ?vob8) rfl (by kernel_rfl) (by kernel_rfl) (by kernel_rfl) (by rfl) (fun _ _ _ h => h) (Or.inl ⟨by rfl, ?yob8⟩) hS0 ?_
  case yob8 => (intro wz hSw; obtain ⟨hz0, hz1, hz2⟩ := hSw; go_simp; (try with_reducible rfl))
  try simp only [Act.put, List.getElem_toArray, List.getElem_cons_zero, List.getElem_cons_succ, List.setIfInBounds_toArray, List.set_cons_zero, List.set_cons_succ]
  refine anyT_one (i := 9) (by kernel_rfl) rfl (fun K hK => ?_)
  go_simp
  refine HBr.out.mono ?_
  rintro e w3 ⟨rfl, H3⟩
  have hS3 := HSb.out w3 (HZ.out.1.trans (H3.out.2.2.2.mono HZ.out.1.size))
  have HE : Hid (SoP (.cond n tp ta tb) (fun k => P k ∨ A k ∨ B k) w (.returned (fvC (102, #[ptrC W1.heap.size, ptrC (W1.heap.size + 1), ptrC (W1.heap.size + 1 + 1)]))) w3) := HF.out w3 ⟨rfl, H3⟩
  refine hK.out _ _ (.inr hS3) ?_
  clear hK
  try simp only [Act.put, List.getElem_toArray, List.getElem_cons_zero, List.getElem_cons_succ, List.setIfInBounds_toArray, List.set_cons_zero, List.set_cons_succ]
  refine anyT_takeN (i := 10) (v := ?vob10) rfl (by kernel_rfl) (by kernel_rfl) (by kernel_rfl) (by rfl) (fun _ _ _ h => h) (Or.inl ⟨by rfl, ?yob10⟩) hS3 ?_
  case yob10 => (intro wz hSw; obtain ⟨hz0, hz1, hz2⟩ := hSw; go_simp; (try with_reducible rfl))
  try simp only [Act.put, List.getElem_toArray, List.getElem_cons_zero, List.getElem_cons_succ, List.setIfInBounds_toArray, List.set_cons_zero, List.set_cons_succ]
  refine anyT_done (by kernel_rfl) ?_
  go_wp2_with fail
  go_ret
  exact HE.out
end Go.Proofs.YtkidabedcgngcaaGreatDoor

/-
  impl.validNode.
-/
namespace Go.Proofs.YtkidabedcgngcaaGreatDoor
open Go.ChangeShapes Go.WideShapes Go.ChangeAt Go.RowKit Go.Deep
set_option linter.unusedVariables false
set_option linter.unusedSimpArgs false
set_option maxRecDepth 100000

theorem emptyL : (⟨#[]⟩ : ByteArray).toList = [] := by first | (simp; done) | (kernel_rfl; done) | (go_simp; done)
theorem lessL : Op.bytesLess [] [] = false := by first | (kernel_rfl; done) | (decide; done) | (simp [Op.bytesLess]; done)
theorem ndEq_is (k : Int) (s : ByteArray) (h : Bool) (t : ByteArray) (l u n k' : Int) (s' : ByteArray) (h' : Bool) (t' : ByteArray) (l' u' n' : Int) (B : Bool) (hB : B = decide (k = k' ∧ s.toList = s'.toList ∧ h = h' ∧ t.toList = t'.toList ∧ l = l' ∧ u = u' ∧ n = n')) (wx : World) :
    (binOp .eql 75 (.agg #[.int .i64 k, .string s, .bool h, .string t, .int .u64 l, .int .u64 u, .int .i64 n]) (.agg #[.int .i64 k', .string s', .bool h', .string t', .int .u64 l', .int .u64 u', .int .i64 n'])).run Tryz.prog wx = .ok (.bool B) wx := by
  rw [hB]; exact ndEq_run k s h t l u n k' s' h' t' l' u' n' wx
set_option maxHeartbeats 8000000 in
theorem validNode_core (e : Nd) (w : World) (hs : e.s.size ≤ maxLen) (ht : e.t.size ≤ maxLen) : Calls Tryz.prog 99 #[e.v] w (NdPost e w) := by
  obtain ⟨kind, s, hi, t, lo, up, n⟩ := e
  have HS : Hid (s.size ≤ maxLen) := hs
  unfold maxLen at hs ht
  simp only [] at hs ht
  obtain ⟨W0, hW0⟩ : ∃ W0 : World, W0 = w.alloc (Obj.cells #[.int .i64 kind, .string s, .bool hi, .string t, .int .u64 lo, .int .u64 up, .int .i64 n] 75) := ⟨_, rfl⟩
  have HW0 : Hid (BoxAt W0 w.heap.size 75 7 w.heap.size [.int .i64 kind, .string s, .bool hi, .string t, .int .u64 lo, .int .u64 up, .int .i64 n] ∧ Below w.heap.size w W0) := by
    rw [hW0]; exact ⟨boxAt_new w _ (Nat.le_refl _) rfl, (Below.refl _ _).alloc (Nat.le_refl _) _⟩
  have hbw := HW0.out.2.size
  have c0 := HW0.out.1.cell (j := 0) rfl
  have c1 := HW0.out.1.cell (j := 1) rfl
  have c2 := HW0.out.1.cell (j := 2) rfl
  have c3 := HW0.out.1.cell (j := 3) rfl
  have c4 := HW0.out.1.cell (j := 4) rfl
  have c5 := HW0.out.1.cell (j := 5) rfl
  have c6 := HW0.out.1.cell (j := 6) rfl
  go_enter Tryz.func99, Tryz.ntmps99
  go_upto_region 1 with fail
  rw [← hW0]
  clear hW0
  by_cases hgood : s.size ≤ 200 ∧ t.size ≤ 200
  case neg =>
    have HG : Hid (¬ GoodN ⟨kind, s, hi, t, lo, up, n⟩) := fun q => hgood ⟨q.1, q.2.1⟩
    by_cases h1 : s.size ≤ 200
    · have z1 : ¬ (200 : Int) < (s.size : Int) := by omega
      have h2 : ¬ t.size ≤ 200 := fun q => hgood ⟨h1, q⟩
      have z2 : (200 : Int) < (t.size : Int) := by omega
      clear hgood
      go_wp2_with fail
      go_ret
      exact ⟨_, rfl, by simp [HG.out], HW0.out.2⟩
    · have z1 : (200 : Int) < (s.size : Int) := by omega
      clear hgood
      go_wp2_with fail
      go_ret
      exact ⟨_, rfl, by simp [HG.out], HW0.out.2⟩
  have HG : Hid (s.size ≤ 200 ∧ t.size ≤ 200) := hgood
  have z1 : ¬ (200 : Int) < (s.size : Int) := by omega
  have z2 : ¬ (200 : Int) < (t.size : Int) := by omega
  clear hgood hs ht
  obtain ⟨c, hc⟩ : ∃ c, c = (checkM (sb s)).1 := ⟨_, rfl⟩
  obtain ⟨k, hk⟩ : ∃ k : Int, k = ((checkM (sb s)).2 : Int) := ⟨_, rfl⟩
  have HV : Hid (c = (checkM (sb s)).1) := hc
  have HC : Hid (∀ w, Calls Tryz.prog 126 #[.string s] w fun e w' => e = .returned (.agg #[.int .i64 c, .int .i64 k]) ∧ Below w.heap.size w w') := fun w => by
    rw [hc, hk]; exact implCheck_core s w HS.out
  clear hc hk
  by_cases k1 : kind = 1
  · subst k1
    obtain ⟨B, hB⟩ : ∃ B, B = decide ((1 : Int) = 1 ∧ s.toList = (⟨#[]⟩ : ByteArray).toList ∧ hi = false ∧ t.toList = (⟨#[]⟩ : ByteArray).toList ∧ lo = 0 ∧ up = 0 ∧ n = 0) := ⟨_, rfl⟩
    have hq := ndEq_is 1 s hi t lo up n 1 ⟨#[]⟩ false ⟨#[]⟩ 0 0 0 B hB
    have HB : Hid (B = true ↔ (1 : Int) = 1 ∧ s.toList = (⟨#[]⟩ : ByteArray).toList ∧ hi = false ∧ t.toList = (⟨#[]⟩ : ByteArray).toList ∧ lo = 0 ∧ up = 0 ∧ n = 0) := by rw [hB]; show decide _ = true ↔ _; simp only [decide_eq_true_eq]
    clear hB
    have HF : Hid (B = true ↔ GoodN ⟨1, s, hi, t, lo, up, n⟩) := by
      show B = true ↔ GoodN _
      have hB := HB.out
      have hG := HG.out
      have hE := emptyL
      try simp only [hE] at hB
      rw [hB]
      simp [GoodN]
      constructor
      · rintro ⟨q1, q2, q3, q4, q5, q6⟩
        simp_all
      · rintro ⟨q1, q2, q3, q4⟩
        simp_all
    go_wp2_with fail
    go_ret
    exact ⟨_, rfl, HF.out, HW0.out.2⟩
  by_cases k2 : kind = 2
  · subst k2
    obtain ⟨B, hB⟩ : ∃ B, B = decide ((2 : Int) = 2 ∧ s.toList = (⟨#[]⟩ : ByteArray).toList ∧ hi = false ∧ t.toList = (⟨#[]⟩ : ByteArray).toList ∧ lo = 0 ∧ up = 0 ∧ n = 0) := ⟨_, rfl⟩
    have hq := ndEq_is 2 s hi t lo up n 2 ⟨#[]⟩ false ⟨#[]⟩ 0 0 0 B hB
    have HB : Hid (B = true ↔ (2 : Int) = 2 ∧ s.toList = (⟨#[]⟩ : ByteArray).toList ∧ hi = false ∧ t.toList = (⟨#[]⟩ : ByteArray).toList ∧ lo = 0 ∧ up = 0 ∧ n = 0) := by rw [hB]; show decide _ = true ↔ _; simp only [decide_eq_true_eq]
    clear hB
    have HF : Hid (B = true ↔ GoodN ⟨2, s, hi, t, lo, up, n⟩) := by
      show B = true ↔ GoodN _
      have hB := HB.out
      have hG := HG.out
      have hE := emptyL
      try simp only [hE] at hB
      rw [hB]
      simp [GoodN]
      constructor
      · rintro ⟨q1, q2, q3, q4, q5, q6⟩
        simp_all
      · rintro ⟨q1, q2, q3, q4⟩
        simp_all
    go_wp2_with fail
    go_ret
    exact ⟨_, rfl, HF.out, HW0.out.2⟩
  by_cases k3 : kind = 3
  · subst k3
    obtain ⟨B, hB⟩ : ∃ B, B = decide ((3 : Int) = 3 ∧ s.toList = (⟨#[]⟩ : ByteArray).toList ∧ hi = false ∧ t.toList = (⟨#[]⟩ : ByteArray).toList ∧ lo = 0 ∧ up = 0 ∧ n = 0) := ⟨_, rfl⟩
    have hq := ndEq_is 3 s hi t lo up n 3 ⟨#[]⟩ false ⟨#[]⟩ 0 0 0 B hB
    have HB : Hid (B = true ↔ (3 : Int) = 3 ∧ s.toList = (⟨#[]⟩ : ByteArray).toList ∧ hi = false ∧ t.toList = (⟨#[]⟩ : ByteArray).toList ∧ lo = 0 ∧ up = 0 ∧ n = 0) := by rw [hB]; show decide _ = true ↔ _; simp only [decide_eq_true_eq]
    clear hB
    have HF : Hid (B = true ↔ GoodN ⟨3, s, hi, t, lo, up, n⟩) := by
      show B = true ↔ GoodN _
      have hB := HB.out
      have hG := HG.out
      have hE := emptyL
      try simp only [hE] at hB
      rw [hB]
      simp [GoodN]
      constructor
      · rintro ⟨q1, q2, q3, q4, q5, q6⟩
        simp_all
      · rintro ⟨q1, q2, q3, q4⟩
        simp_all
    go_wp2_with fail
    go_ret
    exact ⟨_, rfl, HF.out, HW0.out.2⟩
  by_cases k14 : kind = 14
  · subst k14
    obtain ⟨B, hB⟩ : ∃ B, B = decide ((14 : Int) = 14 ∧ s.toList = (⟨#[]⟩ : ByteArray).toList ∧ hi = false ∧ t.toList = (⟨#[]⟩ : ByteArray).toList ∧ lo = 0 ∧ up = 0 ∧ n = 0) := ⟨_, rfl⟩
    have hq := ndEq_is 14 s hi t lo up n 14 ⟨#[]⟩ false ⟨#[]⟩ 0 0 0 B hB
    have HB : Hid (B = true ↔ (14 : Int) = 14 ∧ s.toList = (⟨#[]⟩ : ByteArray).toList ∧ hi = false ∧ t.toList = (⟨#[]⟩ : ByteArray).toList ∧ lo = 0 ∧ up = 0 ∧ n = 0) := by rw [hB]; show decide _ = true ↔ _; simp only [decide_eq_true_eq]
    clear hB
    have HF : Hid (B = true ↔ GoodN ⟨14, s, hi, t, lo, up, n⟩) := by
      show B = true ↔ GoodN _
      have hB := HB.out
      have hG := HG.out
      have hE := emptyL
      try simp only [hE] at hB
      rw [hB]
      simp [GoodN]
      constructor
      · rintro ⟨q1, q2, q3, q4, q5, q6⟩
        simp_all
      · rintro ⟨q1, q2, q3, q4⟩
        simp_all
    go_wp2_with fail
    go_ret
    exact ⟨_, rfl, HF.out, HW0.out.2⟩
  by_cases k15 : kind = 15
  · subst k15
    obtain ⟨B, hB⟩ : ∃ B, B = decide ((15 : Int) = 15 ∧ s.toList = (⟨#[]⟩ : ByteArray).toList ∧ hi = false ∧ t.toList = (⟨#[]⟩ : ByteArray).toList ∧ lo = 0 ∧ up = 0 ∧ n = 0) := ⟨_, rfl⟩
    have hq := ndEq_is 15 s hi t lo up n 15 ⟨#[]⟩ false ⟨#[]⟩ 0 0 0 B hB
    have HB : Hid (B = true ↔ (15 : Int) = 15 ∧ s.toList = (⟨#[]⟩ : ByteArray).toList ∧ hi = false ∧ t.toList = (⟨#[]⟩ : ByteArray).toList ∧ lo = 0 ∧ up = 0 ∧ n = 0) := by rw [hB]; show decide _ = true ↔ _; simp only [decide_eq_true_eq]
    clear hB
    have HF : Hid (B = true ↔ GoodN ⟨15, s, hi, t, lo, up, n⟩) := by
      show B = true ↔ GoodN _
      have hB := HB.out
      have hG := HG.out
      have hE := emptyL
      try simp only [hE] at hB
      rw [hB]
      simp [GoodN]
      constructor
      · rintro ⟨q1, q2, q3, q4, q5, q6⟩
        simp_all
      · rintro ⟨q1, q2, q3, q4⟩
        simp_all
    go_wp2_with fail
    go_ret
    exact ⟨_, rfl, HF.out, HW0.out.2⟩
  by_cases k16 : kind = 16
  · subst k16
    obtain ⟨B, hB⟩ : ∃ B, B = decide ((16 : Int) = 16 ∧ s.toList = (⟨#[]⟩ : ByteArray).toList ∧ hi = false ∧ t.toList = (⟨#[]⟩ : ByteArray).toList ∧ lo = 0 ∧ up = 0 ∧ n = 0) := ⟨_, rfl⟩
    have hq := ndEq_is 16 s hi t lo up n 16 ⟨#[]⟩ false ⟨#[]⟩ 0 0 0 B hB
    have HB : Hid (B = true ↔ (16 : Int) = 16 ∧ s.toList = (⟨#[]⟩ : ByteArray).toList ∧ hi = false ∧ t.toList = (⟨#[]⟩ : ByteArray).toList ∧ lo = 0 ∧ up = 0 ∧ n = 0) := by rw [hB]; show decide _ = true ↔ _; simp only [decide_eq_true_eq]
    clear hB
    have HF : Hid (B = true ↔ GoodN ⟨16, s, hi, t, lo, up, n⟩) := by
      show B = true ↔ GoodN _
      have hB := HB.out
      have hG := HG.out
      have hE := emptyL
      try simp only [hE] at hB
      rw [hB]
      simp [GoodN]
      constructor
      · rintro ⟨q1, q2, q3, q4, q5, q6⟩
        simp_all
      · rintro ⟨q1, q2, q3, q4⟩
        simp_all
    go_wp2_with fail
    go_ret
    exact ⟨_, rfl, HF.out, HW0.out.2⟩
  by_cases k4 : kind = 4
  · subst k4
    obtain ⟨B, hB⟩ : ∃ B, B = decide ((4 : Int) = 4 ∧ s.toList = s.toList ∧ hi = false ∧ t.toList = (⟨#[]⟩ : ByteArray).toList ∧ lo = 0 ∧ up = 0 ∧ n = 0) := ⟨_, rfl⟩
    have hq := ndEq_is 4 s hi t lo up n 4 s false ⟨#[]⟩ 0 0 0 B hB
    have HB : Hid (B = true ↔ (4 : Int) = 4 ∧ s.toList = s.toList ∧ hi = false ∧ t.toList = (⟨#[]⟩ : ByteArray).toList ∧ lo = 0 ∧ up = 0 ∧ n = 0) := by rw [hB]; show decide _ = true ↔ _; simp only [decide_eq_true_eq]
    clear hB
    cases B
    · have HF : Hid (¬ GoodN ⟨4, s, hi, t, lo, up, n⟩) := by
        show ¬ GoodN _
        have hB := HB.out
        have hE := emptyL
        try simp only [hE] at hB
        intro q
        simp [GoodN] at q hB
        simp_all
      go_wp2_with fail
      go_ret
      exact ⟨_, rfl, by simp [HF.out], HW0.out.2⟩
    · have HF : Hid (GoodN ⟨4, s, hi, t, lo, up, n⟩ ↔ c = 0) := by
        show GoodN _ ↔ _
        have hB := HB.out
        have hG := HG.out
        have hE := emptyL
        try simp only [hE] at hB
        rw [HV.out]
        simp at hB
        simp [GoodN]
        simp_all
      have hfd := regField c k
      go_wp2_with fail
      refine (HC.out _).mono ?_
      rintro r w2 ⟨rfl, hb2⟩
      clear c0 c1 c2 c3 c4 c5 c6
      go_wp2_with fail
      go_ret
      exact ⟨_, rfl, by rw [HF.out]; simp, HW0.out.2.trans (hb2.mono hbw)⟩
  by_cases k5 : kind = 5
  · subst k5
    obtain ⟨B, hB⟩ : ∃ B, B = decide ((5 : Int) = 5 ∧ s.toList = s.toList ∧ hi = false ∧ t.toList = (⟨#[]⟩ : ByteArray).toList ∧ lo = 0 ∧ up = 0 ∧ n = 0) := ⟨_, rfl⟩
    have hq := ndEq_is 5 s hi t lo up n 5 s false ⟨#[]⟩ 0 0 0 B hB
    have HB : Hid (B = true ↔ (5 : Int) = 5 ∧ s.toList = s.toList ∧ hi = false ∧ t.toList = (⟨#[]⟩ : ByteArray).toList ∧ lo = 0 ∧ up = 0 ∧ n = 0) := by rw [hB]; show decide _ = true ↔ _; simp only [decide_eq_true_eq]
    clear hB
    cases B
    · have HF : Hid (¬ GoodN ⟨5, s, hi, t, lo, up, n⟩) := by
        show ¬ GoodN _
        have hB := HB.out
        have hE := emptyL
        try simp only [hE] at hB
        intro q
        simp [GoodN] at q hB
        simp_all
      go_wp2_with fail
      go_ret
      exact ⟨_, rfl, by simp [HF.out], HW0.out.2⟩
    · have HF : Hid (GoodN ⟨5, s, hi, t, lo, up, n⟩ ↔ c = 0) := by
        show GoodN _ ↔ _
        have hB := HB.out
        have hG := HG.out
        have hE := emptyL
        try simp only [hE] at hB
        rw [HV.out]
        simp at hB
        simp [GoodN]
        simp_all
      have hfd := regField c k
      go_wp2_with fail
      refine (HC.out _).mono ?_
      rintro r w2 ⟨rfl, hb2⟩
      clear c0 c1 c2 c3 c4 c5 c6
      go_wp2_with fail
      go_ret
      exact ⟨_, rfl, by rw [HF.out]; simp, HW0.out.2.trans (hb2.mono hbw)⟩
  by_cases k6 : kind = 6
  · subst k6
    obtain ⟨B, hB⟩ : ∃ B, B = decide ((6 : Int) = 6 ∧ s.toList = s.toList ∧ hi = false ∧ t.toList = (⟨#[]⟩ : ByteArray).toList ∧ lo = 0 ∧ up = 0 ∧ n = 0) := ⟨_, rfl⟩
    have hq := ndEq_is 6 s hi t lo up n 6 s false ⟨#[]⟩ 0 0 0 B hB
    have HB : Hid (B = true ↔ (6 : Int) = 6 ∧ s.toList = s.toList ∧ hi = false ∧ t.toList = (⟨#[]⟩ : ByteArray).toList ∧ lo = 0 ∧ up = 0 ∧ n = 0) := by rw [hB]; show decide _ = true ↔ _; simp only [decide_eq_true_eq]
    clear hB
    cases B
    · have HF : Hid (¬ GoodN ⟨6, s, hi, t, lo, up, n⟩) := by
        show ¬ GoodN _
        have hB := HB.out
        have hE := emptyL
        try simp only [hE] at hB
        intro q
        simp [GoodN] at q hB
        simp_all
      go_wp2_with fail
      go_ret
      exact ⟨_, rfl, by simp [HF.out], HW0.out.2⟩
    · have HF : Hid (GoodN ⟨6, s, hi, t, lo, up, n⟩ ↔ c = 0) := by
        show GoodN _ ↔ _
        have hB := HB.out
        have hG := HG.out
        have hE := emptyL
        try simp only [hE] at hB
        rw [HV.out]
        simp at hB
        simp [GoodN]
        simp_all
      have hfd := regField c k
      go_wp2_with fail
      refine (HC.out _).mono ?_
      rintro r w2 ⟨rfl, hb2⟩
      clear c0 c1 c2 c3 c4 c5 c6
      go_wp2_with fail
      go_ret
      exact ⟨_, rfl, by rw [HF.out]; simp, HW0.out.2.trans (hb2.mono hbw)⟩
  by_cases k7 : kind = 7
  · subst k7
    obtain ⟨B, hB⟩ : ∃ B, B = decide ((7 : Int) = 7 ∧ s.toList = s.toList ∧ hi = false ∧ t.toList = (⟨#[]⟩ : ByteArray).toList ∧ lo = 0 ∧ up = 0 ∧ n = 0) := ⟨_, rfl⟩
    have hq := ndEq_is 7 s hi t lo up n 7 s false ⟨#[]⟩ 0 0 0 B hB
    have HB : Hid (B = true ↔ (7 : Int) = 7 ∧ s.toList = s.toList ∧ hi = false ∧ t.toList = (⟨#[]⟩ : ByteArray).toList ∧ lo = 0 ∧ up = 0 ∧ n = 0) := by rw [hB]; show decide _ = true ↔ _; simp only [decide_eq_true_eq]
    clear hB
    cases B
    · have HF : Hid (¬ GoodN ⟨7, s, hi, t, lo, up, n⟩) := by
        show ¬ GoodN _
        have hB := HB.out
        have hE := emptyL
        try simp only [hE] at hB
        intro q
        simp [GoodN] at q hB
        simp_all
      go_wp2_with fail
      go_ret
      exact ⟨_, rfl, by simp [HF.out], HW0.out.2⟩
    · have HF : Hid (GoodN ⟨7, s, hi, t, lo, up, n⟩ ↔ c = 0) := by
        show GoodN _ ↔ _
        have hB := HB.out
        have hG := HG.out
        have hE := emptyL
        try simp only [hE] at hB
        rw [HV.out]
        simp at hB
        simp [GoodN]
        simp_all
      have hfd := regField c k
      go_wp2_with fail
      refine (HC.out _).mono ?_
      rintro r w2 ⟨rfl, hb2⟩
      clear c0 c1 c2 c3 c4 c5 c6
      go_wp2_with fail
      go_ret
      exact ⟨_, rfl, by rw [HF.out]; simp, HW0.out.2.trans (hb2.mono hbw)⟩
  by_cases k8 : kind = 8
  · subst k8
    obtain ⟨B, hB⟩ : ∃ B, B = decide ((8 : Int) = 8 ∧ s.toList = s.toList ∧ hi = hi ∧ t.toList = t.toList ∧ lo = 0 ∧ up = 0 ∧ n = 0) := ⟨_, rfl⟩
    have hq := ndEq_is 8 s hi t lo up n 8 s hi t 0 0 0 B hB
    have HB : Hid (B = true ↔ (8 : Int) = 8 ∧ s.toList = s.toList ∧ hi = hi ∧ t.toList = t.toList ∧ lo = 0 ∧ up = 0 ∧ n = 0) := by rw [hB]; show decide _ = true ↔ _; simp only [decide_eq_true_eq]
    clear hB
    cases B
    · have HF : Hid (¬ GoodN ⟨8, s, hi, t, lo, up, n⟩) := by
        show ¬ GoodN _
        have hB := HB.out
        have hE := emptyL
        try simp only [hE] at hB
        intro q
        simp [GoodN] at q hB
        simp_all
      go_wp2_with fail
      go_ret
      exact ⟨_, rfl, by simp [HF.out], HW0.out.2⟩
    · go_wp2_with fail
      refine (ends_core ⟨8, s, hi, t, lo, up, n⟩ _).mono ?_
      rintro r w2 ⟨b, rfl, hb, hb2⟩
      have HF : Hid (b = true ↔ GoodN ⟨8, s, hi, t, lo, up, n⟩) := by
        show b = true ↔ GoodN _
        have hB := HB.out
        have hG := HG.out
        have hE := emptyL
        have hL := lessL
        try simp only [hE] at hB
        simp at hB
        rw [hb]
        simp [GoodN]
        cases hi <;> simp_all [less]
      clear hb c0 c1 c2 c3 c4 c5 c6
      go_wp2_with fail
      go_ret
      exact ⟨_, rfl, HF.out, HW0.out.2.trans (hb2.mono hbw)⟩
  by_cases k9 : kind = 9
  · subst k9
    obtain ⟨B, hB⟩ : ∃ B, B = decide ((9 : Int) = 9 ∧ s.toList = s.toList ∧ hi = hi ∧ t.toList = t.toList ∧ lo = 0 ∧ up = 0 ∧ n = 0) := ⟨_, rfl⟩
    have hq := ndEq_is 9 s hi t lo up n 9 s hi t 0 0 0 B hB
    have HB : Hid (B = true ↔ (9 : Int) = 9 ∧ s.toList = s.toList ∧ hi = hi ∧ t.toList = t.toList ∧ lo = 0 ∧ up = 0 ∧ n = 0) := by rw [hB]; show decide _ = true ↔ _; simp only [decide_eq_true_eq]
    clear hB
    cases B
    · have HF : Hid (¬ GoodN ⟨9, s, hi, t, lo, up, n⟩) := by
        show ¬ GoodN _
        have hB := HB.out
        have hE := emptyL
        try simp only [hE] at hB
        intro q
        simp [GoodN] at q hB
        simp_all
      go_wp2_with fail
      go_ret
      exact ⟨_, rfl, by simp [HF.out], HW0.out.2⟩
    · go_wp2_with fail
      refine (ends_core ⟨9, s, hi, t, lo, up, n⟩ _).mono ?_
      rintro r w2 ⟨b, rfl, hb, hb2⟩
      have HF : Hid (b = true ↔ GoodN ⟨9, s, hi, t, lo, up, n⟩) := by
        show b = true ↔ GoodN _
        have hB := HB.out
        have hG := HG.out
        have hE := emptyL
        have hL := lessL
        try simp only [hE] at hB
        simp at hB
        rw [hb]
        simp [GoodN]
        cases hi <;> simp_all [less]
      clear hb c0 c1 c2 c3 c4 c5 c6
      go_wp2_with fail
      go_ret
      exact ⟨_, rfl, HF.out, HW0.out.2.trans (hb2.mono hbw)⟩
  by_cases k10 : kind = 10
  · subst k10
    obtain ⟨B, hB⟩ : ∃ B, B = decide ((10 : Int) = 10 ∧ s.toList = (⟨#[]⟩ : ByteArray).toList ∧ hi = hi ∧ t.toList = (⟨#[]⟩ : ByteArray).toList ∧ lo = lo ∧ up = up ∧ n = 0) := ⟨_, rfl⟩
    have hq := ndEq_is 10 s hi t lo up n 10 ⟨#[]⟩ hi ⟨#[]⟩ lo up 0 B hB
    have HB : Hid (B = true ↔ (10 : Int) = 10 ∧ s.toList = (⟨#[]⟩ : ByteArray).toList ∧ hi = hi ∧ t.toList = (⟨#[]⟩ : ByteArray).toList ∧ lo = lo ∧ up = up ∧ n = 0) := by rw [hB]; show decide _ = true ↔ _; simp only [decide_eq_true_eq]
    clear hB
    cases B
    · have HF : Hid (¬ GoodN ⟨10, s, hi, t, lo, up, n⟩) := by
        show ¬ GoodN _
        have hB := HB.out
        have hE := emptyL
        try simp only [hE] at hB
        intro q
        simp [GoodN] at q hB
        simp_all
      go_wp2_with fail
      go_ret
      exact ⟨_, rfl, by simp [HF.out], HW0.out.2⟩
    · go_wp2_with fail
      refine (ends_core ⟨10, s, hi, t, lo, up, n⟩ _).mono ?_
      rintro r w2 ⟨b, rfl, hb, hb2⟩
      have HF : Hid (b = true ↔ GoodN ⟨10, s, hi, t, lo, up, n⟩) := by
        show b = true ↔ GoodN _
        have hB := HB.out
        have hG := HG.out
        have hE := emptyL
        have hL := lessL
        try simp only [hE] at hB
        simp at hB
        rw [hb]
        simp [GoodN]
        cases hi <;> simp_all [less]
      clear hb c0 c1 c2 c3 c4 c5 c6
      go_wp2_with fail
      go_ret
      exact ⟨_, rfl, HF.out, HW0.out.2.trans (hb2.mono hbw)⟩
  by_cases k11 : kind = 11
  · subst k11
    obtain ⟨B, hB⟩ : ∃ B, B = decide ((11 : Int) = 11 ∧ s.toList = (⟨#[]⟩ : ByteArray).toList ∧ hi = false ∧ t.toList = (⟨#[]⟩ : ByteArray).toList ∧ lo = 0 ∧ up = 0 ∧ n = n) := ⟨_, rfl⟩
    have hq := ndEq_is 11 s hi t lo up n 11 ⟨#[]⟩ false ⟨#[]⟩ 0 0 n B hB
    have HB : Hid (B = true ↔ (11 : Int) = 11 ∧ s.toList = (⟨#[]⟩ : ByteArray).toList ∧ hi = false ∧ t.toList = (⟨#[]⟩ : ByteArray).toList ∧ lo = 0 ∧ up = 0 ∧ n = n) := by rw [hB]; show decide _ = true ↔ _; simp only [decide_eq_true_eq]
    clear hB
    cases B
    · have HF : Hid (¬ GoodN ⟨11, s, hi, t, lo, up, n⟩) := by
        show ¬ GoodN _
        have hB := HB.out
        have hE := emptyL
        try simp only [hE] at hB
        intro q
        simp [GoodN] at q hB
        simp_all
      go_wp2_with fail
      go_ret
      exact ⟨_, rfl, by simp [HF.out], HW0.out.2⟩
    · have HF : Hid (GoodN ⟨11, s, hi, t, lo, up, n⟩ ↔ (1 ≤ n ∧ n ≤ 1000)) := by
        show GoodN _ ↔ _
        have hB := HB.out
        have hG := HG.out
        have hE := emptyL
        try simp only [hE] at hB
        simp at hB
        simp [GoodN]
        simp_all
      by_cases h1 : 1 ≤ n
      · go_wp2_with fail
        go_ret
        exact ⟨_, rfl, by rw [HF.out]; simp; omega, HW0.out.2⟩
      · go_wp2_with fail
        go_ret
        exact ⟨_, rfl, by rw [HF.out]; simp; omega, HW0.out.2⟩
  by_cases k12 : kind = 12
  · subst k12
    obtain ⟨B, hB⟩ : ∃ B, B = decide ((12 : Int) = 12 ∧ s.toList = (⟨#[]⟩ : ByteArray).toList ∧ hi = false ∧ t.toList = (⟨#[]⟩ : ByteArray).toList ∧ lo = 0 ∧ up = 0 ∧ n = n) := ⟨_, rfl⟩
    have hq := ndEq_is 12 s hi t lo up n 12 ⟨#[]⟩ false ⟨#[]⟩ 0 0 n B hB
    have HB : Hid (B = true ↔ (12 : Int) = 12 ∧ s.toList = (⟨#[]⟩ : ByteArray).toList ∧ hi = false ∧ t.toList = (⟨#[]⟩ : ByteArray).toList ∧ lo = 0 ∧ up = 0 ∧ n = n) := by rw [hB]; show decide _ = true ↔ _; simp only [decide_eq_true_eq]
    clear hB
    cases B
    · have HF : Hid (¬ GoodN ⟨12, s, hi, t, lo, up, n⟩) := by
        show ¬ GoodN _
        have hB := HB.out
        have hE := emptyL
        try simp only [hE] at hB
        intro q
        simp [GoodN] at q hB
        simp_all
      go_wp2_with fail
      go_ret
      exact ⟨_, rfl, by simp [HF.out], HW0.out.2⟩
    · have HF : Hid (GoodN ⟨12, s, hi, t, lo, up, n⟩ ↔ (1 ≤ n ∧ n ≤ 1000)) := by
        show GoodN _ ↔ _
        have hB := HB.out
        have hG := HG.out
        have hE := emptyL
        try simp only [hE] at hB
        simp at hB
        simp [GoodN]
        simp_all
      by_cases h1 : 1 ≤ n
      · go_wp2_with fail
        go_ret
        exact ⟨_, rfl, by rw [HF.out]; simp; omega, HW0.out.2⟩
      · go_wp2_with fail
        go_ret
        exact ⟨_, rfl, by rw [HF.out]; simp; omega, HW0.out.2⟩
  by_cases k13 : kind = 13
  · subst k13
    obtain ⟨B, hB⟩ : ∃ B, B = decide ((13 : Int) = 13 ∧ s.toList = (⟨#[]⟩ : ByteArray).toList ∧ hi = false ∧ t.toList = (⟨#[]⟩ : ByteArray).toList ∧ lo = 0 ∧ up = 0 ∧ n = n) := ⟨_, rfl⟩
    have hq := ndEq_is 13 s hi t lo up n 13 ⟨#[]⟩ false ⟨#[]⟩ 0 0 n B hB
    have HB : Hid (B = true ↔ (13 : Int) = 13 ∧ s.toList = (⟨#[]⟩ : ByteArray).toList ∧ hi = false ∧ t.toList = (⟨#[]⟩ : ByteArray).toList ∧ lo = 0 ∧ up = 0 ∧ n = n) := by rw [hB]; show decide _ = true ↔ _; simp only [decide_eq_true_eq]
    clear hB
    cases B
    · have HF : Hid (¬ GoodN ⟨13, s, hi, t, lo, up, n⟩) := by
        show ¬ GoodN _
        have hB := HB.out
        have hE := emptyL
        try simp only [hE] at hB
        intro q
        simp [GoodN] at q hB
        simp_all
      go_wp2_with fail
      go_ret
      exact ⟨_, rfl, by simp [HF.out], HW0.out.2⟩
    · have HF : Hid (GoodN ⟨13, s, hi, t, lo, up, n⟩ ↔ (1 ≤ n ∧ n ≤ 1000)) := by
        show GoodN _ ↔ _
        have hB := HB.out
        have hG := HG.out
        have hE := emptyL
        try simp only [hE] at hB
        simp at hB
        simp [GoodN]
        simp_all
      by_cases h1 : 1 ≤ n
      · go_wp2_with fail
        go_ret
        exact ⟨_, rfl, by rw [HF.out]; simp; omega, HW0.out.2⟩
      · go_wp2_with fail
        go_ret
        exact ⟨_, rfl, by rw [HF.out]; simp; omega, HW0.out.2⟩
  have HF : Hid (¬ GoodN ⟨kind, s, hi, t, lo, up, n⟩) := by
    show ¬ GoodN _
    simp only [GoodN]
    rintro ⟨_, _, _, q⟩
    omega
  go_wp2_with fail
  go_ret
  exact ⟨_, rfl, by simp [HF.out], HW0.out.2⟩
end Go.Proofs.YtkidabedcgngcaaGreatDoor

/-
  impl.operandCount, strength, inParens, shapeOf.
-/
namespace Go.Proofs.YtkidabedcgngcaaGreatDoor
open Go.ChangeShapes Go.WideShapes Go.ChangeAt Go.RowKit Go.Deep
set_option linter.unusedVariables false
set_option linter.unusedSimpArgs false
set_option linter.unnecessarySimpa false
set_option maxRecDepth 100000

set_option maxHeartbeats 1000000 in
theorem operandCount_core (k : Int) (w : World) : Calls Tryz.prog 61 #[.int .i64 k] w fun e w' => e = .returned (.int .i64 (arity k : Int)) ∧ w' = w := by
  by_cases h14 : k = 14
  · subst h14
    go_enter Tryz.func61, Tryz.ntmps61
    go_wp2_with fail
    go_ret
    exact ⟨rfl, rfl⟩
  by_cases h15 : k = 15
  · subst h15
    go_enter Tryz.func61, Tryz.ntmps61
    go_wp2_with fail
    go_ret
    exact ⟨rfl, rfl⟩
  by_cases h16 : k = 16
  · subst h16
    go_enter Tryz.func61, Tryz.ntmps61
    go_wp2_with fail
    go_ret
    exact ⟨rfl, rfl⟩
  have z14 : (k == 14) = false := by simpa using h14
  have z15 : (k == 15) = false := by simpa using h15
  have z16 : (k == 16) = false := by simpa using h16
  have H : Hid (arity k = 0) := by show arity k = 0; unfold arity; rw [if_neg (by omega), if_neg h16]
  go_enter Tryz.func61, Tryz.ntmps61
  go_wp2_with fail
  go_ret
  exact ⟨by rw [H.out]; rfl, rfl⟩
set_option maxHeartbeats 1000000 in
theorem strength_core (k : Int) (w : World) : Calls Tryz.prog 128 #[.int .i64 k] w fun e w' => e = .returned (.int .i64 (strong k : Int)) ∧ w' = w := by
  by_cases h15 : k = 15
  · subst h15
    go_enter Tryz.func128, Tryz.ntmps128
    go_wp2_with fail
    go_ret
    exact ⟨rfl, rfl⟩
  by_cases h14 : k = 14
  · subst h14
    go_enter Tryz.func128, Tryz.ntmps128
    go_wp2_with fail
    go_ret
    exact ⟨rfl, rfl⟩
  have z14 : (k == 14) = false := by simpa using h14
  have z15 : (k == 15) = false := by simpa using h15
  have H : Hid (strong k = 3) := by show strong k = 3; unfold strong; rw [if_neg h15, if_neg h14]
  go_enter Tryz.func128, Tryz.ntmps128
  go_wp2_with fail
  go_ret
  exact ⟨by rw [H.out]; rfl, rfl⟩
set_option maxHeartbeats 1000000 in
theorem inParens_core (op : Int) (i : Nat) (kid : Int) (w : World) (hop : ¬ op = 16) : Calls Tryz.prog 100 #[.int .i64 op, .int .i64 (i : Int), .int .i64 kid] w fun e w' => e = .returned (.bool (level op i kid)) ∧ w' = w := by
  by_cases hi : i = 0
  · subst hi
    have HL : Hid (level op 0 kid = decide (strong kid < strong op)) := by
      show level op 0 kid = _
      unfold level; simp [hop]
    clear hop
    go_enter Tryz.func100, Tryz.ntmps100
    go_wp2_with (go_at_call 128; refine (strength_core _ _).mono ?_; rintro e' w' ⟨rfl, rfl⟩)
    go_ret
    exact ⟨by rw [HL.out]; rfl, rfl⟩
  · have zi : ((i : Int) == 0) = false := by simpa using hi
    have HL : Hid (level op i kid = decide (strong kid ≤ strong op)) := by
      show level op i kid = _
      unfold level; simp [hop, hi]
    clear hop
    go_enter Tryz.func100, Tryz.ntmps100
    go_wp2_with (go_at_call 128; refine (strength_core _ _).mono ?_; rintro e' w' ⟨rfl, rfl⟩)
    go_ret
    exact ⟨by rw [HL.out]; rfl, rfl⟩
abbrev Shape.three (s : Shape) : List Value := [.bool s.valid, .int .i64 s.kind, .int .i64 (s.nest : Int)]
def cellsS (ss : List Shape) : List Value := ss.flatMap Shape.three
theorem length_cellsS (ss : List Shape) : (cellsS ss).length = ss.length * 3 := by
  induction ss with
  | nil => rfl
  | cons e es ih => simp only [cellsS, List.flatMap_cons, List.length_append] at ih ⊢; rw [ih]; simp; omega
theorem cellsS_append (es fs : List Shape) : cellsS (es ++ fs) = cellsS es ++ cellsS fs := by simp [cellsS]
theorem cellsS_get (es : List Shape) : ∀ (k : Nat) (e : Shape), es[k]? = some e → ∀ j, j < 3 → (cellsS es)[k * 3 + j]? = e.three[j]? := by
  induction es with
  | nil => intro k e h; simp at h
  | cons f es ih =>
    intro k e h j hj
    have hc : cellsS (f :: es) = f.three ++ cellsS es := by simp [cellsS]
    rw [hc]
    cases k with
    | zero =>
      simp at h; subst h
      rw [List.getElem?_append_left (by show 0 * 3 + j < 3; omega)]
      simp
    | succ k =>
      simp at h
      rw [List.getElem?_append_right (by show 3 ≤ (k + 1) * 3 + j; omega)]
      have : (k + 1) * 3 + j - f.three.length = k * 3 + j := by show (k + 1) * 3 + j - 3 = _; omega
      rw [this]; exact ih k e h j hj
theorem cellsS_take (es : List Shape) (k : Nat) : cellsS (es.take k) = (cellsS es).take (k * 3) := by
  induction es generalizing k with
  | nil => simp [cellsS]
  | cons f es ih =>
    cases k with
    | zero => simp [cellsS]
    | succ k =>
      have hc : cellsS (f :: es) = f.three ++ cellsS es := by simp [cellsS]
      have hd : cellsS (f :: es.take k) = f.three ++ cellsS (es.take k) := by simp [cellsS]
      have e1 : (k + 1) * 3 = f.three.length + k * 3 := by show (k + 1) * 3 = 3 + k * 3; omega
      rw [List.take_succ_cons, hd, hc, ih, e1, List.take_length_add_append]
/-- Shapes at ⟨b, o⟩. -/
def ShsAt (w : World) (b o : Nat) (ss : List Shape) : Prop := ∀ i s, ss[i]? = some s → w.cell? ⟨b, o + i * 3, none⟩ = some (.bool s.valid) ∧ w.cell? ⟨b, o + i * 3 + 1, none⟩ = some (.int .i64 s.kind) ∧ w.cell? ⟨b, o + i * 3 + 2, none⟩ = some (.int .i64 (s.nest : Int))
theorem ShsAt.below {B : Nat} {w w' : World} {b o : Nat} {ss : List Shape} (h : ShsAt w b o ss) (hb : Below B w w') (hlt : b < B) : ShsAt w' b o ss := by
  intro i e he
  have := h i e he
  refine ⟨?_, ?_, ?_⟩
  all_goals rw [hb.cell (by exact hlt)]
  · exact this.1
  · exact this.2.1
  · exact this.2.2
theorem ShsAt.drop {w : World} {b o : Nat} {ss : List Shape} (h : ShsAt w b o ss) (k : Nat) : ShsAt w b (o + k * 3) (ss.drop k) := by
  intro i s hs
  have := h (k + i) s (by rw [← List.getElem?_drop]; exact hs)
  rw [Nat.add_mul, ← Nat.add_assoc] at this
  exact this
def OwnSh (w : World) (base g cp : Nat) (ss : List Shape) : Prop := w.ownsRow base 96 3 (.slice (some ⟨g, 0, none⟩) ss.length cp) ss.length (cellsS ss)
theorem OwnSh.lt {w : World} {base g cp : Nat} {ss : List Shape} (h : OwnSh w base g cp ss) : base ≤ g ∧ g < w.heap.size := World.ownsRow.lt h g rfl
theorem OwnSh.below {w w' : World} {base g cp : Nat} {ss : List Shape} (h : OwnSh w base g cp ss) (hb : Below w.heap.size w w') : OwnSh w' base g cp ss := own_chg h (Chg.of_below hb) (S := fun _ => False) (fun k q z => z)
theorem OwnSh.at {w : World} {base g cp : Nat} {ss : List Shape} (h : OwnSh w base g cp ss) : ShsAt w g 0 ss := by
  intro i e he
  have hi : i < ss.length := (List.getElem?_eq_some_iff.1 he).1
  have c := fun j (hj : j < 3) => (World.ownsRow.cellAt h (i * 3 + j) (by omega)).trans (cellsS_get ss i e he j hj)
  refine ⟨?_, ?_, ?_⟩
  · simpa using c 0 (by omega)
  · simpa using c 1 (by omega)
  · simpa using c 2 (by omega)
theorem OwnSh.caps {w : World} {base g cp : Nat} {ss : List Shape} (h : OwnSh w base g cp ss) : ss.length ≤ cp ∧ cp ≤ maxLen := by
  rcases h.2 with ⟨h0, _⟩ | ⟨g', cap', cur, hv, _, _, hn, hcap, _, _⟩
  · cases h0
  · simp only [Value.slice.injEq, Option.some.injEq, Addr.mk.injEq, and_true, true_and] at hv
    obtain ⟨rfl, rfl⟩ := hv
    exact ⟨hn, hcap⟩
theorem OwnSh.take {w : World} {base g cp : Nat} {ss : List Shape} (h : OwnSh w base g cp ss) {k : Nat} (hk : k ≤ ss.length) : OwnSh w base g cp (ss.take k) := by
  rcases h.2 with ⟨h0, _⟩ | ⟨g', cap', cur, hv, h1, h2, h3, h4, h5, h6⟩
  · cases h0
  · simp only [Value.slice.injEq, Option.some.injEq, Addr.mk.injEq, and_true, true_and] at hv
    obtain ⟨rfl, rfl⟩ := hv
    have hl : (ss.take k).length = k := by rw [List.length_take]; omega
    refine ⟨by rw [length_cellsS], .inr ⟨g, cp, cur, rfl, h1, h2, by omega, h4, h5, ?_⟩⟩
    rw [hl, cellsS_take, ← h6, List.take_take]
    congr 1
    omega
theorem ownSh_new (w : World) {base : Nat} (hb : base ≤ w.heap.size) : OwnSh (w.alloc (Obj.cells #[] 96)) base w.heap.size 0 [] :=
  World.ownsRow_made w #[] 0 hb (Nat.zero_le _) (by simp)
/-- The state of shapeOf. -/
structure SoJ (w : World) (e : Nd) (WB : Nat) (v : Bool) (a : Nat) (wr : World) : Prop where
  node : BoxAt wr w.heap.size 75 7 w.heap.size e.seven
  res : BoxAt wr w.heap.size 96 3 (w.heap.size + 1) [.bool false, .int .i64 0, .int .i64 0]
  whole : BoxAt wr w.heap.size 96 3 WB [.bool v, .int .i64 e.kind, .int .i64 (a : Int)]
  ne : w.heap.size + 2 ≤ WB
  below : Below w.heap.size w wr
theorem SoJ.move {w : World} {e : Nd} {WB : Nat} {v : Bool} {a : Nat} {wr w' : World} (h : SoJ w e WB v a wr) (hb : Below wr.heap.size wr w') : SoJ w e WB v a w' :=
  ⟨h.node.below hb, h.res.below hb, h.whole.below hb, h.ne, h.below.trans (hb.mono h.below.size)⟩
theorem valid_is (e : Nd) (w : World) (hs : e.s.size ≤ maxLen) (ht : e.t.size ≤ maxLen) : Calls Tryz.prog 99 #[.agg #[.int .i64 e.kind, .string e.s, .bool e.hi, .string e.t, .int .u64 e.lo, .int .u64 e.up, .int .i64 e.n]] w fun r w' => r = .returned (.bool (goodB e)) ∧ Below w.heap.size w w' := by
  refine (validNode_core e w hs ht).mono ?_
  rintro r w' ⟨b, rfl, hb, hb2⟩
  refine ⟨?_, hb2⟩
  congr 2
  rw [Bool.eq_iff_iff, hb, goodB_iff]
end Go.Proofs.YtkidabedcgngcaaGreatDoor

/-
  A fold of nodes, one more node.
-/
namespace Go.Proofs.YtkidabedcgngcaaGreatDoor
set_option linter.unusedVariables false
set_option linter.unusedSimpArgs false
theorem foldV_next {T : Type} (V : Nd → List T → T) {xs : List Nd} {j : Nat} {ns : List T} {e : Nd} (h : foldV V [] (xs.take j) = some ns) (he : xs[j]? = some e) (hl : arity e.kind ≤ ns.length) : foldV V [] (xs.take (j + 1)) = some (ns.take (ns.length - arity e.kind) ++ [V e (ns.drop (ns.length - arity e.kind))]) := by
  rw [List.take_add_one, he, foldV_append, h]
  simp only [Option.toList, Option.bind_some, foldV, stepV]
  rw [if_neg (by omega)]
  rfl
theorem foldV_stop {T : Type} (V : Nd → List T → T) {xs : List Nd} {j : Nat} {ns : List T} {e : Nd} (h : foldV V [] (xs.take j) = some ns) (he : xs[j]? = some e) (hl : ns.length < arity e.kind) : foldV V [] xs = none := by
  have hj := (List.getElem?_eq_some_iff.1 he).1
  have : xs = xs.take j ++ e :: xs.drop (j + 1) := by
    conv => lhs; rw [← List.take_append_drop j xs, List.drop_eq_getElem_cons hj]
    rw [show xs[j] = e from Option.some.inj ((List.getElem?_eq_getElem hj).symm.trans he)]
  rw [this, foldV_append, h]
  simp only [Option.bind_some, foldV, stepV]
  rw [if_pos hl]
  rfl
end Go.Proofs.YtkidabedcgngcaaGreatDoor

