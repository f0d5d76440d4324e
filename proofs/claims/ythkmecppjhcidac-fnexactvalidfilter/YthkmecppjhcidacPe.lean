/-
  (*impl.patternReader).class.
-/
import Derived.Test.YthkmecppjhcidacPd
namespace Go.Proofs.Ythkmecppjhcidac
open Go.ChangeShapes Go.WideShapes Go.ChangeAt Go.RowKit Go.Deep
set_option linter.unusedVariables false
set_option linter.unusedSimpArgs false
set_option maxRecDepth 100000

theorem cls_first {p : List UInt8} {j : Nat} {f : UInt8 → Bool} (hj : j ≤ p.length) : clsM p j false f = match itemM p j with | .inr e => .inr e | .inl (a, b, k) => clsM p k true (wider f a b) := by
  by_cases h : j < p.length
  · rw [clsM, dif_pos h, if_neg (by simp)]
    split <;> (next hc => (rw [hc]; first | done | rfl))
  · rw [clsM, dif_neg h]
    have h0 : j = p.length := by omega
    have : itemM p j = .inr (2, p.length) := by
      unfold itemM
      rw [chM_end (List.getElem?_eq_none (by omega)), h0]
    rw [this]
theorem cls_shut {p : List UInt8} {j : Nat} {f : UInt8 → Bool} (h : p[j]? = some 93) : clsM p j true f = .inl (f, j + 1) := by
  rw [clsM, dif_pos (lt_of_at h), if_pos ⟨h, rfl⟩]
theorem cls_more {p : List UInt8} {j : Nat} {f : UInt8 → Bool} (hj : j ≤ p.length) (h : ¬ p[j]? = some 93) : clsM p j true f = match itemM p j with | .inr e => .inr e | .inl (a, b, k) => clsM p k true (wider f a b) := by
  by_cases h1 : j < p.length
  · rw [clsM, dif_pos h1, if_neg (fun q => h q.1)]
    split <;> (next hc => (rw [hc]; first | done | rfl))
  · rw [clsM, dif_neg h1]
    have h0 : j = p.length := by omega
    have : itemM p j = .inr (2, p.length) := by
      unfold itemM
      rw [chM_end (List.getElem?_eq_none (by omega)), h0]
    rw [this]
noncomputable abbrev clsV (f : UInt8 → Bool) : Value := .iface 198 (.agg (setA f))
theorem info_cls : (Try.prog.info? 198).map (fun i => (i.zero, i.size)) = some (some (.agg (Array.replicate 256 (.bool false))), 256) := by kernel_rfl
theorem places_cls : (match Try.prog.underlying 198 with | some (.struct fs) => fs.toList.mapM (fun f => (Try.prog.info? f.type).map fun i => (f.offset, i.size)) | _ => none) = some [(0, 256)] := by kernel_rfl
theorem built_set : Try.prog.built 195 [] = some (setA (fun _ => false)) := by rw [setA_none]; kernel_rfl
theorem fold_fillP : ∀ (l : List Value) (k : Nat) (z : List Value), k + l.length ≤ z.length → (l.zipIdx k).foldl (fun (cs : Array Value) (p : Value × Nat) => cs.setIfInBounds (0 + p.2) p.1) z.toArray = (z.take k ++ l ++ z.drop (k + l.length)).toArray
  | [], k, z, h => by simp
  | x :: l, k, z, h => by
    simp only [List.zipIdx_cons, List.foldl_cons, Nat.zero_add, List.setIfInBounds_toArray]
    have h2 := fold_fillP l (k + 1) (z.set k x) (by simp at h ⊢; omega)
    simp only [Nat.zero_add] at h2
    rw [h2]
    congr 1
    have hk : k < z.length := by simp at h; omega
    rw [List.take_add_one, List.take_set_of_le (Nat.le_refl _), List.getElem?_set_self hk]
    have h3 : (z.set k x).drop (k + 1 + l.length) = z.drop (k + (x :: l).length) := by
      rw [List.drop_set_of_lt (by omega)]
      congr 1
      simp; omega
    rw [h3]
    simp
theorem built_cls (c : Array Value) (hc : c.size = 256) : Try.prog.built 198 [(0, .agg c)] = some c := by
  have hp := places_cls
  cases hi : Try.prog.info? 198 with
  | none => have := info_cls; rw [hi] at this; cases this
  | some it =>
    have h1 := info_cls
    rw [hi] at h1
    simp only [Option.map_some, Option.some.injEq, Prod.mk.injEq] at h1
    cases hu : Try.prog.underlying 198 with
    | none => rw [hu] at hp; cases hp
    | some d =>
      rw [hu] at hp
      cases d <;> try (cases hp; done)
      case struct fs =>
        simp only [] at hp
        unfold Program.built
        rw [hi, hu]
        simp only []
        rw [h1.1, hp]
        simp only []
        show Instr.fill _ (Array.replicate 256 (.bool false)) [(0, .agg c)] = _
        unfold Instr.fill
        have hv : (Value.agg c).cells = c := rfl
        simp only [List.getElem?_toArray, List.getElem?_cons_zero, hv, hc]
        have hz : (Array.replicate 256 (Value.bool false)).size = 256 := by simp
        rw [if_neg (by simp [hz])]
        unfold Instr.fill
        congr 1
        have h3 := fold_fillP c.toList 0 (Array.replicate 256 (Value.bool false)).toList (by simp [hc])
        rw [← Array.foldl_toList, Array.toList_zipIdx]
        have h4 : (Array.replicate 256 (Value.bool false)).toList.toArray = Array.replicate 256 (Value.bool false) := Array.toArray_toList
        rw [h4] at h3
        refine Eq.trans h3 ?_
        have h5 : (Array.replicate 256 (Value.bool false)).toList.drop (0 + c.toList.length) = [] := by
          simp [hc]
        rw [h5]
        apply Array.ext'
        simp

theorem wpList_build_cells {ops : Array Oper} {rest : List Oper} {o : Oper} {a : Act} {w : World} {Q : Exit → Act → World → Prop} (hg : o.guard = none) (t : TypeId) (parts : Array (Nat × Operand)) (ho : o.op = .build t parts) (cells : Array Value)
    (hb : Try.prog.built t (parts.map fun (i, x) => (i, a.eval x)).toList = some cells) (h : wpList Try.prog ops Q rest (a.put o.dst (.agg cells)) w) : wpList Try.prog ops Q (o :: rest) a w := by
  refine wpList_build hg t parts ho (by rw [hb]; rfl) ?_
  rw [hb]
  exact h
theorem wpList_call_of {ops : Array Oper} {rest : List Oper} {o : Oper} {a : Act} {w : World} {Q : Exit → Act → World → Prop} (hgd : o.guard = none) (F : FuncId) (vals : Array Value) (hrun : (execOp a.eval o).run Try.prog w = .ok (.enter F vals) w)
    (h : Calls Try.prog F vals w fun e w' => match e with | .returned v => wpList Try.prog ops Q rest (a.put o.dst v) w' | .panicked chain => Q (.panic chain) a w' | .outgrown => False) : wpList Try.prog ops Q (o :: rest) a w := by
  refine wpList_plain hgd fun K hK => ?_
  unfold Oper.wp
  rw [hrun, Oper.upon_enter]
  refine h.mono ?_
  intro e w' he
  cases e with
  | returned v => exact hK _ _ he
  | panicked chain => exact he
  | outgrown => exact he.elim
theorem wpList_moveS {ops : Array Oper} {rest : List Oper} {o : Oper} {a : Act} {w : World} {Q : Exit → Act → World → Prop} (hg : o.guard = none) (x : Operand) (ho : o.op = .move x) (h : wpList Try.prog ops Q rest (a.put o.dst (a.eval x)) w) : wpList Try.prog ops Q (o :: rest) a w := by
  refine wpList_plain hg fun K hK => ?_
  unfold Oper.wp execOp
  simp only [ho, Sem.run_pure]
  exact hK _ _ h
/-- What a class comes to, seen from within. -/
def ClsEq (p : List UInt8) (i : Nat) (ng : Bool) (k : Nat) (b : Bool) (f : UInt8 → Bool) : Prop := classM p i = (match clsM p k b f with | .inl (f, k) => .inl ((if ng = true then fun c => !f c else f), k) | .inr e => .inr e)
theorem ClsEq.eq {p : List UInt8} {i : Nat} {ng : Bool} {k : Nat} {b : Bool} {f : UInt8 → Bool} (h : ClsEq p i ng k b f) : classM p i = (match clsM p k b f with | .inl (f, k) => .inl ((if ng = true then fun c => !f c else f), k) | .inr e => .inr e) := h
/-- The place at which a reader stands. -/
def atOf (w : World) (g : Nat) : Nat := match w.cell? ⟨g, 1, none⟩ with | some v => (intOf v).toNat | none => 0
theorem atOf_pr {w : World} {base g i o : Nat} {p : ByteArray} (h : PrAt w base g p i o) : atOf w g = i := by
  unfold atOf; rw [h.cell (j := 1) rfl]; simp [intOf]

set_option maxHeartbeats 8000000 in
theorem class_core {base g i o : Nat} {p : ByteArray} {w : World} (h : PrAt w base g p i o) (hp : p.size ≤ 200) (hi : i ≤ p.size) :
    Calls Try.prog 139 #[.pointer (some ⟨g, 0, none⟩)] w fun e w' => Chg (fun k => k = g) w w' ∧
      ((∃ (f : UInt8 → Bool) (k : Nat), classM (sb p) i = .inl (f, k) ∧ e = .returned (clsV f) ∧ PrAt w' base g p k o) ∨ (∃ (c : Int) (k : Nat), classM (sb p) i = .inr (c, k) ∧ e = Pf c k)) := by
  have hgl := h.lt.2
  have HP : Hid (PrAt w base g p i o) := h
  clear h
  go_enter Try.func139, Try.ntmps139
  go_wp2_with fail
  refine (pskip_core 94 HP.out hp).mono ?_
  rintro e w1 ⟨hC1, h1⟩
  obtain ⟨ng, j, rfl, hj, hP1, hM⟩ : ∃ (ng : Bool) (j : Nat), e = .returned (.bool ng) ∧ j ≤ p.size ∧ PrAt w1 base g p j o ∧ ClsEq (sb p) i ng j false (fun _ => false) := by
    rcases h1 with ⟨hx, rfl, hP⟩ | ⟨hx, rfl, hP⟩
    · refine ⟨true, i + 1, rfl, by have := (List.getElem?_eq_some_iff.1 hx).1; rw [sb_len] at this; omega, hP, ?_⟩
      unfold ClsEq classM; rw [if_pos hx]; rfl
    · refine ⟨false, i, rfl, hi, hP, ?_⟩
      unfold ClsEq classM; rw [if_neg hx]
      generalize clsM (sb p) i false (fun _ => false) = r
      cases r <;> rfl
  have HW1 : Hid (PrAt w1 base g p j o ∧ Chg (fun k => k = g) w w1 ∧ ClsEq (sb p) i ng j false (fun _ => false)) := ⟨hP1, hC1, hM⟩
  clear h1 hC1 hP1 hM HP
  go_upto_region 2 with fail
  apply wp_region_list
  refine wpList_moveS rfl _ rfl ?_
  refine wpList_build_cells rfl _ _ rfl (setA (fun _ => false)) (by simp; exact built_set) ?_
  simp only [Act.put, Act.eval, List.setIfInBounds_toArray, List.set_cons_succ, List.set_cons_zero]
  refine wpList_call_of rfl 141 #[.pointer (some ⟨g, 0, none⟩), .agg (setA (fun _ => false))] (by simp [execOp, go_sem, Act.eval, Try.func141]) ?_
  refine (item_core (fun _ => false) HW1.out.1 hp hj).mono ?_
  rintro e w2 ⟨hC2, (⟨a, b, k, hk, rfl, hP2⟩ | ⟨c, k, hk, rfl⟩)⟩
  case inr =>
    refine ⟨rfl, HW1.out.2.1.trans hC2, .inr ⟨c, k, ?_, rfl⟩⟩
    rw [HW1.out.2.2.eq, cls_first (by rw [sb_len]; exact hj), hk]
  obtain ⟨fs, hfs⟩ : ∃ fs, fs = wider (fun _ => false) a b := ⟨_, rfl⟩
  have hkp : k ≤ p.size := by have := (itemM_gt hk).2.1; rw [sb_len] at this; exact this
  have HW2 : Hid (PrAt w2 base g p k o ∧ Chg (fun k => k = g) w w2 ∧ ClsEq (sb p) i ng k true fs) := by
    refine ⟨hP2, HW1.out.2.1.trans hC2, ?_⟩
    unfold ClsEq
    rw [HW1.out.2.2.eq, cls_first (by rw [sb_len]; exact hj), hk, hfs]
  rw [← hfs]
  clear hC2 hk hP2 HW1 hfs
  simp only [Act.put, List.setIfInBounds_toArray, List.set_cons_succ, List.set_cons_zero]
  have hs2 := HW2.out.2.1.size
  have hzv := (zero_of_info info_set).1
  have hsz := setA_size fs
  have hsc := run_storeCells_new (P := Try.prog) w2 195 (Array.replicate 256 (.bool false)) (setA fs) (by rw [setA_size]; exact (zero_of_info info_set).2) (by rw [setA_size]; simp) (setA_one fs)
  obtain ⟨W3, hW3⟩ : ∃ W3, W3 = w2.alloc (.cells (setA fs) 195) := ⟨_, rfl⟩
  have HW3 : Hid (PrAt W3 base g p k o ∧ Chg (fun k => k = g) w W3 ∧ SetAt W3 w.heap.size w2.heap.size fs ∧ w.heap.size ≤ w2.heap.size) := by
    rw [hW3]
    have hb : Below w2.heap.size w2 (w2.alloc (.cells (setA fs) 195)) := (Below.refl _ _).alloc (Nat.le_refl _) _
    exact ⟨BoxAt.below HW2.out.1 hb, HW2.out.2.1.trans (Chg.of_below hb), BoxAt.ofHeap (heap_alloc_last w2 _) hs2 (setA_size fs), hs2⟩
  have HM : Hid (ClsEq (sb p) i ng k true fs) := HW2.out.2.2
  go_wp2_with fail
  rw [← hW3]
  obtain ⟨SB, hSB⟩ : ∃ SB, SB = w2.heap.size := ⟨_, rfl⟩
  rw [← hSB] at HW3
  rw [← hSB]
  have hsbl : w.heap.size ≤ SB := by omega
  clear hW3 hsc hzv hsz HW2 hSB hs2
  have hgsb : ¬ g = SB := by omega
  go_loopw [] (fun wr => ∃ (k : Nat) (f : UInt8 → Bool), k ≤ p.size ∧ PrAt wr base g p k o ∧ Chg (fun k => k = g) w wr ∧ SetAt wr w.heap.size SB f ∧ ClsEq (sb p) i ng k true f) (fun wr => p.size - atOf wr g)
  case atStart => exact ⟨k, fs, hkp, HW3.out.1, HW3.out.2.1, HW3.out.2.2.1, HM.out⟩
  case round =>
    clear HW3 HM
    obtain ⟨k, f, hk, h1, h2, h3, h4⟩ := hrel
    have HR : Hid (PrAt wr base g p k o ∧ Chg (fun k => k = g) w wr ∧ SetAt wr w.heap.size SB f ∧ ClsEq (sb p) i ng k true f) := ⟨h1, h2, h3, h4⟩
    have HA : Hid (atOf wr g = k) := atOf_pr h1
    clear h1 h2 h3 h4 hkp
    go_wp2_with fail
    refine (pskip_core 93 HR.out.1 hp).mono ?_
    rintro e w5 ⟨hC5, (⟨hx, rfl, hP5⟩ | ⟨hx, rfl, hP5⟩)⟩
    · -- the class ends
      have HF : Hid (PrAt w5 base g p (k + 1) o ∧ Chg (fun k => k = g) w w5 ∧ SetAt w5 w.heap.size SB f ∧ classM (sb p) i = .inl ((if ng = true then fun c => !f c else f), k + 1)) := by
        refine ⟨hP5, HR.out.2.1.trans hC5, BoxAt.chg HR.out.2.2.1 hC5 (by omega), ?_⟩
        rw [HR.out.2.2.2.eq, cls_shut hx]
      clear hC5 hx hP5 HR HA
      have hi2 : (Try.prog.info? 195).map (·.size) = some 256 := (zero_of_info info_set).2
      cases ng
      · have h0 := SetAt.heap HF.out.2.2.1
        go_upto_region 7 with fail
        apply wp_region_list
        refine wpList_load_row rfl 195 _ rfl SB rfl 195 (setA f) (0, 0) _ h0 Try.underlying195 rfl (by rw [setA_size]; exact hi2) ?_
        simp only [Act.put, Act.eval, List.setIfInBounds_toArray, List.set_cons_succ, List.set_cons_zero]
        refine wpList_build_cells rfl _ _ rfl (setA f) (by simp [Act.eval]; exact built_cls _ (setA_size f)) ?_
        simp only [Act.put, Act.eval, List.setIfInBounds_toArray, List.set_cons_succ, List.set_cons_zero]
        clear h0
        go_wp2_with fail
        go_ret
        exact ⟨HF.out.2.1, .inl ⟨f, k + 1, HF.out.2.2.2, rfl, HF.out.1⟩⟩
      · have h0 := SetAt.heap HF.out.2.2.1
        go_upto_region 6 with fail
        apply wp_region_list
        refine wpList_load_row rfl 195 _ rfl SB rfl 195 (setA f) (0, 0) _ h0 Try.underlying195 rfl (by rw [setA_size]; exact hi2) ?_
        simp only [Act.put, Act.eval, List.setIfInBounds_toArray, List.set_cons_succ, List.set_cons_zero]
        refine wpList_call_of rfl 137 #[.agg (setA f)] (by simp [execOp, go_sem, Act.eval, Try.func137]) ?_
        refine (opposite_core f w5).mono ?_
        rintro e w6 ⟨rfl, hb6⟩
        simp only [Act.put, Act.eval, List.setIfInBounds_toArray, List.set_cons_succ, List.set_cons_zero]
        have HF6 : Hid (PrAt w6 base g p (k + 1) o ∧ Chg (fun k => k = g) w w6 ∧ SetAt w6 w.heap.size SB f) := ⟨BoxAt.below HF.out.1 hb6, HF.out.2.1.trans (Chg.of_below hb6), BoxAt.below HF.out.2.2.1 hb6⟩
        have h6 := SetAt.heap HF6.out.2.2
        refine wpList_store_row rfl 195 _ _ rfl SB (setA (fun c => !f c)) rfl rfl 195 (setA f) h6 (by rw [setA_size]; exact hi2) (by rw [setA_size, setA_size]) (setA_one _) ?_
        have h7 := setRow_heap _ _ _ (setA (fun c => !f c)) _ _ h6
        obtain ⟨W7, hW7⟩ : ∃ W7, W7 = w6.setRow SB (setA (fun c => !f c)) := ⟨_, rfl⟩
        have HF7 : Hid (PrAt W7 base g p (k + 1) o ∧ Chg (fun k => k = g) w W7) := by
          have hc := chg_setRow w6 SB (setA (fun c => !f c))
          rw [hW7]
          exact ⟨BoxAt.chg HF6.out.1 hc (by omega), HF6.out.2.1.absorb hc (fun j q => .inr (by omega))⟩
        rw [← hW7] at h7 ⊢
        clear hW7 h6 h0 hb6
        apply wpList_nil
        go_upto_region 7 with fail
        apply wp_region_list
        refine wpList_load_row rfl 195 _ rfl SB rfl 195 (setA (fun c => !f c)) (0, 0) _ h7 Try.underlying195 rfl (by rw [setA_size]; exact hi2) ?_
        simp only [Act.put, Act.eval, List.setIfInBounds_toArray, List.set_cons_succ, List.set_cons_zero]
        refine wpList_build_cells rfl _ _ rfl (setA (fun c => !f c)) (by simp [Act.eval]; exact built_cls _ (setA_size _)) ?_
        simp only [Act.put, Act.eval, List.setIfInBounds_toArray, List.set_cons_succ, List.set_cons_zero]
        clear h7
        go_wp2_with fail
        go_ret
        exact ⟨HF7.out.2, .inl ⟨fun c => !f c, k + 1, HF.out.2.2.2, rfl, HF7.out.1⟩⟩
    · have HF : Hid (PrAt w5 base g p k o ∧ Chg (fun k => k = g) w w5 ∧ SetAt w5 w.heap.size SB f ∧ ¬ (sb p)[k]? = some 93) := ⟨hP5, HR.out.2.1.trans hC5, BoxAt.chg HR.out.2.2.1 hC5 (by omega), hx⟩
      have HM : Hid (ClsEq (sb p) i ng k true f) := HR.out.2.2.2
      clear hC5 hx hP5 HR
      have hi2 : (Try.prog.info? 195).map (·.size) = some 256 := (zero_of_info info_set).2
      have h0 := SetAt.heap HF.out.2.2.1
      go_upto_region 4 with fail
      apply wp_region_list
      refine wpList_moveS rfl _ rfl ?_
      refine wpList_load_row rfl 195 _ rfl SB rfl 195 (setA f) (0, 0) _ h0 Try.underlying195 rfl (by rw [setA_size]; exact hi2) ?_
      simp only [Act.put, Act.eval, List.setIfInBounds_toArray, List.set_cons_succ, List.set_cons_zero]
      refine wpList_call_of rfl 141 #[.pointer (some ⟨g, 0, none⟩), .agg (setA f)] (by simp [execOp, go_sem, Act.eval, Try.func141]) ?_
      refine (item_core f HF.out.1 hp hk).mono ?_
      rintro e w6 ⟨hC6, (⟨a, b, k6, hk6, rfl, hP6⟩ | ⟨c, k6, hk6, rfl⟩)⟩
      case inr =>
        refine ⟨rfl, HF.out.2.1.trans hC6, .inr ⟨c, k6, ?_, rfl⟩⟩
        rw [HM.out.eq, cls_more (by rw [sb_len]; exact hk) HF.out.2.2.2, hk6]
      have HF6 : Hid (PrAt w6 base g p k6 o ∧ Chg (fun k => k = g) w w6 ∧ SetAt w6 w.heap.size SB f) := ⟨hP6, HF.out.2.1.trans hC6, BoxAt.chg HF.out.2.2.1 hC6 (by omega)⟩
      have hgt := itemM_gt hk6
      rw [sb_len] at hgt
      have HM6 : Hid (ClsEq (sb p) i ng k6 true (wider f a b)) := by
        show ClsEq _ _ _ _ _ _
        unfold ClsEq
        rw [HM.out.eq, cls_more (by rw [sb_len]; exact hk) HF.out.2.2.2, hk6]
      clear hC6 hk6 hP6 h0 HM HF
      simp only [Act.put, Act.eval, List.setIfInBounds_toArray, List.set_cons_succ, List.set_cons_zero]
      have h6 := SetAt.heap HF6.out.2.2
      refine wpList_store_row rfl 195 _ _ rfl SB (setA (wider f a b)) rfl rfl 195 (setA f) h6 (by rw [setA_size]; exact hi2) (by rw [setA_size, setA_size]) (setA_one _) ?_
      have h7 := setRow_heap _ _ _ (setA (wider f a b)) _ _ h6
      obtain ⟨W7, hW7⟩ : ∃ W7, W7 = w6.setRow SB (setA (wider f a b)) := ⟨_, rfl⟩
      have HF7 : Hid (PrAt W7 base g p k6 o ∧ Chg (fun k => k = g) w W7 ∧ SetAt W7 w.heap.size SB (wider f a b)) := by
        have hc := chg_setRow w6 SB (setA (wider f a b))
        rw [← hW7] at h7
        refine ⟨?_, ?_, BoxAt.ofHeap h7 hsbl (setA_size _)⟩
        · rw [hW7]; exact BoxAt.chg HF6.out.1 hc (by omega)
        · rw [hW7]; exact HF6.out.2.1.absorb hc (fun j q => .inr (by omega))
      rw [← hW7]
      clear hW7 h6 h7
      apply wpList_nil
      go_wp2_with fail
      go_roundw
      case rel =>
        exact ⟨_, _, _, _, _, _, ⟨k6, wider f a b, hgt.2.1, HF7.out.1, HF7.out.2.1, HF7.out.2.2, HM6.out⟩, rfl⟩
      case measure => rw [HA.out, atOf_pr HF7.out.1]; omega
end Go.Proofs.Ythkmecppjhcidac
