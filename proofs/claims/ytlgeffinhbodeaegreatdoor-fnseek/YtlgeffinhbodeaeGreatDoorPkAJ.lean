import Derived.Deep.RegionHeld3
import Derived.Deep.RegionLaw
import Derived.Deep.AppendLies
import Derived.Test.YtlgeffinhbodeaeGreatDoorPkAI
import Derived.Test.YtlgeffinhbodeaeGreatDoorPkAH
import Derived.Test.YtlgeffinhbodeaeGreatDoorPkAG
import Derived.Test.YtlgeffinhbodeaeGreatDoorPkAA
import Derived.Test.YtlgeffinhbodeaeGreatDoorPkAF
import Derived.Test.YtlgeffinhbodeaeGreatDoorPkAB
/-
  impl.openFile.
-/
namespace Go.Proofs.YtlgeffinhbodeaeGreatDoor
open Go.ChangeShapes Go.WideShapes Go.ChangeAt Go.RowKit Go.Deep
set_option linter.unusedVariables false
set_option linter.unusedSimpArgs false
set_option maxRecDepth 100000

/-- A file's reader, as a value. -/
def fileR (v : Value) : Array Value := (tabA 256).push v
theorem fileR_size (v : Value) : (fileR v).size = 257 := by unfold fileR; rw [Array.size_push, tabA_size]
theorem fileR_one (v : Value) (hv : v.oneCell' = true) : (fileR v).all (·.oneCell') = true := by
  rw [Array.all_eq_true_iff_forall_mem]
  intro u hu
  unfold fileR at hu
  rcases Array.mem_push.1 hu with h | rfl
  · exact (Array.all_eq_true_iff_forall_mem.1 (tabA_one 256)) u h
  · exact hv
theorem fileR_tab (v : Value) (i : Nat) (hi : i < 256) : (fileR v)[i]? = some (.int .u32 ((tabE i).toNat : Int)) := by
  unfold fileR
  rw [Array.getElem?_push_lt (by rw [tabA_size]; exact hi), ← Array.getElem?_eq_getElem (by rw [tabA_size]; exact hi)]
  exact tabA_at 256 i hi hi
theorem fileR_last (v : Value) : (fileR v)[256]? = some v := by
  unfold fileR
  have := Array.getElem?_push_size (xs := tabA 256) (x := v)
  rw [tabA_size] at this
  exact this
theorem fileR_set (u v : Value) : (fileR u).setIfInBounds 256 v = fileR v := by
  apply Array.ext_getElem?
  intro i
  rcases Nat.lt_trichotomy i 256 with h | h | h
  · rw [Array.getElem?_setIfInBounds_ne (by omega), fileR_tab u i h, fileR_tab v i h]
  · subst h
    rw [fileR_last v, Array.getElem?_setIfInBounds_self, if_pos (by rw [fileR_size]; omega)]
  · rw [Array.getElem?_eq_none (by rw [Array.size_setIfInBounds, fileR_size]; omega), Array.getElem?_eq_none (by rw [fileR_size]; omega)]
theorem info_fr : (Tryz.prog.info? 106).map (fun i => (i.zero, i.size)) = some (some (.agg ((Array.replicate 256 (.int .u32 0)).push (.slice none 0 0))), 257) := by kernel_rfl
theorem hd_list : (⟨#[82, 85, 78, 49]⟩ : ByteArray).toList = [82, 85, 78, 49] := by kernel_rfl
theorem fixAt_drop (xs : List UInt8) (i : Nat) : fixAt (xs.drop i) 0 = fixAt xs i := by
  unfold fixAt
  simp only [List.getD_eq_getElem?_getD, Nat.zero_add, List.getElem?_drop, Nat.add_zero]
theorem fold_fill : ∀ (l : List Value) (k : Nat) (z : List Value), k + l.length ≤ z.length → (l.zipIdx k).foldl (fun (cs : Array Value) (p : Value × Nat) => cs.setIfInBounds (0 + p.2) p.1) z.toArray = (z.take k ++ l ++ z.drop (k + l.length)).toArray
  | [], k, z, h => by simp
  | x :: l, k, z, h => by
    simp only [List.zipIdx_cons, List.foldl_cons, Nat.zero_add, List.setIfInBounds_toArray]
    have h2 := fold_fill l (k + 1) (z.set k x) (by simp at h ⊢; omega)
    simp only [Nat.zero_add] at h2
    rw [h2]
    congr 1
    have hk : k < z.length := by simp at h; omega
    rw [List.take_add_one, List.take_set_of_le (Nat.le_refl _), List.getElem?_set_self hk]
    have h3 : (z.set k x).drop (k + 1 + l.length) = z.drop (k + (x :: l).length) := by
      rw [List.drop_set_of_lt (by omega)]
      congr 1
      simp; omega
    rw [h3]
    simp
theorem places_fr : (match Tryz.prog.underlying 106 with | some (.struct fs) => fs.toList.mapM (fun f => (Tryz.prog.info? f.type).map fun i => (f.offset, i.size)) | _ => none) = some [(0, 256), (256, 1)] := by kernel_rfl
theorem built_fr (c : Array Value) (hc : c.size = 256) : Tryz.prog.built 106 [(0, .agg c)] = some (c.push (.slice none 0 0)) := by
  have hp := places_fr
  cases hi : Tryz.prog.info? 106 with
  | none => have := info_fr; rw [hi] at this; cases this
  | some it =>
    have h1 := info_fr
    rw [hi] at h1
    simp only [Option.map_some, Option.some.injEq, Prod.mk.injEq] at h1
    cases hu : Tryz.prog.underlying 106 with
    | none => rw [hu] at hp; cases hp
    | some d =>
      rw [hu] at hp
      cases d <;> try (cases hp; done)
      case struct fs =>
        simp only [] at hp
        unfold Program.built
        rw [hi, hu]
        simp only []
        rw [h1.1, hp]
        simp only []
        show Instr.fill _ ((Array.replicate 256 (.int .u32 0)).push (.slice none 0 0)) [(0, .agg c)] = _
        unfold Instr.fill
        have hv : (Value.agg c).cells = c := rfl
        simp only [List.getElem?_toArray, List.getElem?_cons_zero, hv, hc]
        have hz : ((Array.replicate 256 (Value.int .u32 0)).push (.slice none 0 0)).size = 257 := by simp
        rw [if_neg (by simp [hz])]
        unfold Instr.fill
        congr 1
        have h3 := fold_fill c.toList 0 ((Array.replicate 256 (Value.int .u32 0)).push (.slice none 0 0)).toList (by simp [hc])
        rw [← Array.foldl_toList, Array.toList_zipIdx]
        have h4 : ((Array.replicate 256 (Value.int .u32 0)).push (.slice none 0 0)).toList.toArray = (Array.replicate 256 (Value.int .u32 0)).push (.slice none 0 0) := Array.toArray_toList
        rw [h4] at h3
        refine Eq.trans h3 ?_
        have h5 : ((Array.replicate 256 (Value.int .u32 0)).push (.slice none 0 0)).toList.drop (0 + c.toList.length) = [.slice none 0 0] := by
          simp [hc]
        rw [h5]
        apply Array.ext'
        simp
theorem wpList_enter {ops : Array Oper} {rest : List Oper} {o : Oper} {a : Act} {w : World} {Q : Exit → Act → World → Prop} (hgd : o.guard = none) (F : FuncId) (vals : Array Value) (hrun : (execOp a.eval o).run Tryz.prog w = .ok (.enter F vals) w)
    (h : Calls Tryz.prog F vals w fun e w' => match e with | .returned v => wpList Tryz.prog ops Q rest (a.put o.dst v) w' | .panicked chain => Q (.panic chain) a w' | .outgrown => False) : wpList Tryz.prog ops Q (o :: rest) a w := by
  refine wpList_plain hgd fun K hK => ?_
  unfold Oper.wp
  rw [hrun, Oper.upon_enter]
  refine h.mono ?_
  intro e w' he
  cases e with
  | returned v => exact hK _ _ he
  | panicked chain => exact he
  | outgrown => exact he.elim
theorem wpList_build_of {ops : Array Oper} {rest : List Oper} {o : Oper} {a : Act} {w : World} {Q : Exit → Act → World → Prop} (hg : o.guard = none) (t : TypeId) (parts : Array (Nat × Operand)) (ho : o.op = .build t parts) (cells : Array Value)
    (hb : Tryz.prog.built t (parts.map fun (i, x) => (i, a.eval x)).toList = some cells) (h : wpList Tryz.prog ops Q rest (a.put o.dst (.agg cells)) w) : wpList Tryz.prog ops Q (o :: rest) a w := by
  refine wpList_build hg t parts ho (by rw [hb]; rfl) ?_
  rw [hb]
  exact h
def OpP (f : FileAt) (w : World) (r : Int × List Blk) (e : Ending) (w' : World) : Prop :=
  Below w.heap.size w w' ∧ ((r.1 = 0 ∧ ∃ g cp, e = .returned (.agg (fileR (.slice (some ⟨g, 0, none⟩) r.2.length cp))) ∧ OwnF f w' w.heap.size g cp r.2) ∨ (r.1 ≠ 0 ∧ e = Corr r.1))

set_option maxHeartbeats 8000000 in
theorem openFile_core (f : FileAt) (w : World) (hE : BysAt w f.b f.off f.xs) (hb : f.b < w.heap.size) (hl : f.xs.length ≤ 2 ^ 29) (hcap : f.xs.length ≤ f.cap) (hcm : f.cap ≤ maxLen) :
    Calls Tryz.prog 55 #[.slice (some ⟨f.b, f.off, none⟩) f.xs.length f.cap] w fun e w' => OpP f w (idxM f.xs) e w' := by
  obtain ⟨R, hR⟩ : ∃ R, R = idxM f.xs := ⟨_, rfl⟩
  rw [← hR]
  have HRR : Hid (R = idxM f.xs) := hR
  have HN : Hid (f.b < w.heap.size ∧ f.xs.length ≤ 2 ^ 29 ∧ f.xs.length ≤ f.cap ∧ f.cap ≤ maxLen) := ⟨hb, hl, hcap, hcm⟩
  obtain ⟨n, hn⟩ : ∃ n, n = f.xs.length := ⟨_, rfl⟩
  have HNn : Hid (n = f.xs.length) := hn
  have hzv := (zero_of_info info_fr).1
  obtain ⟨W, hW⟩ : ∃ W : World, W = w.alloc (Obj.cells ((Array.replicate 256 (.int .u32 0)).push (.slice none 0 0)) 106) := ⟨_, rfl⟩
  have HW : Hid (Below w.heap.size w W ∧ W.heap[w.heap.size]? = some (.cells ((Array.replicate 256 (.int .u32 0)).push (.slice none 0 0)) 106 (0, 0))) := by
    rw [hW]; exact ⟨(Below.refl _ _).alloc (Nat.le_refl _) _, heap_alloc_last w _⟩
  have HX : Hid (BysAt W f.b f.off f.xs) := hE.below HW.out.1 hb
  rw [← hn]
  have hl2 : n ≤ 536870912 := by omega
  have hc2 : n ≤ f.cap := by omega
  clear hE hb hl hcap hcm hR hn
  go_enter Tryz.func55, Tryz.ntmps55
  go_upto_region 1 with fail
  rw [← hW]
  clear hW hzv
  by_cases h13 : 13 ≤ n
  case neg =>
    have HR2 : Hid (R = (1, [])) := by
      show R = _
      rw [HRR.out]; unfold idxM; rw [if_pos (.inl (by rw [← HNn.out]; omega))]
    have z1 : ¬ (13 : Int) ≤ (n : Int) := by omega
    go_wp2_with fail
    refine (demand_core _ _ _).mono ?_
    rintro e w7 ⟨rfl, (⟨hc, rfl⟩ | ⟨hc, rfl⟩)⟩
    · exfalso
      simp at hc <;> omega
    · exact ⟨rfl, HW.out.1, .inr ⟨by rw [HR2.out]; simp, by rw [HR2.out]⟩⟩
  have z1 : (13 : Int) ≤ (n : Int) := by omega
  have z4 : (4 : Int) ≤ (f.cap : Int) := by omega
  have hcv := Lib.run_convert_window (P := Tryz.prog) W 22 5 9 Tryz.underlying22 Tryz.underlying5 Tryz.underlying9 f.b f.off ⟨f.xs.toArray⟩ (bytes_of_bys HX.out) 0 4 f.cap (by show 0 + 4 ≤ f.xs.toArray.size; simp; have := HNn.out; omega)
  obtain ⟨hs, hhs⟩ : ∃ hs : ByteArray, hs = (⟨f.xs.toArray⟩ : ByteArray).extract 0 (0 + 4) := ⟨_, rfl⟩
  have HHs : Hid (bl hs = f.xs.take 4) := by
    show bl hs = _
    rw [hhs]
    show ((⟨f.xs.toArray⟩ : ByteArray).extract 0 (0 + 4)).data.toList = _
    rw [Lib.extract_data]
    rfl
  rw [← hhs, Nat.add_zero] at hcv
  clear hhs
  go_wp2_with fail
  refine (demand_core _ _ _).mono ?_
  rintro e w7 ⟨hw7, (⟨hc, rfl⟩ | ⟨hc, rfl⟩)⟩
  case inr =>
    have hq : f.xs.take 4 ≠ headB := by
      intro q
      rw [← HHs.out] at q
      have h1 : hs = ⟨#[82, 85, 78, 49]⟩ := bytes_inj q
      rw [h1, hd_list] at hc
      exact absurd hc (by decide)
    have HR2 : Hid (R = (1, [])) := by
      show R = _
      rw [HRR.out]; unfold idxM; rw [if_pos (.inr hq)]
    rw [hw7]
    exact ⟨rfl, HW.out.1, .inr ⟨by rw [HR2.out]; simp, by rw [HR2.out]⟩⟩
  have HH : Hid (¬ (f.xs.length < 13 ∨ f.xs.take 4 ≠ headB)) := by
    rintro (q | q)
    · rw [← HNn.out] at q; omega
    · apply q
      have h1 : hs.toList = (⟨#[82, 85, 78, 49]⟩ : ByteArray).toList := by rw [hd_list]; simpa using hc
      rw [← HHs.out, toList_inj h1]
      rfl
  rw [hw7]
  clear hc hw7 hcv HHs z4
  -- where the index begins
  obtain ⟨m, hm⟩ : ∃ m, m = fixAt f.xs (n - 4) := ⟨_, rfl⟩
  have hm32 : m < 4294967296 := by rw [hm]; exact fixAt_lt _ _
  have HM : Hid (m = fixAt f.xs (n - 4)) := hm
  have HFx : Hid (∀ w', Below W.heap.size W w' → Calls Tryz.prog 107 #[.slice (some ⟨f.b, f.off + (n - 4), none⟩) (n - (n - 4)) (f.cap - (n - 4))] w' fun e w'' => e = .returned (.int .u32 (m : Int)) ∧ Below w'.heap.size w' w'') := fun w' hb' => by
    have hlt : f.b < W.heap.size := by have := HN.out.1; have := HW.out.1.size; omega
    have h1 := fixedOf_core f.b (f.off + (n - 4)) (f.cap - (n - 4)) (f.xs.drop (n - 4)) w' ((HX.out.below hb' hlt).drop (n - 4)) (by rw [List.length_drop, ← HNn.out]; omega) (by rw [List.length_drop, ← HNn.out]; omega)
    have h2 : (f.xs.drop (n - 4)).length = n - (n - 4) := by rw [List.length_drop, ← HNn.out]
    rw [h2, fixAt_drop, ← HM.out] at h1
    exact h1
  clear hm
  go_wp2_with fail
  refine (HFx.out W (Below.refl _ _)).mono ?_
  rintro e w1 ⟨rfl, hb1⟩
  have HB1 : Hid (Below W.heap.size W w1) := hb1
  clear hb1 HFx
  go_wp2_with fail
  refine (demand_core _ _ _).mono ?_
  rintro e w7 ⟨hw7, (⟨hc, rfl⟩ | ⟨hc, rfl⟩)⟩
  case inr =>
    have hlt : f.xs.length < fixAt f.xs (f.xs.length - 4) + 12 := by
      rw [← HNn.out, ← HM.out]
      have := of_decide_eq_false hc
      omega
    have HR2 : Hid (R = (1, [])) := by
      show R = _
      rw [HRR.out]; unfold idxM; rw [if_neg HH.out, if_pos hlt]
    rw [hw7]
    exact ⟨rfl, HW.out.1.trans (HB1.out.mono HW.out.1.size), .inr ⟨by rw [HR2.out]; simp, by rw [HR2.out]⟩⟩
  have h12 : m + 12 ≤ n := by have := of_decide_eq_true hc; omega
  rw [hw7]
  clear hc hw7
  obtain ⟨lim, hlim⟩ : ∃ lim, lim = n - 8 - m := ⟨_, rfl⟩
  obtain ⟨sm, hsm⟩ : ∃ sm, sm = n - 8 := ⟨_, rfl⟩
  have e1 : (n : Int) - 8 - (m : Int) = (lim : Int) := by omega
  have e2 : (n : Int) - 8 = (sm : Int) := by omega
  rw [e1, e2]
  have HL : Hid (lim = n - 8 - m ∧ sm = n - 8) := ⟨hlim, hsm⟩
  have hA : 4 ≤ lim ∧ lim + m = sm ∧ sm + 8 = n := by omega
  have HA : Hid (4 ≤ lim ∧ lim + m = sm ∧ sm + 8 = n) := hA
  clear hlim hsm e1 e2
  have hk1 : lim ≤ sm := by omega
  have hk2 : sm ≤ f.cap := by omega
  clear hA h12
  go_upto_region 5 with fail
  apply wp_region_list
  refine wpList_enter rfl 42 #[] (by simp [execOp, go_sem, Tryz.func42]) ?_
  refine (makeTable_core _).mono ?_
  rintro e w2 ⟨rfl, hb2⟩
  simp only [Act.put, List.setIfInBounds_toArray, List.set_cons_succ, List.set_cons_zero]
  refine wpList_build_of rfl _ _ rfl (fileR (.slice none 0 0)) (by simp [Act.eval]; exact built_fr _ (tabA_size 256)) ?_
  simp only [Act.put, List.setIfInBounds_toArray, List.set_cons_succ, List.set_cons_zero]
  have hzv := (zero_of_info info_fr).1
  have hsz := fileR_size (.slice none 0 0)
  have hsc := run_storeCells_new (P := Tryz.prog) w2 106 ((Array.replicate 256 (.int .u32 0)).push (.slice none 0 0)) (fileR (.slice none 0 0)) (by rw [fileR_size]; exact (zero_of_info info_fr).2) (by rw [fileR_size]; simp) (fileR_one _ rfl)
  have hk3 : ¬ f.cap = lim := by have := HA.out; omega
  have hk4 : lim ≤ f.cap := by omega
  go_wp2_with fail
  have hb3 : Below w.heap.size w (w2.alloc (.cells (fileR (.slice none 0 0)) 106)) := by
    have h1 := (HW.out.1.trans (HB1.out.mono HW.out.1.size)).trans (hb2.mono (Nat.le_trans HW.out.1.size HB1.out.size))
    exact h1.alloc h1.size _
  obtain ⟨W3, hW3⟩ : ∃ W3 : World, W3 = w2.alloc (.cells (fileR (.slice none 0 0)) 106) := ⟨_, rfl⟩
  have HW3 : Hid (Below w.heap.size w W3 ∧ W3.heap[w2.heap.size]? = some (.cells (fileR (.slice none 0 0)) 106 (0, 0)) ∧ Below W.heap.size W W3 ∧ w.heap.size < w2.heap.size ∧ W3.heap[w.heap.size]? = some (.cells ((Array.replicate 256 (.int .u32 0)).push (.slice none 0 0)) 106 (0, 0))) := by
    rw [hW3]
    have hs1 := HB1.out.size
    have hs2 := hb2.size
    have hs0 := HW.out.2
    have hs9 : w.heap.size < W.heap.size := (Array.getElem?_eq_some_iff.1 hs0).1
    have hbb : Below W.heap.size W (w2.alloc (.cells (fileR (.slice none 0 0)) 106)) := (HB1.out.trans (hb2.mono hs1)).alloc (by omega) _
    exact ⟨hb3, heap_alloc_last w2 _, hbb, by omega, (hbb.block _ hs9).trans hs0⟩
  rw [← hW3]
  clear hzv hsz hsc hb3 hW3 hb2
  have HT : Hid (TabAt W3 w2.heap.size 0) := by
    intro i hi
    rw [Nat.zero_add, cell_of_row _ _ i _ _ _ HW3.out.2.1]
    exact fileR_tab _ i hi
  obtain ⟨cx, hcx⟩ : ∃ cx, cx = (crc (span f.xs lim sm)).toNat := ⟨_, rfl⟩
  obtain ⟨fx, hfx⟩ : ∃ fx, fx = fixAt f.xs sm := ⟨_, rfl⟩
  have HCrc : Hid (∀ u : Out W3, Calls Tryz.prog 46 #[.pointer (some ⟨w2.heap.size, 0, none⟩), .slice (some ⟨f.b, f.off + lim, none⟩) (sm - lim) (f.cap - lim)] u.u fun e w' => e = .returned (.int .u32 (cx : Int)) ∧ Below u.u.heap.size u.u w') := fun u => by
    have hN := HN.out
    have hA := HA.out
    have hz := HW3.out.1.size
    have hlt := (Array.getElem?_eq_some_iff.1 HW3.out.2.1).1
    have hl := span_len (xs := f.xs) (p := lim) (lim := sm) (by rw [← HNn.out]; omega)
    have h1 := tableOf_core w2.heap.size 0 f.b (f.off + lim) (f.cap - lim) (span f.xs lim sm) u.u (HT.out.below u.out hlt) ((((HX.out.below HW3.out.2.2.1 (by have := HW.out.1.size; omega)).below u.out (by omega)).drop lim).take (sm - lim)) (by rw [hl]; unfold maxLen; omega)
    rw [hl, ← hcx] at h1
    exact h1.mono fun e w' ⟨he, hw⟩ => ⟨he, hw ▸ Below.refl _ _⟩
  have HFix : Hid (∀ u : Out W3, Calls Tryz.prog 107 #[.slice (some ⟨f.b, f.off + sm, none⟩) (n - sm) (f.cap - sm)] u.u fun e w' => e = .returned (.int .u32 (fx : Int)) ∧ Below u.u.heap.size u.u w') := fun u => by
    have hN := HN.out
    have hA := HA.out
    have hz := HW3.out.1.size
    have h2 : (f.xs.drop sm).length = n - sm := by rw [List.length_drop, ← HNn.out]
    have h1 := fixedOf_core f.b (f.off + sm) (f.cap - sm) (f.xs.drop sm) u.u (((HX.out.below HW3.out.2.2.1 (by have := HW.out.1.size; omega)).below u.out (by omega)).drop sm) (by rw [h2]; omega) (by rw [h2]; omega)
    rw [h2, fixAt_drop, ← hfx] at h1
    exact h1
  have HCx : Hid (R = if cx ≠ fx then (2, []) else idxBody f.xs.length lim ((f.xs.drop lim).take m)) := by
    have hA := HA.out
    have h12 : ¬ f.xs.length < fixAt f.xs (f.xs.length - 4) + 12 := by rw [← HNn.out, ← HM.out]; omega
    have el : f.xs.length - 8 - fixAt f.xs (f.xs.length - 4) = lim := by rw [← HNn.out, ← HM.out, HL.out.1]
    have es : f.xs.length - 8 = sm := by rw [← HNn.out, HL.out.2]
    have em : fixAt f.xs (f.xs.length - 4) = m := by rw [← HNn.out, ← HM.out]
    have ep : (f.xs.drop lim).take m = span f.xs lim sm := by unfold span; congr 1; omega
    show R = _
    rw [HRR.out]; unfold idxM; rw [if_neg HH.out, if_neg h12, em, show f.xs.length - 8 - m = lim by rw [← em, el], es, ep, hcx, hfx]
  clear hcx hfx
  have zsm : (sm : Int) ≤ (n : Int) := by have := HA.out; omega
  have hk5 : ¬ f.cap = sm := by have := HA.out; omega
  by_cases hce : cx = fx
  case neg =>
    have HR2 : Hid (R = (2, [])) := by
      show R = _
      rw [HCx.out, if_pos hce]
    have z9 : ¬ (cx : Int) = (fx : Int) := by omega
    refine wp_region_demand 46 45 (.const (.int .i64 2)) 2 [(45, .bool false)] rfl (fun m => by kernel_rfl) (by kernel_rfl) (fun a' h => ⟨h (45, _) (by simp), rfl⟩) ?q ?_
    case q => exact fun a' w' hb hd => ⟨hd, HW3.out.1.trans (hb.mono HW3.out.1.size), .inr ⟨by rw [HR2.out]; simp, by rw [HR2.out]⟩⟩
    intro m
    dsimp only [List.dropLast, fk, List.cons_append, List.nil_append]
    repeat (go_big_quiet_step ((first | rfl | (go_at_call 46; exact Calls.out_of (HCrc.out _)) | (go_at_call 107; exact Calls.out_of (HFix.out _)))))
    refine wpQuiet_nil ?_
    exact ⟨rfl, slots1 (congrArg Value.bool (beq_eq_false_iff_ne.2 z9))⟩
  subst hce
  have HI0 : Hid (R = idxBody f.xs.length lim ((f.xs.drop lim).take m)) := by
    show R = _
    rw [HCx.out, if_neg (fun q => q rfl)]
  refine wp_region_out (by kernel_rfl) (by kernel_rfl) ?_
  repeat (go_big_quiet_step ((first | rfl | (go_at_call 46; exact Calls.out_of (HCrc.out _)) | (go_at_call 107; exact Calls.out_of (HFix.out _)) | (go_at_call 106; exact Calls.out_of ((demand_yes _ _).mono fun e w' ⟨he, hw⟩ => ⟨he, hw ▸ Below.refl _ _⟩)))))
  refine wpQuiet_nil ?_
  rintro w4 ⟨⟨wx, hb4⟩, rfl⟩
  have hg2 := (Array.getElem?_eq_some_iff.1 HW3.out.2.1).1
  have HW4 : Hid (Below w.heap.size w w4 ∧ w4.heap[w2.heap.size]? = some (.cells (fileR (.slice none 0 0)) 106 (0, 0)) ∧ w4.heap[w.heap.size]? = some (.cells ((Array.replicate 256 (.int .u32 0)).push (.slice none 0 0)) 106 (0, 0)) ∧ BysAt w4 f.b f.off f.xs) := by
    have hN := HN.out.1
    have hz := HW3.out.1.size
    refine ⟨HW3.out.1.trans (hb4.mono HW3.out.1.size), (hb4.block _ hg2).trans HW3.out.2.1, (hb4.block _ (by have := HW3.out.2.2.2.1; omega)).trans HW3.out.2.2.2.2, (HX.out.below HW3.out.2.2.1 (by have := HW.out.1.size; omega)).below hb4 (by omega)⟩
  have HNe : Hid (w.heap.size < w2.heap.size) := HW3.out.2.2.2.1
  clear hb4 hg2 HCrc HFix HT HCx HW3 HX HW HB1
  go_upto_region 8 with fail
  have hrb := readBlocks_core f lim m (f.cap - lim) w4 HW4.out.2.2.2 (by have := HN.out.1; have := HW4.out.1.size; omega) HN.out.2.1 HA.out.1 (by rw [← HNn.out]; have := HA.out; omega) HN.out.2.2.1 HN.out.2.2.2 rfl
  rw [← HI0.out] at hrb
  have hm2 : sm - lim = m := by have := HA.out; omega
  rw [← hm2] at hrb
  have HRb : Hid (Calls Tryz.prog 108 #[.slice (some ⟨f.b, f.off + lim, none⟩) (sm - lim) (f.cap - lim), .slice (some ⟨f.b, f.off + 4, none⟩) (lim - 4) (f.cap - 4)] w4 fun e w' => RbP f w4 R e w') := hrb
  have z4a : (4 : Int) ≤ (lim : Int) := by have := HA.out; omega
  have z4b : ¬ f.cap = 4 := by have := HA.out; omega
  clear hrb hm2
  go_wp2_with fail
  refine HRb.out.mono ?_
  rintro e w5 ⟨hb5, (⟨hR0, g, cp, rfl, hO5⟩ | ⟨hR0, rfl⟩)⟩
  case inr => exact ⟨rfl, HW4.out.1.trans (hb5.mono HW4.out.1.size), .inr ⟨hR0, rfl⟩⟩
  have hgz := (Array.getElem?_eq_some_iff.1 HW4.out.2.1).1
  have hgw := (Array.getElem?_eq_some_iff.1 HW4.out.2.2.1).1
  have HW5 : Hid (Below w.heap.size w w5 ∧ w5.heap[w2.heap.size]? = some (.cells (fileR (.slice none 0 0)) 106 (0, 0)) ∧ w5.heap[w.heap.size]? = some (.cells ((Array.replicate 256 (.int .u32 0)).push (.slice none 0 0)) 106 (0, 0)) ∧ OwnF f w5 w.heap.size g cp R.2 ∧ R.1 = 0 ∧ w2.heap.size < g) := by
    have hg := hO5.lt
    exact ⟨HW4.out.1.trans (hb5.mono HW4.out.1.size), (hb5.block _ hgz).trans HW4.out.2.1, (hb5.block _ hgw).trans HW4.out.2.2.1, hO5.mono HW4.out.1.size, hR0, by omega⟩
  have c0 : w5.cell? ⟨w2.heap.size, 256, none⟩ = some (.slice none 0 0) := by
    rw [cell_of_row _ _ 256 _ _ _ HW5.out.2.1]; exact fileR_last _
  have f0 : w5.frozen? ⟨w2.heap.size, 256, none⟩ = false := by
    simp [World.frozen?, HW5.out.2.1]
  clear hb5 hO5 hR0 hgz hgw HRb HW4
  obtain ⟨sv, hsv⟩ : ∃ sv : Value, sv = .slice (some ⟨g, 0, none⟩) R.2.length cp := ⟨_, rfl⟩
  obtain ⟨W6, hW6⟩ : ∃ W6 : World, W6 = w5.setCell ⟨w2.heap.size, 256, none⟩ (.slice (some ⟨g, 0, none⟩) R.2.length cp) := ⟨_, rfl⟩
  have hne : w.heap.size ≠ w2.heap.size := by have := HNe.out; omega
  have hw6 : W6.heap[w2.heap.size]? = some (.cells (fileR sv) 106 (0, 0)) := by
    rw [hW6, heap_setCell_same _ _ _ _ _ _ HW5.out.2.1, hsv]
    rw [fileR_set]
  have hw6r : W6.heap[w.heap.size]? = some (.cells ((Array.replicate 256 (.int .u32 0)).push (.slice none 0 0)) 106 (0, 0)) := by
    rw [hW6, heap_setCell_other _ _ _ _ hne]; exact HW5.out.2.2.1
  have hb6 : Below w.heap.size w W6 := by rw [hW6]; exact HW5.out.1.setCell (p := ⟨w2.heap.size, 256, none⟩) (Nat.le_of_lt HNe.out) _
  have hO6 : OwnF f W6 w.heap.size g cp R.2 := by
    rw [hW6]
    exact HW5.out.2.2.2.1.chg (Chg.of_set w5 w2.heap.size 256 _ (S := fun k => k = w2.heap.size) rfl) (by have := HW5.out.2.2.2.2.2; omega)
  have hi : (Tryz.prog.info? 106).map (·.size) = some 257 := (zero_of_info info_fr).2
  have hon : (fileR sv).all (·.oneCell') = true := fileR_one _ (by rw [hsv]; rfl)
  have HR0 : Hid (R.1 = 0) := HW5.out.2.2.2.2.1
  have HGg : Hid (w.heap.size < g) := Nat.lt_trans HNe.out HW5.out.2.2.2.2.2
  go_upto_region 9 with fail
  rw [← hW6]
  clear hW6 c0 f0 HW5
  apply wp_region_list
  refine wpList_load_row rfl 106 _ rfl w2.heap.size rfl 106 (fileR sv) (0, 0) _ hw6 Tryz.underlying106 rfl (by rw [fileR_size]; exact hi) ?_
  refine wpList_store_row rfl 106 _ _ rfl w.heap.size (fileR sv) rfl rfl 106 ((Array.replicate 256 (.int .u32 0)).push (.slice none 0 0)) hw6r (by rw [fileR_size]; exact hi) (by rw [fileR_size]; simp) hon ?_
  have hr := setRow_heap _ _ _ (fileR sv) _ _ hw6r
  have hb7 := Below.setRow hb6 (Nat.le_refl _) (fileR sv)
  have hO7 : OwnF f (W6.setRow w.heap.size (fileR sv)) w.heap.size g cp R.2 := by
    have hgn : ¬ g = w.heap.size := by have := HGg.out; omega
    exact hO6.chg (S := fun k => k = w.heap.size) ⟨rfl, rfl, rfl, by simp, fun k hk hn => setRow_other _ _ _ _ hn⟩ hgn
  obtain ⟨W7, hW7⟩ : ∃ W7, W7 = W6.setRow w.heap.size (fileR sv) := ⟨_, rfl⟩
  rw [← hW7] at hb7 hO7 hr ⊢
  clear hW7 hw6 hw6r hb6 hO6
  apply wpList_nil
  go_wp2_with fail
  refine bodyPost_ret (v := .agg (fileR sv)) (results_cell_row rfl _ _ w.heap.size _ _ _ _ rfl hr Tryz.underlying106 rfl (by rw [fileR_size]; exact hi)) rfl ⟨hb7, .inl ⟨HR0.out, g, cp, by rw [hsv], hO7⟩⟩
end Go.Proofs.YtlgeffinhbodeaeGreatDoor

/-
  Parts of impl.SeekRun: its deferred closure, firstFor, slices.IndexFunc with its test.
-/
namespace Go.Proofs.YtlgeffinhbodeaeGreatDoor
open Go.ChangeShapes Go.WideShapes Go.ChangeAt Go.RowKit Go.Deep
set_option linter.unusedVariables false
set_option linter.unusedSimpArgs false
set_option maxRecDepth 100000

/-- The cells of an answer that has found nothing. -/
abbrev sk0 (c : Int) (n : Nat) : List Value := [.int .i64 c, .bool false, .string ⟨#[]⟩, .string ⟨#[]⟩, .string ⟨#[]⟩, .int .u64 0, .int .i64 0, .string ⟨#[]⟩, .int .i64 (n : Int)]
set_option maxHeartbeats 4000000 in
theorem sek_catch (base rb : Nat) (c : Int) (n : Nat) (older : List PanicEntry) (w : World) (hg : HandleAt w) (hc : ¬ c = 0) (hbox : BoxAt w base 47 9 rb (sk0 0 n)) :
    CallsD Tryz.prog 53 #[.pointer (some ⟨rb, 0, none⟩)] (.panicking ({ v := corrV c, recovered := false } :: older)) w fun e u' w' =>
      e = .returned (.tuple #[]) ∧ u' = .panicking ({ v := corrV c, recovered := true } :: older) ∧ ∃ w1, Below w.heap.size w w1 ∧ w' = set9 w1 rb (.int .i64 c) (.bool false) (.string ⟨#[]⟩) (.string ⟨#[]⟩) (.string ⟨#[]⟩) (.int .u64 0) (.int .i64 0) (.string ⟨#[]⟩) (.int .i64 (n : Int)) := by
  refine callsD_of_wpS Tryz.func53 rfl fun c₀ cs hu => ?_
  apply wpS_seq
  apply wpS_region
  simp [wpOpsS, go_sem, recoverD, hu, Tryz.ntmps53, Exit.thenS]
  refine (faultCode_corr c w hg).mono ?_
  rintro e w1 ⟨rfl, hb1⟩
  have ht : #[Value.pointer (some ⟨rb, 0, none⟩)] ++ (((Array.replicate 9 undef).setIfInBounds 1 (corrV c)).setIfInBounds 2 (.int .i64 c)).setIfInBounds 0 (.int .i64 c) = #[.pointer (some ⟨rb, 0, none⟩), .int .i64 c, corrV c, .int .i64 c, undef, undef, undef, undef, undef, undef] := by rfl
  simp only []
  rw [ht]
  have hbx := hbox.below hb1
  have d0 := hbx.cell (j := 0) rfl
  have d1 := hbx.cell (j := 1) rfl
  have d2 := hbx.cell (j := 2) rfl
  have d3 := hbx.cell (j := 3) rfl
  have d4 := hbx.cell (j := 4) rfl
  have d5 := hbx.cell (j := 5) rfl
  have d6 := hbx.cell (j := 6) rfl
  have d7 := hbx.cell (j := 7) rfl
  have d8 := hbx.cell (j := 8) rfl
  have g0 := hbx.frozen 0
  have g1 := hbx.frozen 1
  have g2 := hbx.frozen 2
  have g3 := hbx.frozen 3
  have g4 := hbx.frozen 4
  have g5 := hbx.frozen 5
  have g6 := hbx.frozen 6
  have g7 := hbx.frozen 7
  have g8 := hbx.frozen 8
  have HB : Hid (Below w.heap.size w w1) := hb1
  clear ht hbox hbx hb1 hg
  refine wpS_of_wp ?_
  go_wp2_with fail
  exact ⟨rfl, _, rfl, _, by simp [results, Tryz.results53], rfl, rfl, w1, HB.out, rfl⟩

set_option maxHeartbeats 2000000 in
theorem sek_idle (rb : Nat) (w : World) :
    CallsD Tryz.prog 53 #[.pointer (some ⟨rb, 0, none⟩)] .returning w fun e u' w' => e = .returned (.tuple #[]) ∧ u' = .returning ∧ w' = w := by
  refine callsD_of_wpS Tryz.func53 rfl fun c₀ cs hu => ?_
  apply wpS_seq
  apply wpS_region
  simp [wpOpsS, go_sem, recoverD, hu, Tryz.ntmps53, Exit.thenS]
  refine (faultCode_nil w).mono ?_
  rintro e w1 ⟨rfl, rfl⟩
  have ht : #[Value.pointer (some ⟨rb, 0, none⟩)] ++ (((Array.replicate 9 undef).setIfInBounds 1 .nilIface).setIfInBounds 2 (.int .i64 0)).setIfInBounds 0 (.int .i64 0) = #[.pointer (some ⟨rb, 0, none⟩), .int .i64 0, .nilIface, .int .i64 0, undef, undef, undef, undef, undef, undef] := by rfl
  simp only []
  rw [ht]
  clear ht
  refine wpS_of_wp ?_
  go_wp2_with fail
  refine ⟨rfl, .returning, ?_, _, by simp [results, Tryz.results53], rfl, rfl, rfl⟩
  cases c₀
  simp_all

/-- What SeekRun hands back. -/
def SekPost (w : World) (xs : List UInt8) (row : ByteArray) (e : Ending) (w' : World) : Prop := e = .returned (seekM xs row).v ∧ Below w.heap.size w w'
theorem sek_res {base rb : Nat} {wq : World} {a : Act} {s : Sk} (ht : a.tmps.getD 4 undef = .pointer (some ⟨rb, 0, none⟩)) (hb : BoxAt wq base 47 9 rb s.cells) : (results Tryz.f19 a.tmps).run Tryz.prog wq = .ok s.v wq := by
  have p0 := hb.cell (j := 0) rfl
  have p1 := hb.cell (j := 1) rfl
  have p2 := hb.cell (j := 2) rfl
  have p3 := hb.cell (j := 3) rfl
  have p4 := hb.cell (j := 4) rfl
  have p5 := hb.cell (j := 5) rfl
  have p6 := hb.cell (j := 6) rfl
  have p7 := hb.cell (j := 7) rfl
  have p8 := hb.cell (j := 8) rfl
  have ht2 : a.tmps[4]?.getD undef = .pointer (some ⟨rb, 0, none⟩) := by rw [← Array.getD_eq_getD_getElem?]; exact ht
  simp [results, Tryz.results19, go_sem, ht2, p0, p1, p2, p3, p4, p5, p6, p7, p8]
/-- Every panic of SeekRun ends in its code. -/
theorem sek_dies (xs : List UInt8) (row : ByteArray) (w wq : World) (a : Act) (c : Int) (n rb : Nat) (hr : w.heap.size ≤ rb) (hd : a.defers = [{ target := Target.fn (Fn.func 53) #[.pointer (some ⟨rb, 0, none⟩)], args := #[] }]) (ht : a.tmps.getD 4 undef = .pointer (some ⟨rb, 0, none⟩))
    (hM : seekM xs row = ⟨c, false, zeroE, n⟩) (hc : ¬ c = 0) (hbox : BoxAt wq w.heap.size 47 9 rb (sk0 0 n)) (hH : HandleAt wq) (hB : Below w.heap.size w wq) :
    bodyPostD Tryz.prog Tryz.f19 (fun e w' => SekPost w xs row e w') (.panic [{ v := corrV c, recovered := false }]) a wq := by
  show Leaves Tryz.prog Tryz.f19 a.tmps (fun e w' => SekPost w xs row e w') a.defers (.panicking [{ v := corrV c, recovered := false }]) wq
  rw [hd]
  refine leaves_cons (f := 53) (args := #[.pointer (some ⟨rb, 0, none⟩)]) (by simp) (by simp [go_sem]) ?_
  refine (sek_catch w.heap.size rb c n [] wq hH hc hbox).mono ?_
  rintro e u' w'' ⟨rfl, rfl, w1, hb1, rfl⟩
  have hbx := (hbox.below hb1).set9 (.int .i64 c) (.bool false) (.string ⟨#[]⟩) (.string ⟨#[]⟩) (.string ⟨#[]⟩) (.int .u64 0) (.int .i64 0) (.string ⟨#[]⟩) (.int .i64 (n : Int))
  have hb2 : Below w.heap.size w (set9 w1 rb (.int .i64 c) (.bool false) (.string ⟨#[]⟩) (.string ⟨#[]⟩) (.string ⟨#[]⟩) (.int .u64 0) (.int .i64 0) (.string ⟨#[]⟩) (.int .i64 (n : Int))) :=
    below_set9 (hB.trans (hb1.mono hB.size)) hr _ _ _ _ _ _ _ _ _
  show Leaves Tryz.prog Tryz.f19 a.tmps (fun e w' => SekPost w xs row e w') [] (settle (.panicking [{ v := corrV c, recovered := true }])) _
  refine ⟨(seekM xs row).v, ?_, rfl, hb2⟩
  rw [hM]
  exact sek_res (s := ⟨c, false, zeroE, n⟩) ht hbx
/-- SeekRun returns. -/
theorem sek_done (xs : List UInt8) (row : ByteArray) (w wq : World) (a : Act) (rb : Nat) (hd : a.defers = [{ target := Target.fn (Fn.func 53) #[.pointer (some ⟨rb, 0, none⟩)], args := #[] }]) (ht : a.tmps.getD 4 undef = .pointer (some ⟨rb, 0, none⟩))
    (hbox : BoxAt wq w.heap.size 47 9 rb (seekM xs row).cells) (hB : Below w.heap.size w wq) :
    bodyPostD Tryz.prog Tryz.f19 (fun e w' => SekPost w xs row e w') .ret a wq := by
  show Leaves Tryz.prog Tryz.f19 a.tmps (fun e w' => SekPost w xs row e w') a.defers .returning wq
  rw [hd]
  refine leaves_cons (f := 53) (args := #[.pointer (some ⟨rb, 0, none⟩)]) (by simp) (by simp [go_sem]) ?_
  refine (sek_idle rb wq).mono ?_
  rintro e u' w'' ⟨rfl, rfl, rfl⟩
  show Leaves Tryz.prog Tryz.f19 a.tmps (fun e w' => SekPost w xs row e w') [] (settle .returning) w''
  exact ⟨_, sek_res ht hbox, rfl, hB⟩

set_option maxHeartbeats 2000000 in
theorem firstFor_core (f : FileAt) (fb gb cpb base : Nat) (bs : List Blk) (row : ByteArray) (w : World) (hc : w.cell? ⟨fb, 256, none⟩ = some (.slice (some ⟨gb, 0, none⟩) bs.length cpb)) (hO : OwnF f w base gb cpb bs) (hn : bs.length ≤ 10000) :
    Calls Tryz.prog 56 #[.pointer (some ⟨fb, 0, none⟩), .string row] w fun e w' => e = .returned (.int .i64 (firstTo bs row bs.length : Int)) ∧ Below w.heap.size w w' := by
  have HO : Hid (OwnF f w base gb cpb bs) := hO
  clear hO
  go_enter Tryz.func56, Tryz.ntmps56
  go_wp2_with fail
  go_loopw [5, 13] (fun fv kk wr => ∃ (k F : Nat), k ≤ bs.length ∧ F = firstTo bs row k ∧ fv = .int .i64 (F : Int) ∧ kk = .int .i64 (k : Int) ∧ Below w.heap.size w wr) (fun _ kk _ => bs.length - (intOf kk).toNat)
  case atStart => exact ⟨0, 0, Nat.zero_le _, rfl, rfl, rfl, Below.refl _ _⟩
  case round =>
    obtain ⟨k, F, hk, hF, rfl, rfl, hb⟩ := hrel
    have HF : Hid (F = firstTo bs row k) := hF
    have hs := hb.size
    clear hF
    by_cases hlt : k < bs.length
    · obtain ⟨x, hx⟩ : ∃ x, bs[k]? = some x := ⟨_, List.getElem?_eq_getElem hlt⟩
      obtain ⟨c0, c1, c2, c3⟩ := (HO.out.chg (S := fun j => w.heap.size ≤ j) ⟨hb.os, hb.tape, hb.output, hb.size, fun i hi _ => hb.block i hi⟩ (by have := HO.out.lt; omega)).at hx
      have HX : Hid (bs[k]? = some x) := hx
      have zk : (k : Int) < (bs.length : Int) := by omega
      obtain ⟨W2, hW2⟩ : ∃ W2 : World, W2 = wr.alloc (Obj.cells #[.slice (some ⟨f.b, f.off + x.fr, none⟩) (x.til - x.fr) (f.cap - x.fr), .int .u32 (fixAt f.xs x.til : Int), .int .i64 (x.count : Int), .string x.row] 110) := ⟨_, rfl⟩
      have hb2 : Below w.heap.size w W2 := by rw [hW2]; exact hb.trans ((Below.refl _ _).alloc (by omega) _)
      clear hx
      cases hl : Op.bytesLess x.row.toList row.toList
      · have HN : Hid (F = firstTo bs row (k + 1)) := by rw [firstTo, HX.out, HF.out]; show firstTo bs row k = if Op.bytesLess x.row.toList row.toList = true then k else firstTo bs row k; rw [hl]; rfl
        go_wp2_with fail
        rw [← hW2]
        go_roundw
        case rel => exact ⟨k + 1, F, by omega, HN.out, rfl, by go_num, hb2⟩
        case measure => simp [intOf]; omega
      · have HN : Hid (k = firstTo bs row (k + 1)) := by rw [firstTo, HX.out]; show k = if Op.bytesLess x.row.toList row.toList = true then k else firstTo bs row k; rw [hl]; rfl
        go_wp2_with fail
        rw [← hW2]
        go_roundw
        case rel => exact ⟨k + 1, k, by omega, HN.out, rfl, by go_num, hb2⟩
        case measure => simp [intOf]; omega
    · obtain rfl : k = bs.length := by omega
      have zk : ¬ ((bs.length : Nat) : Int) < (bs.length : Int) := by omega
      go_wp2_with fail
      go_ret
      exact ⟨by rw [← HF.out]; rfl, hb⟩

set_option maxHeartbeats 1000000 in
theorem sekTest_any (e : Ent) (rb : Nat) (row : ByteArray) (w : World) (hr : w.cell? ⟨rb, 0, none⟩ = some (.string row)) (hlt : rb < w.heap.size) :
    Calls Tryz.prog 59 #[e.v, .pointer (some ⟨rb, 0, none⟩)] w fun r w' => r = .returned (.bool (!lessB e.row row)) ∧ Below w.heap.size w w' := by
  unfold Ent.v lessB
  obtain ⟨W2, hW2⟩ : ∃ W2 : World, W2 = w.alloc (Obj.cells #[.string e.row, .string e.fam, .string e.qual, .int .u64 e.ts, .int .i64 e.kind, .string e.val] 45) := ⟨_, rfl⟩
  have hb2 : Below w.heap.size w W2 := by rw [hW2]; exact (Below.refl _ _).alloc (Nat.le_refl _) _
  have c0 : W2.cell? ⟨w.heap.size, 0, none⟩ = some (.string e.row) := by rw [hW2]; simp
  have c1 : W2.cell? ⟨rb, 0, none⟩ = some (.string row) := (hb2.cell (p := ⟨rb, 0, none⟩) hlt).trans hr
  clear hr
  go_enter Tryz.func59, Tryz.ntmps59
  go_upto_region 1 with fail
  rw [← hW2]
  clear hW2
  go_wp2_with fail
  go_ret
  exact ⟨by first | rfl | simp, hb2⟩
end Go.Proofs.YtlgeffinhbodeaeGreatDoor

/-
  slices.IndexFunc with SeekRun's test.
-/
namespace Go.Proofs.YtlgeffinhbodeaeGreatDoor
open Go.ChangeShapes Go.WideShapes Go.ChangeAt Go.RowKit Go.Deep
set_option linter.unusedVariables false
set_option linter.unusedSimpArgs false
set_option maxRecDepth 100000

theorem find_at {es : List Ent} {f : Ent → Bool} {k : Nat} {x : Ent} (h : ∀ (j : Nat) y, j < k → es[j]? = some y → f y = false) (hx : es[k]? = some x) (hf : f x = true) : es.find? f = some x := by
  induction es generalizing k with
  | nil => simp at hx
  | cons e es ih =>
    cases k with
    | zero => simp at hx; subst hx; simp [hf]
    | succ k =>
      have h0 := h 0 e (by omega) rfl
      rw [List.find?_cons, h0]
      exact ih (k := k) (fun j y hj hy => h (j + 1) y (by omega) (by simpa using hy)) (by simpa using hx)
theorem find_no {es : List Ent} {f : Ent → Bool} (h : ∀ (j : Nat) y, es[j]? = some y → f y = false) : es.find? f = none := by
  rw [List.find?_eq_none]
  intro x hx
  obtain ⟨j, hj⟩ := List.getElem?_of_mem hx
  rw [h j x hj]; simp
/-- The first entry whose row is not below. -/
def firstGe (es : List Ent) (row : ByteArray) : Option Ent := es.find? (fun e => !lessB e.row row)
set_option maxHeartbeats 4000000 in
theorem sekIdx_core (b off cap : Nat) (es : List Ent) (rb : Nat) (row : ByteArray) (w : World) (hE : EntsAt w b off es) (hB : b < w.heap.size) (hr : w.cell? ⟨rb, 0, none⟩ = some (.string row)) (hrl : rb < w.heap.size) (hn : es.length ≤ 100000) :
    Calls Tryz.prog 58 #[.slice (some ⟨b, off, none⟩) es.length cap, .func (.func 59) #[] #[.pointer (some ⟨rb, 0, none⟩)]] w fun e w' => Below w.heap.size w w' ∧
      ((∃ (i : Nat) (x : Ent), es[i]? = some x ∧ firstGe es row = some x ∧ e = .returned (.int .i64 (i : Int))) ∨ (firstGe es row = none ∧ e = .returned (.int .i64 (-1)))) := by
  have HE : Hid (EntsAt w b off es ∧ w.cell? ⟨rb, 0, none⟩ = some (.string row)) := ⟨hE, hr⟩
  clear hE hr
  go_enter Tryz.func58, Tryz.ntmps58
  go_wp2_with fail
  go_loopw [8] (fun iv wr => ∃ (k : Nat), k ≤ es.length ∧ iv = .int .i64 (k : Int) ∧ (∀ (j : Nat) y, j < k → es[j]? = some y → (!lessB y.row row) = false) ∧ Below w.heap.size w wr) (fun iv _ => es.length - (intOf iv).toNat)
  case atStart => exact ⟨0, Nat.zero_le _, rfl, fun j y hj => by omega, Below.refl _ _⟩
  case round =>
    obtain ⟨k, hk, rfl, hF, hb⟩ := hrel
    have HF : Hid (∀ (j : Nat) y, j < k → es[j]? = some y → (!lessB y.row row) = false) := hF
    have hs := hb.size
    clear hF
    by_cases hlt : k < es.length
    · obtain ⟨x, hx⟩ : ∃ x, es[k]? = some x := ⟨_, List.getElem?_eq_getElem hlt⟩
      have HX : Hid (es[k]? = some x) := hx
      obtain ⟨c0, c1, c2, c3, c4, c5⟩ := HE.out.1.below hb hB k x hx
      have zk : (k : Int) < (es.length : Int) := by omega
      clear hx
      obtain ⟨t, ht⟩ : ∃ t, t = (!lessB x.row row) := ⟨_, rfl⟩
      have HT : Hid ((!lessB x.row row) = t) := ht.symm
      have HC : Hid (Calls Tryz.prog 59 #[x.v, .pointer (some ⟨rb, 0, none⟩)] wr fun r w' => r = .returned (.bool t) ∧ Below wr.heap.size wr w') := by
        rw [ht]
        exact sekTest_any x rb row wr ((hb.cell (p := ⟨rb, 0, none⟩) hrl).trans HE.out.2) (by omega)
      clear ht
      go_wp2_with fail
      refine HC.out.mono ?_
      rintro e w1 ⟨rfl, hb1⟩
      have hb2 := hb.trans (hb1.mono hs)
      cases t
      · go_wp2_with fail
        go_roundw
        case rel =>
          refine ⟨k + 1, by omega, by go_num, fun j y hj hy => ?_, hb2⟩
          by_cases hjk : j = k
          · subst hjk
            rw [HX.out] at hy
            cases hy
            exact HT.out
          · exact HF.out j y (by omega) hy
        case measure => simp [intOf]; omega
      · go_wp2_with fail
        go_ret
        exact ⟨hb2, .inl ⟨k, x, HX.out, find_at HF.out HX.out HT.out, rfl⟩⟩
    · have zk : ¬ (k : Int) < (es.length : Int) := by omega
      have HN : Hid (firstGe es row = none) := find_no (fun j y hy => HF.out j y (by have := (List.getElem?_eq_some_iff.1 hy).1; omega) hy)
      go_wp2_with fail
      go_ret
      exact ⟨hb, .inr ⟨HN.out, rfl⟩⟩
end Go.Proofs.YtlgeffinhbodeaeGreatDoor

/-
  The deferred closure of impl.DecodeRun.
-/
namespace Go.Proofs.YtlgeffinhbodeaeGreatDoor
open Go.ChangeShapes Go.WideShapes Go.ChangeAt Go.RowKit Go.Deep
set_option linter.unusedVariables false
set_option linter.unusedSimpArgs false
set_option maxRecDepth 100000

end Go.Proofs.YtlgeffinhbodeaeGreatDoor

/-
  impl.DecodeRun.
-/
namespace Go.Proofs.YtlgeffinhbodeaeGreatDoor
open Go.ChangeShapes Go.WideShapes Go.ChangeAt Go.RowKit Go.Deep
set_option linter.unusedVariables false
set_option linter.unusedSimpArgs false
set_option maxRecDepth 100000

theorem blkM_fre {xs : List UInt8} {k : Blk} : blkM xs k = freM (fixAt xs k.til) k.count (bl k.row) (span xs k.fr k.til) := rfl
theorem decM_idx {xs : List UInt8} (h : (idxM xs).1 ≠ 0) : decM xs = ((idxM xs).1, []) := by unfold decM; rw [if_pos h]

theorem step_append_entsA {ops : Array Oper} {o : Oper} {a : Act} {K : Act → World → Prop} {Q : Exit → Act → World → Prop} {E : Prop} (w : World) (hgd : o.guard = none) (s x : Operand)
    (ho : o.op = .call { callee := .builtin .append, args := #[s, x], argTypes := #[35, 35] })
    (base g cp n b m cx : Nat) (fs es : List Ent) (hn : n = fs.length) (hm : m = es.length) (hm0 : 0 < m) (hs : a.eval s = .slice (some ⟨g, 0, none⟩) n cp) (hx : a.eval x = .slice (some ⟨b, 0, none⟩) m cx) (hO : OwnE w base g cp fs)
    (hc : EntsAt w b 0 es) (hlen : fs.length + es.length ≤ 2 ^ 30) (hbase : base ≤ w.heap.size)
    (h : ∀ g' cp' w', OwnE w' base g' cp' (fs ++ es) → w.grownBy w' (some g) → (g = g' ∨ g' = w.heap.size) → K (a.put o.dst (.slice (some ⟨g', 0, none⟩) (n + m) cp')) w') : if Region.wanted o (yielded ops a.tmps) = true then Oper.wp Tryz.prog o a w K Q else E := by
  subst hn hm
  obtain ⟨i, hi, hz0, hz1, hz2⟩ := info_parts Tryz.infoEnt
  refine step_append_lies w hgd s x 35 ho base 45 i _ 6 80 Tryz.underlying35 hi hz0 hz1 hz2 rfl (by decide) (.slice (some ⟨g, 0, none⟩) fs.length cp) fs.length (cellsE fs) hs hO ⟨b, 0, none⟩ es.length cx (cellsE es) hx (length_cellsE es) (cells_of_ents hc) (one_cells es) hm0 ?_ ?_ hbase w.heap.size rfl ?_
  · unfold maxLen; omega
  · omega
  · intro g' cp' w' hO' hgr hat hlt
    refine h g' cp' w' ?_ hgr ?_
    · unfold OwnE
      rw [List.length_append, cellsE_append]
      exact hO'
    · rcases hat with q | q
      · exact .inl (by simpa [Value.ownBlock] using q)
      · exact .inr q

/-- The first error decides. -/
theorem decBlks_pre (xs : List UInt8) : ∀ (l k : List Blk), (decBlks xs l).1 ≠ 0 → decBlks xs (l ++ k) = decBlks xs l
  | [], k, h => absurd rfl h
  | b :: l, k, h => by
    by_cases h1 : (blkM xs b).1 = 0
    · have hl : (decBlks xs l).1 ≠ 0 := by
        intro q
        rw [decBlks, if_neg (fun z => z h1), if_neg (fun z => z q)] at h
        exact h rfl
      have ih := decBlks_pre xs l k hl
      show decBlks xs (b :: (l ++ k)) = _
      simp only [decBlks]
      rw [ih]
    · show decBlks xs (b :: (l ++ k)) = _
      simp only [decBlks]
      rw [if_pos h1, if_pos h1]
/-- A region in which a block cannot be read. -/
theorem wp_region_ents {id : Nat} {Q : Exit → Act → World → Prop} {a : Act} {w : World} {l : List Oper} (n : Nat) (d : Tmp) (fb rb : Nat) (bv : Array Value) {tys : Array TypeId} {ty : TypeId} {pos : String} {aft : Array Edge}
    (ho : l = l.take n ++ ⟨some d, .call { callee := .value (.func 57), args := #[.tmp 3, .tmp 21], argTypes := tys }, ty, pos, aft, none⟩ :: l.drop (n + 1))
    (hB : ∀ m, Region.lexB .any (l.take n ++ (⟨some d, .call { callee := .value (.func 57), args := #[.tmp 3, .tmp 21], argTypes := tys }, ty, pos, aft, none⟩ :: l.drop (n + 1)).map (fk m)).toArray = true)
    (hB2 : waitsB (l.take n) ⟨some d, .call { callee := .value (.func 57), args := #[.tmp 3, .tmp 21], argTypes := tys }, ty, pos, aft, none⟩ (l.drop (n + 1)) d [3, 21, 2] = true)
    (hc : ∀ w', Below w.heap.size w w' → Calls Tryz.prog 57 #[.pointer (some ⟨fb, 0, none⟩), .agg bv] w' fun e w'' => ∃ chain, e = .panicked chain ∧ ∀ a' : Act, a'.defers = a.defers → a'.tmps.getD 2 undef = .pointer (some ⟨rb, 0, none⟩) → Q (.panic chain) a' w'')
    (h : ∀ m, wpQuiet Tryz.prog (l.take n ++ (⟨some d, .call { callee := .value (.func 57), args := #[.tmp 3, .tmp 21], argTypes := tys }, ty, pos, aft, none⟩ :: l.drop (n + 1)).map (fk m)).toArray (fun w' => ∃ n : Out w, w' = n.u) (fun a' => a'.tmps.getD d undef = m ∧ ∀ p ∈ [((3 : Tmp), Value.pointer (some ⟨fb, 0, none⟩)), (21, .agg bv), (2, .pointer (some ⟨rb, 0, none⟩))], a'.tmps.getD p.1 undef = p.2) (l.take n ++ (⟨some d, .call { callee := .value (.func 57), args := #[.tmp 3, .tmp 21], argTypes := tys }, ty, pos, aft, none⟩ :: l.drop (n + 1)).map (fk m)) a) :
    (Code.region id l.toArray true).wp Tryz.prog Q a w := by
  refine wp_region_dies (C := fun w' => ∃ n : Out w, w' = n.u) (l.take n) _ (l.drop (n + 1)) d [((3 : Tmp), Value.pointer (some ⟨fb, 0, none⟩)), (21, .agg bv), (2, .pointer (some ⟨rb, 0, none⟩))] l ho (by kernel_rfl) hB hB2 rfl rfl ⟨⟨_, (Below.refl _ _).drew⟩, rfl⟩ h ?_
  rintro a' w' K ⟨n, rfl⟩ hd hp
  have h1 : a'.tmps.getD 3 undef = .pointer (some ⟨fb, 0, none⟩) := hp (3, _) (by simp)
  have h2 : a'.tmps.getD 21 undef = .agg bv := hp (21, _) (by simp)
  have h3 : a'.tmps.getD 2 undef = .pointer (some ⟨rb, 0, none⟩) := hp (2, _) (by simp)
  unfold Oper.wp
  have hrun : (execOp a'.eval ⟨some d, .call { callee := .value (.func 57), args := #[.tmp 3, .tmp 21], argTypes := tys }, ty, pos, aft, none⟩).run Tryz.prog n.u = .ok (.enter 57 #[.pointer (some ⟨fb, 0, none⟩), .agg bv]) n.u := by
    have h4 : a'.tmps[3]?.getD undef = .pointer (some ⟨fb, 0, none⟩) := by rw [← Array.getD_eq_getD_getElem?]; exact h1
    have h5 : a'.tmps[21]?.getD undef = .agg bv := by rw [← Array.getD_eq_getD_getElem?]; exact h2
    simp [execOp, h4, h5, go_sem, Act.eval, Tryz.func57]
  rw [hrun, Oper.upon_enter]
  refine (hc n.u n.out).mono ?_
  rintro e w'' ⟨chain, rfl, hq⟩
  exact hq a' hd h3

theorem TabAt.chg {S : Nat → Prop} {w w' : World} {b off : Nat} (h : TabAt w b off) (hc : Chg S w w') (hlt : b < w.heap.size) (hn : ¬ S b) : TabAt w' b off := by
  intro i hi
  rw [hc.cell (p := ⟨b, off + i, none⟩) hlt hn]
  exact h i hi
theorem HandleAt.chg {S : Nat → Prop} {w w' : World} (h : HandleAt w) (hc : Chg S w w') (hn : ¬ S 1) : HandleAt w' := by
  have hl := h.lt
  unfold HandleAt at h ⊢
  rw [hc.cell (p := ⟨1, 0, none⟩) hl hn]
  exact h
end Go.Proofs.YtlgeffinhbodeaeGreatDoor

/-
  impl.SeekRun.
-/
namespace Go.Proofs.YtlgeffinhbodeaeGreatDoor
open Go.ChangeShapes Go.WideShapes Go.ChangeAt Go.RowKit Go.Deep
set_option linter.unusedVariables false
set_option linter.unusedSimpArgs false
set_option maxRecDepth 100000

/-- Between two blocks. -/
structure SekJ (f : FileAt) (w wr : World) (fb : Nat) (bs : List Blk) (gb cpb : Nat) (row : ByteArray) (n : Nat) : Prop where
  res : BoxAt wr w.heap.size 47 9 (w.heap.size + 1) (sk0 0 n)
  rowc : wr.cell? ⟨w.heap.size, 0, none⟩ = some (.string row)
  tab : TabAt wr fb 0
  blks : OwnF f wr w.heap.size gb cpb bs
  hand : HandleAt wr
  bys : BysAt wr f.b f.off f.xs
  below : Below w.heap.size w wr
  lts : w.heap.size + 1 < fb ∧ fb < wr.heap.size ∧ w.heap.size + 1 < gb ∧ 1 < w.heap.size ∧ f.b < w.heap.size
theorem SekJ.grow {f : FileAt} {w wr w' : World} {fb : Nat} {bs : List Blk} {gb cpb : Nat} {row : ByteArray} {n : Nat} (h : SekJ f w wr fb bs gb cpb row n) (hb : Below wr.heap.size wr w') : SekJ f w w' fb bs gb cpb row n := by
  have hl := h.lts
  have hs := hb.size
  exact ⟨h.res.below hb, (hb.cell (p := ⟨w.heap.size, 0, none⟩) (by show w.heap.size < _; omega)).trans h.rowc, h.tab.below hb (by omega), h.blks.below hb, h.hand.below hb (by omega), h.bys.below hb (by omega), h.below.trans (hb.mono h.below.size), by omega⟩
/-- One block more is counted. -/
theorem SekJ.count {f : FileAt} {w wr : World} {fb : Nat} {bs : List Blk} {gb cpb : Nat} {row : ByteArray} {n : Nat} (h : SekJ f w wr fb bs gb cpb row n) : SekJ f w (wr.setCell ⟨w.heap.size + 1, 8, none⟩ (.int .i64 ((n : Int) + 1))) fb bs gb cpb row (n + 1) := by
  have hl := h.lts
  have hc := Chg.of_set wr (w.heap.size + 1) 8 (.int .i64 ((n : Int) + 1)) (S := fun k => k = w.heap.size + 1) rfl
  refine ⟨h.res.set 8 _, (hc.cell (p := ⟨w.heap.size, 0, none⟩) (by show w.heap.size < _; omega) (by show ¬ w.heap.size = _; omega)).trans h.rowc, h.tab.chg hc (by omega) (by omega), h.blks.chg hc (by omega), h.hand.chg hc (by omega), h.bys.chgR hc (by omega) (by omega), below_set h.below (by omega) 8 _, by rw [size_set]; omega⟩
theorem seek_idx {xs : List UInt8} {row : ByteArray} (h : (idxM xs).1 ≠ 0) : seekM xs row = ⟨(idxM xs).1, false, zeroE, 0⟩ := by unfold seekM; rw [if_pos h]
theorem seek_bad {xs : List UInt8} {row : ByteArray} {bs : List Blk} {k n : Nat} {x : Blk} (hx : bs[k]? = some x) (h : ¬ (blkM xs x).1 = 0) : seekFrom xs row (bs.drop k) n = ⟨(blkM xs x).1, false, zeroE, n + 1⟩ := by
  have hk := (List.getElem?_eq_some_iff.1 hx).1
  rw [List.drop_eq_getElem_cons hk, (List.getElem?_eq_some_iff.1 hx).2, seekFrom, if_pos h]
theorem seek_hit {xs : List UInt8} {row : ByteArray} {bs : List Blk} {k n : Nat} {x : Blk} {e : Ent} (hx : bs[k]? = some x) (h : (blkM xs x).1 = 0) (he : firstGe (blkM xs x).2 row = some e) : seekFrom xs row (bs.drop k) n = ⟨0, true, e, n + 1⟩ := by
  have hk := (List.getElem?_eq_some_iff.1 hx).1
  rw [List.drop_eq_getElem_cons hk, (List.getElem?_eq_some_iff.1 hx).2, seekFrom, if_neg (fun q => q h)]
  unfold firstGe at he
  rw [he]
theorem seek_next {xs : List UInt8} {row : ByteArray} {bs : List Blk} {k n : Nat} {x : Blk} (hx : bs[k]? = some x) (h : (blkM xs x).1 = 0) (he : firstGe (blkM xs x).2 row = none) : seekFrom xs row (bs.drop k) n = seekFrom xs row (bs.drop (k + 1)) (n + 1) := by
  have hk := (List.getElem?_eq_some_iff.1 hx).1
  rw [List.drop_eq_getElem_cons hk, (List.getElem?_eq_some_iff.1 hx).2, seekFrom, if_neg (fun q => q h)]
  unfold firstGe at he
  rw [he]
theorem seek_end {xs : List UInt8} {row : ByteArray} {bs : List Blk} {k n : Nat} (hk : bs.length ≤ k) : seekFrom xs row (bs.drop k) n = ⟨0, false, zeroE, n⟩ := by
  rw [List.drop_of_length_le hk]; rfl

set_option maxHeartbeats 8000000 in
theorem implSeek_core (f : FileAt) (row : ByteArray) (w : World) (hg : HandleAt w) (hE : BysAt w f.b f.off f.xs) (hb : f.b < w.heap.size) (hl : f.xs.length ≤ 2 ^ 29) (hcap : f.xs.length ≤ f.cap) (hcm : f.cap ≤ maxLen) :
    Calls Tryz.prog 19 #[.slice (some ⟨f.b, f.off, none⟩) f.xs.length f.cap, .string row] w fun e w' => SekPost w f.xs row e w' := by
  have hmf : ∀ (fn : Fn) (first cap : Array Value) (w : World), (Instr.makeFunc fn first cap).run Tryz.prog w = .ok (.func fn first cap) w := fun _ _ _ _ => rfl
  obtain ⟨W, hW⟩ : ∃ W : World, W = (w.alloc (Obj.cells #[.string row] 9)).alloc (Obj.cells #[.int .i64 0, .bool false, .string ⟨#[]⟩, .string ⟨#[]⟩, .string ⟨#[]⟩, .int .u64 0, .int .i64 0, .string ⟨#[]⟩, .int .i64 0] 47) := ⟨_, rfl⟩
  have HW : Hid (Below w.heap.size w W ∧ BoxAt W w.heap.size 47 9 (w.heap.size + 1) (sk0 0 0) ∧ HandleAt W ∧ BysAt W f.b f.off f.xs ∧ W.heap.size = w.heap.size + 2 ∧ W.cell? ⟨w.heap.size, 0, none⟩ = some (.string row)) := by
    have h1 : Below w.heap.size w W := by rw [hW]; exact ((Below.refl _ _).alloc (Nat.le_refl _) _).alloc (by simp) _
    refine ⟨h1, ?_, hg.below h1 hg.lt, hE.below h1 hb, by rw [hW]; simp, ?_⟩
    · rw [hW]
      have := boxAt_new (w.alloc (Obj.cells #[.string row] 9)) (base := w.heap.size) (t := 47) (sz := 9) #[.int .i64 0, .bool false, .string ⟨#[]⟩, .string ⟨#[]⟩, .string ⟨#[]⟩, .int .u64 0, .int .i64 0, .string ⟨#[]⟩, .int .i64 0] (by simp) rfl
      simp at this
      exact this
    · rw [hW, World.cell?_alloc_lt _ _ ⟨w.heap.size, 0, none⟩ (by simp)]; simp
  have HN : Hid (f.b < w.heap.size ∧ f.xs.length ≤ 2 ^ 29 ∧ f.xs.length ≤ f.cap ∧ f.cap ≤ maxLen ∧ 1 < w.heap.size) := ⟨hb, hl, hcap, hcm, hg.lt⟩
  clear hg hE hb hl hcap hcm
  go_enter_defers Tryz.func19, Tryz.ntmps19
  go_upto_region 2 with fail
  rw [← hW]
  clear hW
  go_wp2_with fail
  refine (openFile_core f W HW.out.2.2.2.1 (by have := HN.out; have := HW.out.1.size; omega) HN.out.2.1 HN.out.2.2.1 HN.out.2.2.2.1).mono ?_
  rintro e w1 ⟨hb1, (⟨hR0, gb, cpb, rfl, hO1⟩ | ⟨hR0, rfl⟩)⟩
  case inr =>
    exact sek_dies f.xs row w w1 _ _ 0 (w.heap.size + 1) (by omega) rfl rfl (seek_idx hR0) hR0 (HW.out.2.1.below hb1) (HW.out.2.2.1.below hb1 (by have := HN.out; have := HW.out.1.size; omega)) (HW.out.1.trans (hb1.mono HW.out.1.size))
  obtain ⟨bs, hbs⟩ : ∃ bs, bs = (idxM f.xs).2 := ⟨_, rfl⟩
  rw [← hbs] at hO1
  rw [← hbs]
  have HBs : Hid (bs = (idxM f.xs).2 ∧ (idxM f.xs).1 = 0) := ⟨hbs, hR0⟩
  clear hbs hR0
  obtain ⟨sv, hsv⟩ : ∃ sv : Value, sv = .slice (some ⟨gb, 0, none⟩) bs.length cpb := ⟨_, rfl⟩
  rw [← hsv]
  have hone : (fileR sv).all (·.oneCell') = true := fileR_one _ (by rw [hsv]; rfl)
  have HSv : Hid (sv = .slice (some ⟨gb, 0, none⟩) bs.length cpb) := hsv
  clear hsv
  have hzv := (zero_of_info info_fr).1
  have hsz := fileR_size sv
  have hsc := run_storeCells_new (P := Tryz.prog) w1 106 ((Array.replicate 256 (.int .u32 0)).push (.slice none 0 0)) (fileR sv) (by rw [fileR_size]; exact (zero_of_info info_fr).2) (by rw [fileR_size]; simp) hone
  have HO1 : Hid (OwnF f w1 W.heap.size gb cpb bs ∧ Below W.heap.size W w1) := ⟨hO1, hb1⟩
  clear hO1 hb1 hone
  obtain ⟨W2, hW2⟩ : ∃ W2 : World, W2 = w1.alloc (.cells (fileR sv) 106) := ⟨_, rfl⟩
  have c256 : W2.cell? ⟨w1.heap.size, 256, none⟩ = some sv := by
    rw [hW2, cell_of_row _ _ 256 _ _ _ (heap_alloc_last w1 _)]
    exact fileR_last sv
  have HIn : Hid ((∀ k ∈ bs, k.in f.xs.length) ∧ bs.length ≤ 10000) := by
    rw [HBs.out.1]
    exact ⟨idxM_in f.xs, idx_many (err := (idxM f.xs).1) rfl⟩
  have HJ0 : Hid (SekJ f w W2 w1.heap.size bs gb cpb row 0 ∧ bs.length ≤ cpb ∧ cpb ≤ maxLen) := by
    have hz1 := HW.out.2.2.2.2.1
    have hz2 := HO1.out.2.size
    have hgb := HO1.out.1.lt
    have hN := HN.out
    have hbb : Below w1.heap.size w1 W2 := by rw [hW2]; exact (Below.refl _ _).alloc (Nat.le_refl _) _
    have hzz : W2.heap.size = w1.heap.size + 1 := by rw [hW2]; simp
    refine ⟨⟨(HW.out.2.1.below HO1.out.2).below hbb, ?_, ?_, (HO1.out.1.mono (by omega)).below hbb, (HW.out.2.2.1.below HO1.out.2 (by omega)).below hbb (by omega), (HW.out.2.2.2.1.below HO1.out.2 (by omega)).below hbb (by omega), (HW.out.1.trans (HO1.out.2.mono (by omega))).trans (hbb.mono (by omega)), by omega⟩, ?_⟩
    · rw [hbb.cell (p := ⟨w.heap.size, 0, none⟩) (by show w.heap.size < _; omega), HO1.out.2.cell (p := ⟨w.heap.size, 0, none⟩) (by show w.heap.size < _; omega)]
      exact HW.out.2.2.2.2.2
    · intro i hi
      rw [hW2, Nat.zero_add, cell_of_row _ _ i _ _ _ (heap_alloc_last w1 _)]
      exact fileR_tab sv i hi
    · rcases HO1.out.1.2 with ⟨h0, _⟩ | ⟨g', cap', cur, hv, _, _, hn, hcap, _, _⟩
      · cases h0
      · simp only [Value.slice.injEq, Option.some.injEq, Addr.mk.injEq, and_true, true_and] at hv
        obtain ⟨rfl, rfl⟩ := hv
        exact ⟨hn, hcap⟩
  go_upto_region 3 with fail
  rw [← hW2]
  clear hW2 hzv hsz hsc HW HO1
  obtain ⟨fb, hfb⟩ : ∃ fb, fb = w1.heap.size := ⟨_, rfl⟩
  rw [← hfb] at c256 HJ0
  rw [← hfb]
  rw [HSv.out] at c256
  clear hfb HSv
  obtain ⟨F, hF⟩ : ∃ F, F = firstTo bs row bs.length := ⟨_, rfl⟩
  have hFl : F ≤ bs.length := by rw [hF]; exact firstTo_le bs row _
  have HM0 : Hid (seekM f.xs row = seekFrom f.xs row (bs.drop (F + 0)) 0) := by
    show seekM f.xs row = _
    unfold seekM
    rw [if_neg (by rw [HBs.out.2]; simp), ← HBs.out.1, hF, Nat.add_zero]
  have hlts := HJ0.out.1.lts
  have e256 : ∀ n : Out W2, n.u.cell? ⟨fb, 256, none⟩ = some (.slice (some ⟨gb, 0, none⟩) bs.length cpb) := fun n => (n.out.cell (p := ⟨fb, 256, none⟩) (by show fb < _; omega)).trans c256
  have erow : ∀ n : Out W2, n.u.cell? ⟨w.heap.size, 0, none⟩ = some (.string row) := fun n => (HJ0.out.1.grow n.out).rowc
  have HFF : Hid (∀ n : Out W2, Calls Tryz.prog 56 #[.pointer (some ⟨fb, 0, none⟩), .string row] n.u fun e w' => e = .returned (.int .i64 (F : Int)) ∧ Below n.u.heap.size n.u w') := fun n => by
    rw [hF]
    exact firstFor_core f fb gb cpb w.heap.size bs row n.u ((n.out.cell (p := ⟨fb, 256, none⟩) (by show fb < _; omega)).trans c256) (HJ0.out.1.grow n.out).blks HIn.out.2
  have hbl := HIn.out.2
  have hcp1 := HJ0.out.2.1
  have HCp : Hid (cpb ≤ maxLen) := HJ0.out.2.2
  have zF1 : (F : Int) ≤ (cpb : Int) := by omega
  have zF2 : (F : Int) ≤ (bs.length : Int) := by omega
  have inh : Nonempty (Out W2) := ⟨⟨W2, Below.refl _ _⟩⟩
  clear hF c256 hlts
  by_cases hcF : cpb = F
  · obtain rfl : F = bs.length := by omega
    obtain rfl : cpb = bs.length := by omega
    refine wp_region_out (by kernel_rfl) (by kernel_rfl) ?_
    repeat (go_big_quiet_step ((first | rfl | (go_at_call 56; exact Calls.out_of (HFF.out _)))))
    refine wpQuiet_nil ?_
    rintro w3 ⟨⟨wx, hb3⟩, rfl⟩
    have HJ1 : Hid (SekJ f w w3 fb bs gb bs.length row 0) := HJ0.out.1.grow hb3
    clear e256 erow HFF hb3 HJ0 inh
    go_upto_region 4 with fail
    go_loopw [19] (fun kk wr => ∃ (k : Nat), kk = .int .i64 (k : Int) ∧ k = 0 ∧ SekJ f w wr fb bs gb bs.length row k) (fun kk _ => 0)
    case atStart => exact ⟨0, rfl, rfl, HJ1.out⟩
    case round =>
      obtain ⟨k, rfl, hk0, hJ⟩ := hrel
      have HJ : Hid (SekJ f w wr fb bs gb bs.length row k) := hJ
      have zk0 : ¬ (k : Int) < 0 := by omega
      have HF : Hid (seekM f.xs row = ⟨0, false, zeroE, k⟩) := by
        show seekM f.xs row = _
        rw [HM0.out, seek_end (by omega), hk0]
      have zk1 : ¬ (k : Int) < ((bs.length - bs.length : Nat) : Int) := by omega
      clear hJ HJ1 HM0 hk0
      have r0 := HJ.out.res.cell (j := 0) rfl
      have r1 := HJ.out.res.cell (j := 1) rfl
      have r2 := HJ.out.res.cell (j := 2) rfl
      have r3 := HJ.out.res.cell (j := 3) rfl
      have r4 := HJ.out.res.cell (j := 4) rfl
      have r5 := HJ.out.res.cell (j := 5) rfl
      have r6 := HJ.out.res.cell (j := 6) rfl
      have r7 := HJ.out.res.cell (j := 7) rfl
      have r8 := HJ.out.res.cell (j := 8) rfl
      have f0 := HJ.out.res.frozen 0
      have f1 := HJ.out.res.frozen 1
      have f2 := HJ.out.res.frozen 2
      have f3 := HJ.out.res.frozen 3
      have f4 := HJ.out.res.frozen 4
      have f5 := HJ.out.res.frozen 5
      have f6 := HJ.out.res.frozen 6
      have f7 := HJ.out.res.frozen 7
      have f8 := HJ.out.res.frozen 8
      obtain ⟨W9, hW9⟩ : ∃ W9 : World, W9 = set9 wr (w.heap.size + 1) (.int .i64 0) (.bool false) (.string ⟨#[]⟩) (.string ⟨#[]⟩) (.string ⟨#[]⟩) (.int .u64 0) (.int .i64 0) (.string ⟨#[]⟩) (.int .i64 (k : Int)) := ⟨_, rfl⟩
      have HW9 : Hid (BoxAt W9 w.heap.size 47 9 (w.heap.size + 1) (sk0 0 k) ∧ Below w.heap.size w W9) := by
        rw [hW9]; exact ⟨HJ.out.res.set9 _ _ _ _ _ _ _ _ _, below_set9 HJ.out.below (by omega) _ _ _ _ _ _ _ _ _⟩
      unfold set9 at hW9
      go_wp2_with fail
      rw [← hW9]
      exact sek_done f.xs row w W9 _ (w.heap.size + 1) rfl rfl (by rw [HF.out]; exact HW9.out.1) HW9.out.2
  · refine wp_region_out (by kernel_rfl) (by kernel_rfl) ?_
    repeat (go_big_quiet_step ((first | rfl | (go_at_call 56; exact Calls.out_of (HFF.out _)))))
    refine wpQuiet_nil ?_
    rintro w3 ⟨⟨wx, hb3⟩, rfl⟩
    have HJ1 : Hid (SekJ f w w3 fb bs gb cpb row 0) := HJ0.out.1.grow hb3
    clear e256 erow HFF hb3 HJ0 inh
    go_upto_region 4 with fail
    go_loopw [19] (fun kk wr => ∃ (k : Nat), kk = .int .i64 (k : Int) ∧ F + k ≤ bs.length ∧ seekM f.xs row = seekFrom f.xs row (bs.drop (F + k)) k ∧ SekJ f w wr fb bs gb cpb row k) (fun kk _ => bs.length - F - (intOf kk).toNat)
    case atStart => exact ⟨0, rfl, by omega, HM0.out, HJ1.out⟩
    case round =>
      clear HJ1 HM0
      obtain ⟨k, rfl, hkl, hM, hJ⟩ := hrel
      have HJ : Hid (SekJ f w wr fb bs gb cpb row k) := hJ
      have HM : Hid (seekM f.xs row = seekFrom f.xs row (bs.drop (F + k)) k) := hM
      clear hM hJ
      by_cases hlt : F + k < bs.length
      · skip
        obtain ⟨x, hx⟩ : ∃ x, bs[F + k]? = some x := ⟨_, List.getElem?_eq_getElem hlt⟩
        have HX : Hid (bs[F + k]? = some x ∧ x.in f.xs.length) := ⟨hx, HIn.out.1 x (List.mem_of_getElem? hx)⟩
        obtain ⟨c0, c1, c2, c3⟩ := HJ.out.blks.at hx
        have hoff : (F + k) * 4 = F * 4 + k * 4 := by omega
        simp only [hoff] at c0 c1 c2 c3
        have zk : (k : Int) < ((bs.length - F : Nat) : Int) := by omega
        obtain ⟨WA, hWA⟩ : ∃ WA : World, WA = wr.alloc (Obj.cells #[.slice (some ⟨f.b, f.off + x.fr, none⟩) (x.til - x.fr) (f.cap - x.fr), .int .u32 (fixAt f.xs x.til : Int), .int .i64 (x.count : Int), .string x.row] 110) := ⟨_, rfl⟩
        have HJA : Hid (SekJ f w WA fb bs gb cpb row k ∧ BoxAt WA w.heap.size 110 4 wr.heap.size [.slice (some ⟨f.b, f.off + x.fr, none⟩) (x.til - x.fr) (f.cap - x.fr), .int .u32 (fixAt f.xs x.til : Int), .int .i64 (x.count : Int), .string x.row]) := by
          have hbA : Below wr.heap.size wr WA := by rw [hWA]; exact (Below.refl _ _).alloc (Nat.le_refl _) _
          refine ⟨HJ.out.grow hbA, ?_⟩
          rw [hWA]; exact boxAt_new wr _ HJ.out.below.size rfl
        clear hx hoff
        go_upto_region 6 with fail
        rw [← hWA]
        clear hWA c0 c1 c2 c3
        have r8 := HJA.out.1.res.cell (j := 8) rfl
        have f8 := HJA.out.1.res.frozen 8
        have hlts := HJA.out.1.lts
        obtain ⟨W6, hW6⟩ : ∃ W6 : World, W6 = WA.setCell ⟨w.heap.size + 1, 8, none⟩ (.int .i64 ((k : Int) + 1)) := ⟨_, rfl⟩
        have HJ6 : Hid (SekJ f w W6 fb bs gb cpb row (k + 1) ∧ BoxAt W6 w.heap.size 110 4 wr.heap.size [.slice (some ⟨f.b, f.off + x.fr, none⟩) (x.til - x.fr) (f.cap - x.fr), .int .u32 (fixAt f.xs x.til : Int), .int .i64 (x.count : Int), .string x.row]) := by
          rw [hW6]
          have hwl := HJ.out.lts
          exact ⟨HJA.out.1.count, HJA.out.2.beside (by omega) 8 _⟩
        have hxin := HX.out.2
        obtain ⟨hi1, hi2, hi3, hi4, hi5⟩ := hxin
        have HEnt : Hid (Calls Tryz.prog 57 #[.pointer (some ⟨fb, 0, none⟩), .agg #[.slice (some ⟨f.b, f.off + x.fr, none⟩) (x.til - x.fr) (f.cap - x.fr), .int .u32 (fixAt f.xs x.til : Int), .int .i64 (x.count : Int), .string x.row]] W6 fun e w'' => FreP W6 (blkM f.xs x) e w'') := by
          have hJ := HJ6.out.1
          have hl := hJ.lts
          have hN := HN.out
          have hsl := span_len (xs := f.xs) (p := x.fr) (lim := x.til) (by omega)
          have h1 := entries_core fb f.b (f.off + x.fr) (f.cap - x.fr) (fixAt f.xs x.til) x.count x.row (span f.xs x.fr x.til) W6 hJ.tab (by omega) ((hJ.bys.drop x.fr).take (x.til - x.fr)) (by have := hJ.below.size; omega) (by rw [hsl]; omega) (by rw [hsl]; omega) (by omega) hi4 hi5
          rw [hsl, ← blkM_fre] at h1
          exact h1
        clear hi1 hi2 hi3 hi4 hi5 HJA
        go_upto_region 7 with fail
        rw [← hW6]
        clear hW6 r8 f8
        have b0 := HJ6.out.2.cell (j := 0) rfl
        have b1 := HJ6.out.2.cell (j := 1) rfl
        have b2 := HJ6.out.2.cell (j := 2) rfl
        have b3 := HJ6.out.2.cell (j := 3) rfl
        go_wp2_with fail
        refine HEnt.out.mono ?_
        rintro e w7 ⟨hb7, (⟨hz, g7, cp7, rfl, hO7, hok7⟩ | ⟨hz, rfl⟩)⟩
        case inr =>
          have hJ7 := HJ6.out.1.grow hb7
          exact sek_dies f.xs row w w7 _ _ (k + 1) (w.heap.size + 1) (by omega) rfl rfl (by rw [HM.out, seek_bad HX.out.1 hz]) hz hJ7.res hJ7.hand hJ7.below
        obtain ⟨es, hes⟩ : ∃ es, es = (blkM f.xs x).2 := ⟨_, rfl⟩
        rw [← hes] at hO7 hok7
        rw [← hes]
        have HEs : Hid (es = (blkM f.xs x).2 ∧ (blkM f.xs x).1 = 0 ∧ es.length ≤ 1000) := by
          refine ⟨hes, hz, ?_⟩
          have hb0 : blkM f.xs x = (0, es) := by rw [hes, ← hz]
          exact blk_many hb0.symm HX.out.2
        have HJ7 : Hid (SekJ f w w7 fb bs gb cpb row (k + 1) ∧ OwnE w7 W6.heap.size g7 cp7 es) := ⟨HJ6.out.1.grow hb7, hO7⟩
        have hw6l : w.heap.size + 1 < W6.heap.size := by have := HJ6.out.1.lts; omega
        clear hes hz hb7 hO7 hok7 b0 b1 b2 b3 HJ6 HEnt
        have hes1 := HEs.out.2.2
        go_wp2_with fail
        refine (sekIdx_core g7 0 cp7 es w.heap.size row w7 HJ7.out.2.at HJ7.out.2.lt.2 HJ7.out.1.rowc (by have := HJ7.out.1.lts; omega) (by omega)).mono ?_
        rintro e w8 ⟨hb8, (⟨i8, x8, hx8, hf8, rfl⟩ | ⟨hf8, rfl⟩)⟩
        · have HX8 : Hid (es[i8]? = some x8 ∧ seekM f.xs row = ⟨0, true, x8, k + 1⟩) := ⟨hx8, by rw [HM.out, seek_hit HX.out.1 HEs.out.2.1 (by rw [← HEs.out.1]; exact hf8)]⟩
          have HJ8 : Hid (SekJ f w w8 fb bs gb cpb row (k + 1) ∧ OwnE w8 W6.heap.size g7 cp7 es) := ⟨HJ7.out.1.grow hb8, HJ7.out.2.below hb8 HJ7.out.2.lt.2⟩
          have hi8 : i8 < es.length := (List.getElem?_eq_some_iff.1 hx8).1
          have zi8 : (i8 : Int) < (es.length : Int) := by omega
          have hglt : w.heap.size + 1 < g7 := by have h1 := HJ8.out.2.lt.1; omega
          obtain ⟨q0, q1, q2, q3, q4, q5⟩ := HJ8.out.2.at i8 x8 hx8
          simp only [Nat.zero_add] at q0 q1 q2 q3 q4 q5
          have hne : ¬ g7 = w.heap.size + 1 := by omega
          clear hb8 hf8 hx8 HJ7
          have r0 := HJ8.out.1.res.cell (j := 0) rfl
          have r1 := HJ8.out.1.res.cell (j := 1) rfl
          have r2 := HJ8.out.1.res.cell (j := 2) rfl
          have r3 := HJ8.out.1.res.cell (j := 3) rfl
          have r4 := HJ8.out.1.res.cell (j := 4) rfl
          have r5 := HJ8.out.1.res.cell (j := 5) rfl
          have r6 := HJ8.out.1.res.cell (j := 6) rfl
          have r7 := HJ8.out.1.res.cell (j := 7) rfl
          have r8 := HJ8.out.1.res.cell (j := 8) rfl
          have f0 := HJ8.out.1.res.frozen 0
          have f1 := HJ8.out.1.res.frozen 1
          have f2 := HJ8.out.1.res.frozen 2
          have f3 := HJ8.out.1.res.frozen 3
          have f4 := HJ8.out.1.res.frozen 4
          have f5 := HJ8.out.1.res.frozen 5
          have f6 := HJ8.out.1.res.frozen 6
          have f7 := HJ8.out.1.res.frozen 7
          have f8 := HJ8.out.1.res.frozen 8
          obtain ⟨WX, hWX⟩ : ∃ WX : World, WX = ((((((w8.setCell ⟨w.heap.size + 1, 1, none⟩ (.bool true)).setCell ⟨w.heap.size + 1, 2, none⟩ (.string x8.row)).setCell ⟨w.heap.size + 1, 3, none⟩ (.string x8.fam)).setCell ⟨w.heap.size + 1, 4, none⟩ (.string x8.qual)).setCell ⟨w.heap.size + 1, 5, none⟩ (.int .u64 x8.ts)).setCell ⟨w.heap.size + 1, 6, none⟩ (.int .i64 x8.kind)).setCell ⟨w.heap.size + 1, 7, none⟩ (.string x8.val) := ⟨_, rfl⟩
          have HWX : Hid (BoxAt WX w.heap.size 47 9 (w.heap.size + 1) [.int .i64 0, .bool true, .string x8.row, .string x8.fam, .string x8.qual, .int .u64 x8.ts, .int .i64 x8.kind, .string x8.val, .int .i64 ((k + 1 : Nat) : Int)] ∧ Below w.heap.size w WX) := by
            rw [hWX]
            refine ⟨((((((HJ8.out.1.res.set 1 _).set 2 _).set 3 _).set 4 _).set 5 _).set 6 _).set 7 _, ?_⟩
            exact below_set (below_set (below_set (below_set (below_set (below_set (below_set HJ8.out.1.below (by omega) 1 _) (by omega) 2 _) (by omega) 3 _) (by omega) 4 _) (by omega) 5 _) (by omega) 6 _) (by omega) 7 _
          go_upto_region 12 with fail
          rw [← hWX]
          clear hWX r0 r1 r2 r3 r4 r5 r6 r7 r8 f0 f1 f2 f3 f4 f5 f6 f7 f8 q0 q1 q2 q3 q4 q5
          have r0 := HWX.out.1.cell (j := 0) rfl
          have r1 := HWX.out.1.cell (j := 1) rfl
          have r2 := HWX.out.1.cell (j := 2) rfl
          have r3 := HWX.out.1.cell (j := 3) rfl
          have r4 := HWX.out.1.cell (j := 4) rfl
          have r5 := HWX.out.1.cell (j := 5) rfl
          have r6 := HWX.out.1.cell (j := 6) rfl
          have r7 := HWX.out.1.cell (j := 7) rfl
          have r8 := HWX.out.1.cell (j := 8) rfl
          have f0 := HWX.out.1.frozen 0
          have f1 := HWX.out.1.frozen 1
          have f2 := HWX.out.1.frozen 2
          have f3 := HWX.out.1.frozen 3
          have f4 := HWX.out.1.frozen 4
          have f5 := HWX.out.1.frozen 5
          have f6 := HWX.out.1.frozen 6
          have f7 := HWX.out.1.frozen 7
          have f8 := HWX.out.1.frozen 8
          obtain ⟨W9, hW9⟩ : ∃ W9 : World, W9 = set9 WX (w.heap.size + 1) (.int .i64 0) (.bool true) (.string x8.row) (.string x8.fam) (.string x8.qual) (.int .u64 x8.ts) (.int .i64 x8.kind) (.string x8.val) (.int .i64 ((k + 1 : Nat) : Int)) := ⟨_, rfl⟩
          have HW9 : Hid (BoxAt W9 w.heap.size 47 9 (w.heap.size + 1) (Sk.cells ⟨0, true, x8, k + 1⟩) ∧ Below w.heap.size w W9) := by
            rw [hW9]; exact ⟨HWX.out.1.set9 _ _ _ _ _ _ _ _ _, below_set9 HWX.out.2 (by omega) _ _ _ _ _ _ _ _ _⟩
          unfold set9 at hW9
          go_wp2_with fail
          first | rw [← hW9] | (have hW9' := hW9; simp only [Int.natCast_add, Int.cast_ofNat_Int] at hW9'; rw [← hW9'])
          exact sek_done f.xs row w W9 _ (w.heap.size + 1) rfl rfl (by rw [HX8.out.2]; exact HW9.out.1) HW9.out.2
        · have HJ8 : Hid (SekJ f w w8 fb bs gb cpb row (k + 1) ∧ seekM f.xs row = seekFrom f.xs row (bs.drop (F + (k + 1))) (k + 1)) := by
            refine ⟨HJ7.out.1.grow hb8, ?_⟩
            rw [HM.out, seek_next HX.out.1 HEs.out.2.1 (by rw [← HEs.out.1]; exact hf8)]
            rfl
          clear hb8 hf8 HJ7
          go_wp2_with fail
          go_roundw
          case rel => exact ⟨k + 1, by go_num, by omega, HJ8.out.2, HJ8.out.1⟩
          case measure => simp [intOf]; omega
      · have zk : ¬ (k : Int) < ((bs.length - F : Nat) : Int) := by omega
        have HF : Hid (seekM f.xs row = ⟨0, false, zeroE, k⟩) := by
          show seekM f.xs row = _
          rw [HM.out, seek_end (by omega)]
        have r0 := HJ.out.res.cell (j := 0) rfl
        have r1 := HJ.out.res.cell (j := 1) rfl
        have r2 := HJ.out.res.cell (j := 2) rfl
        have r3 := HJ.out.res.cell (j := 3) rfl
        have r4 := HJ.out.res.cell (j := 4) rfl
        have r5 := HJ.out.res.cell (j := 5) rfl
        have r6 := HJ.out.res.cell (j := 6) rfl
        have r7 := HJ.out.res.cell (j := 7) rfl
        have r8 := HJ.out.res.cell (j := 8) rfl
        have f0 := HJ.out.res.frozen 0
        have f1 := HJ.out.res.frozen 1
        have f2 := HJ.out.res.frozen 2
        have f3 := HJ.out.res.frozen 3
        have f4 := HJ.out.res.frozen 4
        have f5 := HJ.out.res.frozen 5
        have f6 := HJ.out.res.frozen 6
        have f7 := HJ.out.res.frozen 7
        have f8 := HJ.out.res.frozen 8
        obtain ⟨W9, hW9⟩ : ∃ W9 : World, W9 = set9 wr (w.heap.size + 1) (.int .i64 0) (.bool false) (.string ⟨#[]⟩) (.string ⟨#[]⟩) (.string ⟨#[]⟩) (.int .u64 0) (.int .i64 0) (.string ⟨#[]⟩) (.int .i64 (k : Int)) := ⟨_, rfl⟩
        have HW9 : Hid (BoxAt W9 w.heap.size 47 9 (w.heap.size + 1) (sk0 0 k) ∧ Below w.heap.size w W9) := by
          rw [hW9]; exact ⟨HJ.out.res.set9 _ _ _ _ _ _ _ _ _, below_set9 HJ.out.below (by omega) _ _ _ _ _ _ _ _ _⟩
        unfold set9 at hW9
        go_wp2_with fail
        rw [← hW9]
        exact sek_done f.xs row w W9 _ (w.heap.size + 1) rfl rfl (by rw [HF.out]; exact HW9.out.1) HW9.out.2
end Go.Proofs.YtlgeffinhbodeaeGreatDoor

/-
  The chunks of a run, by their numbers (mathematics).
-/
namespace Go.Proofs.YtlgeffinhbodeaeGreatDoor
set_option linter.unusedVariables false
set_option linter.unusedSimpArgs false

/-- A chunk's number. -/
abbrev Ck (n p : Nat) := { k : Nat // k * p < n }
def cks (n p m : Nat) : List (Ck n p) := (List.range m).filterMap (fun k => if h : k * p < n then some ⟨k, h⟩ else none)
theorem cks_succ {n p k : Nat} (h : k * p < n) : cks n p (k + 1) = cks n p k ++ [⟨k, h⟩] := by
  unfold cks
  rw [List.range_succ, List.filterMap_append]
  simp [h]
theorem cks_same {n p k : Nat} (h : ¬ k * p < n) : cks n p (k + 1) = cks n p k := by
  unfold cks
  rw [List.range_succ, List.filterMap_append]
  simp [h]
theorem cks_len (n p m : Nat) : (cks n p m).length ≤ m := by
  unfold cks
  have := List.length_filterMap_le (fun k => if h : k * p < n then some (⟨k, h⟩ : Ck n p) else none) (List.range m)
  simpa using this
def ckE (es : List Ent) (p k : Nat) : List Ent := (es.drop (k * p)).take p
theorem ckE_len (es : List Ent) (p k : Nat) : (ckE es p k).length = min p (es.length - k * p) := by
  unfold ckE; simp
theorem cks_part (es : List Ent) {p : Nat} (hp : 0 < p) : ∀ j, chunks p es = (cks es.length p j).map (fun k => ckE es p k.1) ++ chunks p (es.drop (j * p))
  | 0 => by simp [cks]
  | j + 1 => by
    rw [cks_part es hp j]
    by_cases h : j * p < es.length
    · rw [cks_succ h, List.map_append, List.append_assoc]
      congr 1
      have hd : (es.drop (j * p)).drop p = es.drop ((j + 1) * p) := by rw [List.drop_drop, Nat.add_mul, Nat.one_mul]
      by_cases h1 : p < (es.drop (j * p)).length
      · rw [chunks_more h1 hp, hd]; rfl
      · rw [chunks_last h1 (by simp; omega)]
        have h2 : es.drop ((j + 1) * p) = [] := by rw [← hd]; exact List.drop_eq_nil_of_le (by omega)
        rw [h2, chunks_nil]
        simp only [List.map_cons, List.map_nil, List.append_nil, ckE]
        rw [List.take_of_length_le (by omega)]
    · rw [cks_same h]
      have h1 : es.drop (j * p) = [] := List.drop_eq_nil_of_le (by omega)
      have h2 : es.drop ((j + 1) * p) = [] := List.drop_eq_nil_of_le (by rw [Nat.add_mul]; omega)
      rw [h1, h2]
theorem cks_all (es : List Ent) {p m : Nat} (hp : 0 < p) (hm : es.length ≤ m * p) : (cks es.length p m).map (fun k => ckE es p k.1) = chunks p es := by
  rw [cks_part es hp m, List.drop_eq_nil_of_le hm, chunks_nil, List.append_nil]
end Go.Proofs.YtlgeffinhbodeaeGreatDoor

