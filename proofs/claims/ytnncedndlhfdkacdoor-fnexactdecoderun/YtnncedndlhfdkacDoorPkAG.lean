import Derived.Deep.RegionHeld3
import Derived.Deep.RegionLaw
import Derived.Deep.AppendLies
import Derived.Test.YtnncedndlhfdkacDoorPkAF
import Derived.Test.YtnncedndlhfdkacDoorPkAE
import Derived.Test.YtnncedndlhfdkacDoorPkAA
import Derived.Test.YtnncedndlhfdkacDoorPkAB
import Derived.Test.YtnncedndlhfdkacDoorPkAC
/-
  impl.openFile.
-/
namespace Go.Proofs.YtnncedndlhfdkacDoor
open Go.ChangeShapes Go.WideShapes Go.ChangeAt Go.RowKit Go.Deep
set_option linter.unusedVariables false
set_option linter.unusedSimpArgs false
set_option maxRecDepth 100000

/-- A file's reader, as a value. -/
def fileR (v : Value) : Array Value := (tabA 256).push v
theorem fileR_size (v : Value) : (fileR v).size = 257 := by unfold fileR; rw [Array.size_push, tabA_size]
theorem fileR_one (v : Value) (hv : v.oneCell' = true) : (fileR v).all (·.oneCell') = true := by
  rw [Array.all_eq_true_iff_forall_mem]
  intro u hu
  unfold fileR at hu
  rcases Array.mem_push.1 hu with h | rfl
  · exact (Array.all_eq_true_iff_forall_mem.1 (tabA_one 256)) u h
  · exact hv
theorem fileR_tab (v : Value) (i : Nat) (hi : i < 256) : (fileR v)[i]? = some (.int .u32 ((tabE i).toNat : Int)) := by
  unfold fileR
  rw [Array.getElem?_push_lt (by rw [tabA_size]; exact hi), ← Array.getElem?_eq_getElem (by rw [tabA_size]; exact hi)]
  exact tabA_at 256 i hi hi
theorem fileR_last (v : Value) : (fileR v)[256]? = some v := by
  unfold fileR
  have := Array.getElem?_push_size (xs := tabA 256) (x := v)
  rw [tabA_size] at this
  exact this
theorem fileR_set (u v : Value) : (fileR u).setIfInBounds 256 v = fileR v := by
  apply Array.ext_getElem?
  intro i
  rcases Nat.lt_trichotomy i 256 with h | h | h
  · rw [Array.getElem?_setIfInBounds_ne (by omega), fileR_tab u i h, fileR_tab v i h]
  · subst h
    rw [fileR_last v, Array.getElem?_setIfInBounds_self, if_pos (by rw [fileR_size]; omega)]
  · rw [Array.getElem?_eq_none (by rw [Array.size_setIfInBounds, fileR_size]; omega), Array.getElem?_eq_none (by rw [fileR_size]; omega)]
theorem info_fr : (Tryd.prog.info? 49).map (fun i => (i.zero, i.size)) = some (some (.agg ((Array.replicate 256 (.int .u32 0)).push (.slice none 0 0))), 257) := by kernel_rfl
theorem hd_list : (⟨#[82, 85, 78, 49]⟩ : ByteArray).toList = [82, 85, 78, 49] := by kernel_rfl
theorem fixAt_drop (xs : List UInt8) (i : Nat) : fixAt (xs.drop i) 0 = fixAt xs i := by
  unfold fixAt
  simp only [List.getD_eq_getElem?_getD, Nat.zero_add, List.getElem?_drop, Nat.add_zero]
theorem fold_fill : ∀ (l : List Value) (k : Nat) (z : List Value), k + l.length ≤ z.length → (l.zipIdx k).foldl (fun (cs : Array Value) (p : Value × Nat) => cs.setIfInBounds (0 + p.2) p.1) z.toArray = (z.take k ++ l ++ z.drop (k + l.length)).toArray
  | [], k, z, h => by simp
  | x :: l, k, z, h => by
    simp only [List.zipIdx_cons, List.foldl_cons, Nat.zero_add, List.setIfInBounds_toArray]
    have h2 := fold_fill l (k + 1) (z.set k x) (by simp at h ⊢; omega)
    simp only [Nat.zero_add] at h2
    rw [h2]
    congr 1
    have hk : k < z.length := by simp at h; omega
    rw [List.take_add_one, List.take_set_of_le (Nat.le_refl _), List.getElem?_set_self hk]
    have h3 : (z.set k x).drop (k + 1 + l.length) = z.drop (k + (x :: l).length) := by
      rw [List.drop_set_of_lt (by omega)]
      congr 1
      simp; omega
    rw [h3]
    simp
theorem places_fr : (match Tryd.prog.underlying 49 with | some (.struct fs) => fs.toList.mapM (fun f => (Tryd.prog.info? f.type).map fun i => (f.offset, i.size)) | _ => none) = some [(0, 256), (256, 1)] := by kernel_rfl
theorem built_fr (c : Array Value) (hc : c.size = 256) : Tryd.prog.built 49 [(0, .agg c)] = some (c.push (.slice none 0 0)) := by
  have hp := places_fr
  cases hi : Tryd.prog.info? 49 with
  | none => have := info_fr; rw [hi] at this; cases this
  | some it =>
    have h1 := info_fr
    rw [hi] at h1
    simp only [Option.map_some, Option.some.injEq, Prod.mk.injEq] at h1
    cases hu : Tryd.prog.underlying 49 with
    | none => rw [hu] at hp; cases hp
    | some d =>
      rw [hu] at hp
      cases d <;> try (cases hp; done)
      case struct fs =>
        simp only [] at hp
        unfold Program.built
        rw [hi, hu]
        simp only []
        rw [h1.1, hp]
        simp only []
        show Instr.fill _ ((Array.replicate 256 (.int .u32 0)).push (.slice none 0 0)) [(0, .agg c)] = _
        unfold Instr.fill
        have hv : (Value.agg c).cells = c := rfl
        simp only [List.getElem?_toArray, List.getElem?_cons_zero, hv, hc]
        have hz : ((Array.replicate 256 (Value.int .u32 0)).push (.slice none 0 0)).size = 257 := by simp
        rw [if_neg (by simp [hz])]
        unfold Instr.fill
        congr 1
        have h3 := fold_fill c.toList 0 ((Array.replicate 256 (Value.int .u32 0)).push (.slice none 0 0)).toList (by simp [hc])
        rw [← Array.foldl_toList, Array.toList_zipIdx]
        have h4 : ((Array.replicate 256 (Value.int .u32 0)).push (.slice none 0 0)).toList.toArray = (Array.replicate 256 (Value.int .u32 0)).push (.slice none 0 0) := Array.toArray_toList
        rw [h4] at h3
        refine Eq.trans h3 ?_
        have h5 : ((Array.replicate 256 (Value.int .u32 0)).push (.slice none 0 0)).toList.drop (0 + c.toList.length) = [.slice none 0 0] := by
          simp [hc]
        rw [h5]
        apply Array.ext'
        simp
theorem wpList_enter {ops : Array Oper} {rest : List Oper} {o : Oper} {a : Act} {w : World} {Q : Exit → Act → World → Prop} (hgd : o.guard = none) (F : FuncId) (vals : Array Value) (hrun : (execOp a.eval o).run Tryd.prog w = .ok (.enter F vals) w)
    (h : Calls Tryd.prog F vals w fun e w' => match e with | .returned v => wpList Tryd.prog ops Q rest (a.put o.dst v) w' | .panicked chain => Q (.panic chain) a w' | .outgrown => False) : wpList Tryd.prog ops Q (o :: rest) a w := by
  refine wpList_plain hgd fun K hK => ?_
  unfold Oper.wp
  rw [hrun, Oper.upon_enter]
  refine h.mono ?_
  intro e w' he
  cases e with
  | returned v => exact hK _ _ he
  | panicked chain => exact he
  | outgrown => exact he.elim
theorem wpList_build_of {ops : Array Oper} {rest : List Oper} {o : Oper} {a : Act} {w : World} {Q : Exit → Act → World → Prop} (hg : o.guard = none) (t : TypeId) (parts : Array (Nat × Operand)) (ho : o.op = .build t parts) (cells : Array Value)
    (hb : Tryd.prog.built t (parts.map fun (i, x) => (i, a.eval x)).toList = some cells) (h : wpList Tryd.prog ops Q rest (a.put o.dst (.agg cells)) w) : wpList Tryd.prog ops Q (o :: rest) a w := by
  refine wpList_build hg t parts ho (by rw [hb]; rfl) ?_
  rw [hb]
  exact h
def OpP (f : FileAt) (w : World) (r : Int × List Blk) (e : Ending) (w' : World) : Prop :=
  Below w.heap.size w w' ∧ ((r.1 = 0 ∧ ∃ g cp, e = .returned (.agg (fileR (.slice (some ⟨g, 0, none⟩) r.2.length cp))) ∧ OwnF f w' w.heap.size g cp r.2) ∨ (r.1 ≠ 0 ∧ e = Corr r.1))

set_option maxHeartbeats 8000000 in
theorem openFile_core (f : FileAt) (w : World) (hE : BysAt w f.b f.off f.xs) (hb : f.b < w.heap.size) (hl : f.xs.length ≤ 2 ^ 29) (hcap : f.xs.length ≤ f.cap) (hcm : f.cap ≤ maxLen) :
    Calls Tryd.prog 17 #[.slice (some ⟨f.b, f.off, none⟩) f.xs.length f.cap] w fun e w' => OpP f w (idxM f.xs) e w' := by
  obtain ⟨R, hR⟩ : ∃ R, R = idxM f.xs := ⟨_, rfl⟩
  rw [← hR]
  have HRR : Hid (R = idxM f.xs) := hR
  have HN : Hid (f.b < w.heap.size ∧ f.xs.length ≤ 2 ^ 29 ∧ f.xs.length ≤ f.cap ∧ f.cap ≤ maxLen) := ⟨hb, hl, hcap, hcm⟩
  obtain ⟨n, hn⟩ : ∃ n, n = f.xs.length := ⟨_, rfl⟩
  have HNn : Hid (n = f.xs.length) := hn
  have hzv := (zero_of_info info_fr).1
  obtain ⟨W, hW⟩ : ∃ W : World, W = w.alloc (Obj.cells ((Array.replicate 256 (.int .u32 0)).push (.slice none 0 0)) 49) := ⟨_, rfl⟩
  have HW : Hid (Below w.heap.size w W ∧ W.heap[w.heap.size]? = some (.cells ((Array.replicate 256 (.int .u32 0)).push (.slice none 0 0)) 49 (0, 0))) := by
    rw [hW]; exact ⟨(Below.refl _ _).alloc (Nat.le_refl _) _, heap_alloc_last w _⟩
  have HX : Hid (BysAt W f.b f.off f.xs) := hE.below HW.out.1 hb
  rw [← hn]
  have hl2 : n ≤ 536870912 := by omega
  have hc2 : n ≤ f.cap := by omega
  clear hE hb hl hcap hcm hR hn
  go_enter Tryd.func17, Tryd.ntmps17
  go_upto_region 1 with fail
  rw [← hW]
  clear hW hzv
  by_cases h13 : 13 ≤ n
  case neg =>
    have HR2 : Hid (R = (1, [])) := by
      show R = _
      rw [HRR.out]; unfold idxM; rw [if_pos (.inl (by rw [← HNn.out]; omega))]
    have z1 : ¬ (13 : Int) ≤ (n : Int) := by omega
    go_wp2_with fail
    refine (demand_core _ _ _).mono ?_
    rintro e w7 ⟨rfl, (⟨hc, rfl⟩ | ⟨hc, rfl⟩)⟩
    · exfalso
      simp at hc <;> omega
    · exact ⟨rfl, HW.out.1, .inr ⟨by rw [HR2.out]; simp, by rw [HR2.out]⟩⟩
  have z1 : (13 : Int) ≤ (n : Int) := by omega
  have z4 : (4 : Int) ≤ (f.cap : Int) := by omega
  have hcv := Lib.run_convert_window (P := Tryd.prog) W 22 5 9 Tryd.underlying22 Tryd.underlying5 Tryd.underlying9 f.b f.off ⟨f.xs.toArray⟩ (bytes_of_bys HX.out) 0 4 f.cap (by show 0 + 4 ≤ f.xs.toArray.size; simp; have := HNn.out; omega)
  obtain ⟨hs, hhs⟩ : ∃ hs : ByteArray, hs = (⟨f.xs.toArray⟩ : ByteArray).extract 0 (0 + 4) := ⟨_, rfl⟩
  have HHs : Hid (bl hs = f.xs.take 4) := by
    show bl hs = _
    rw [hhs]
    show ((⟨f.xs.toArray⟩ : ByteArray).extract 0 (0 + 4)).data.toList = _
    rw [Lib.extract_data]
    rfl
  rw [← hhs, Nat.add_zero] at hcv
  clear hhs
  go_wp2_with fail
  refine (demand_core _ _ _).mono ?_
  rintro e w7 ⟨hw7, (⟨hc, rfl⟩ | ⟨hc, rfl⟩)⟩
  case inr =>
    have hq : f.xs.take 4 ≠ headB := by
      intro q
      rw [← HHs.out] at q
      have h1 : hs = ⟨#[82, 85, 78, 49]⟩ := bytes_inj q
      rw [h1, hd_list] at hc
      exact absurd hc (by decide)
    have HR2 : Hid (R = (1, [])) := by
      show R = _
      rw [HRR.out]; unfold idxM; rw [if_pos (.inr hq)]
    rw [hw7]
    exact ⟨rfl, HW.out.1, .inr ⟨by rw [HR2.out]; simp, by rw [HR2.out]⟩⟩
  have HH : Hid (¬ (f.xs.length < 13 ∨ f.xs.take 4 ≠ headB)) := by
    rintro (q | q)
    · rw [← HNn.out] at q; omega
    · apply q
      have h1 : hs.toList = (⟨#[82, 85, 78, 49]⟩ : ByteArray).toList := by rw [hd_list]; simpa using hc
      rw [← HHs.out, toList_inj h1]
      rfl
  rw [hw7]
  clear hc hw7 hcv HHs z4
  -- where the index begins
  obtain ⟨m, hm⟩ : ∃ m, m = fixAt f.xs (n - 4) := ⟨_, rfl⟩
  have hm32 : m < 4294967296 := by rw [hm]; exact fixAt_lt _ _
  have HM : Hid (m = fixAt f.xs (n - 4)) := hm
  have HFx : Hid (∀ w', Below W.heap.size W w' → Calls Tryd.prog 33 #[.slice (some ⟨f.b, f.off + (n - 4), none⟩) (n - (n - 4)) (f.cap - (n - 4))] w' fun e w'' => e = .returned (.int .u32 (m : Int)) ∧ Below w'.heap.size w' w'') := fun w' hb' => by
    have hlt : f.b < W.heap.size := by have := HN.out.1; have := HW.out.1.size; omega
    have h1 := fixedOf_core f.b (f.off + (n - 4)) (f.cap - (n - 4)) (f.xs.drop (n - 4)) w' ((HX.out.below hb' hlt).drop (n - 4)) (by rw [List.length_drop, ← HNn.out]; omega) (by rw [List.length_drop, ← HNn.out]; omega)
    have h2 : (f.xs.drop (n - 4)).length = n - (n - 4) := by rw [List.length_drop, ← HNn.out]
    rw [h2, fixAt_drop, ← HM.out] at h1
    exact h1
  clear hm
  go_wp2_with fail
  refine (HFx.out W (Below.refl _ _)).mono ?_
  rintro e w1 ⟨rfl, hb1⟩
  have HB1 : Hid (Below W.heap.size W w1) := hb1
  clear hb1 HFx
  go_wp2_with fail
  refine (demand_core _ _ _).mono ?_
  rintro e w7 ⟨hw7, (⟨hc, rfl⟩ | ⟨hc, rfl⟩)⟩
  case inr =>
    have hlt : f.xs.length < fixAt f.xs (f.xs.length - 4) + 12 := by
      rw [← HNn.out, ← HM.out]
      have := of_decide_eq_false hc
      omega
    have HR2 : Hid (R = (1, [])) := by
      show R = _
      rw [HRR.out]; unfold idxM; rw [if_neg HH.out, if_pos hlt]
    rw [hw7]
    exact ⟨rfl, HW.out.1.trans (HB1.out.mono HW.out.1.size), .inr ⟨by rw [HR2.out]; simp, by rw [HR2.out]⟩⟩
  have h12 : m + 12 ≤ n := by have := of_decide_eq_true hc; omega
  rw [hw7]
  clear hc hw7
  obtain ⟨lim, hlim⟩ : ∃ lim, lim = n - 8 - m := ⟨_, rfl⟩
  obtain ⟨sm, hsm⟩ : ∃ sm, sm = n - 8 := ⟨_, rfl⟩
  have e1 : (n : Int) - 8 - (m : Int) = (lim : Int) := by omega
  have e2 : (n : Int) - 8 = (sm : Int) := by omega
  rw [e1, e2]
  have HL : Hid (lim = n - 8 - m ∧ sm = n - 8) := ⟨hlim, hsm⟩
  have hA : 4 ≤ lim ∧ lim + m = sm ∧ sm + 8 = n := by omega
  have HA : Hid (4 ≤ lim ∧ lim + m = sm ∧ sm + 8 = n) := hA
  clear hlim hsm e1 e2
  have hk1 : lim ≤ sm := by omega
  have hk2 : sm ≤ f.cap := by omega
  clear hA h12
  go_upto_region 5 with fail
  apply wp_region_list
  refine wpList_enter rfl 34 #[] (by simp [execOp, go_sem, Tryd.func34]) ?_
  refine (makeTable_core _).mono ?_
  rintro e w2 ⟨rfl, hb2⟩
  simp only [Act.put, List.setIfInBounds_toArray, List.set_cons_succ, List.set_cons_zero]
  refine wpList_build_of rfl _ _ rfl (fileR (.slice none 0 0)) (by simp [Act.eval]; exact built_fr _ (tabA_size 256)) ?_
  simp only [Act.put, List.setIfInBounds_toArray, List.set_cons_succ, List.set_cons_zero]
  have hzv := (zero_of_info info_fr).1
  have hsz := fileR_size (.slice none 0 0)
  have hsc := run_storeCells_new (P := Tryd.prog) w2 49 ((Array.replicate 256 (.int .u32 0)).push (.slice none 0 0)) (fileR (.slice none 0 0)) (by rw [fileR_size]; exact (zero_of_info info_fr).2) (by rw [fileR_size]; simp) (fileR_one _ rfl)
  have hk3 : ¬ f.cap = lim := by have := HA.out; omega
  have hk4 : lim ≤ f.cap := by omega
  go_wp2_with fail
  have hb3 : Below w.heap.size w (w2.alloc (.cells (fileR (.slice none 0 0)) 49)) := by
    have h1 := (HW.out.1.trans (HB1.out.mono HW.out.1.size)).trans (hb2.mono (Nat.le_trans HW.out.1.size HB1.out.size))
    exact h1.alloc h1.size _
  obtain ⟨W3, hW3⟩ : ∃ W3 : World, W3 = w2.alloc (.cells (fileR (.slice none 0 0)) 49) := ⟨_, rfl⟩
  have HW3 : Hid (Below w.heap.size w W3 ∧ W3.heap[w2.heap.size]? = some (.cells (fileR (.slice none 0 0)) 49 (0, 0)) ∧ Below W.heap.size W W3 ∧ w.heap.size < w2.heap.size ∧ W3.heap[w.heap.size]? = some (.cells ((Array.replicate 256 (.int .u32 0)).push (.slice none 0 0)) 49 (0, 0))) := by
    rw [hW3]
    have hs1 := HB1.out.size
    have hs2 := hb2.size
    have hs0 := HW.out.2
    have hs9 : w.heap.size < W.heap.size := (Array.getElem?_eq_some_iff.1 hs0).1
    have hbb : Below W.heap.size W (w2.alloc (.cells (fileR (.slice none 0 0)) 49)) := (HB1.out.trans (hb2.mono hs1)).alloc (by omega) _
    exact ⟨hb3, heap_alloc_last w2 _, hbb, by omega, (hbb.block _ hs9).trans hs0⟩
  rw [← hW3]
  clear hzv hsz hsc hb3 hW3 hb2
  have HT : Hid (TabAt W3 w2.heap.size 0) := by
    intro i hi
    rw [Nat.zero_add, cell_of_row _ _ i _ _ _ HW3.out.2.1]
    exact fileR_tab _ i hi
  obtain ⟨cx, hcx⟩ : ∃ cx, cx = (crc (span f.xs lim sm)).toNat := ⟨_, rfl⟩
  obtain ⟨fx, hfx⟩ : ∃ fx, fx = fixAt f.xs sm := ⟨_, rfl⟩
  have HCrc : Hid (∀ u : Out W3, Calls Tryd.prog 35 #[.pointer (some ⟨w2.heap.size, 0, none⟩), .slice (some ⟨f.b, f.off + lim, none⟩) (sm - lim) (f.cap - lim)] u.u fun e w' => e = .returned (.int .u32 (cx : Int)) ∧ Below u.u.heap.size u.u w') := fun u => by
    have hN := HN.out
    have hA := HA.out
    have hz := HW3.out.1.size
    have hlt := (Array.getElem?_eq_some_iff.1 HW3.out.2.1).1
    have hl := span_len (xs := f.xs) (p := lim) (lim := sm) (by rw [← HNn.out]; omega)
    have h1 := tableOf_core w2.heap.size 0 f.b (f.off + lim) (f.cap - lim) (span f.xs lim sm) u.u (HT.out.below u.out hlt) ((((HX.out.below HW3.out.2.2.1 (by have := HW.out.1.size; omega)).below u.out (by omega)).drop lim).take (sm - lim)) (by rw [hl]; unfold maxLen; omega)
    rw [hl, ← hcx] at h1
    exact h1.mono fun e w' ⟨he, hw⟩ => ⟨he, hw ▸ Below.refl _ _⟩
  have HFix : Hid (∀ u : Out W3, Calls Tryd.prog 33 #[.slice (some ⟨f.b, f.off + sm, none⟩) (n - sm) (f.cap - sm)] u.u fun e w' => e = .returned (.int .u32 (fx : Int)) ∧ Below u.u.heap.size u.u w') := fun u => by
    have hN := HN.out
    have hA := HA.out
    have hz := HW3.out.1.size
    have h2 : (f.xs.drop sm).length = n - sm := by rw [List.length_drop, ← HNn.out]
    have h1 := fixedOf_core f.b (f.off + sm) (f.cap - sm) (f.xs.drop sm) u.u (((HX.out.below HW3.out.2.2.1 (by have := HW.out.1.size; omega)).below u.out (by omega)).drop sm) (by rw [h2]; omega) (by rw [h2]; omega)
    rw [h2, fixAt_drop, ← hfx] at h1
    exact h1
  have HCx : Hid (R = if cx ≠ fx then (2, []) else idxBody f.xs.length lim ((f.xs.drop lim).take m)) := by
    have hA := HA.out
    have h12 : ¬ f.xs.length < fixAt f.xs (f.xs.length - 4) + 12 := by rw [← HNn.out, ← HM.out]; omega
    have el : f.xs.length - 8 - fixAt f.xs (f.xs.length - 4) = lim := by rw [← HNn.out, ← HM.out, HL.out.1]
    have es : f.xs.length - 8 = sm := by rw [← HNn.out, HL.out.2]
    have em : fixAt f.xs (f.xs.length - 4) = m := by rw [← HNn.out, ← HM.out]
    have ep : (f.xs.drop lim).take m = span f.xs lim sm := by unfold span; congr 1; omega
    show R = _
    rw [HRR.out]; unfold idxM; rw [if_neg HH.out, if_neg h12, em, show f.xs.length - 8 - m = lim by rw [← em, el], es, ep, hcx, hfx]
  clear hcx hfx
  have zsm : (sm : Int) ≤ (n : Int) := by have := HA.out; omega
  have hk5 : ¬ f.cap = sm := by have := HA.out; omega
  by_cases hce : cx = fx
  case neg =>
    have HR2 : Hid (R = (2, [])) := by
      show R = _
      rw [HCx.out, if_pos hce]
    have z9 : ¬ (cx : Int) = (fx : Int) := by omega
    refine wp_region_demand 46 45 (.const (.int .i64 2)) 2 [(45, .bool false)] rfl (fun m => by kernel_rfl) (by kernel_rfl) (fun a' h => ⟨h (45, _) (by simp), rfl⟩) ?q ?_
    case q => exact fun a' w' hb hd => ⟨hd, HW3.out.1.trans (hb.mono HW3.out.1.size), .inr ⟨by rw [HR2.out]; simp, by rw [HR2.out]⟩⟩
    intro m
    dsimp only [List.dropLast, fk, List.cons_append, List.nil_append]
    repeat (go_big_quiet_step ((first | rfl | (go_at_call 35; exact Calls.out_of (HCrc.out _)) | (go_at_call 33; exact Calls.out_of (HFix.out _)))))
    refine wpQuiet_nil ?_
    exact ⟨rfl, slots1 (congrArg Value.bool (beq_eq_false_iff_ne.2 z9))⟩
  subst hce
  have HI0 : Hid (R = idxBody f.xs.length lim ((f.xs.drop lim).take m)) := by
    show R = _
    rw [HCx.out, if_neg (fun q => q rfl)]
  refine wp_region_out (by kernel_rfl) (by kernel_rfl) ?_
  repeat (go_big_quiet_step ((first | rfl | (go_at_call 35; exact Calls.out_of (HCrc.out _)) | (go_at_call 33; exact Calls.out_of (HFix.out _)) | (go_at_call 19; exact Calls.out_of ((demand_yes _ _).mono fun e w' ⟨he, hw⟩ => ⟨he, hw ▸ Below.refl _ _⟩)))))
  refine wpQuiet_nil ?_
  rintro w4 ⟨⟨wx, hb4⟩, rfl⟩
  have hg2 := (Array.getElem?_eq_some_iff.1 HW3.out.2.1).1
  have HW4 : Hid (Below w.heap.size w w4 ∧ w4.heap[w2.heap.size]? = some (.cells (fileR (.slice none 0 0)) 49 (0, 0)) ∧ w4.heap[w.heap.size]? = some (.cells ((Array.replicate 256 (.int .u32 0)).push (.slice none 0 0)) 49 (0, 0)) ∧ BysAt w4 f.b f.off f.xs) := by
    have hN := HN.out.1
    have hz := HW3.out.1.size
    refine ⟨HW3.out.1.trans (hb4.mono HW3.out.1.size), (hb4.block _ hg2).trans HW3.out.2.1, (hb4.block _ (by have := HW3.out.2.2.2.1; omega)).trans HW3.out.2.2.2.2, (HX.out.below HW3.out.2.2.1 (by have := HW.out.1.size; omega)).below hb4 (by omega)⟩
  have HNe : Hid (w.heap.size < w2.heap.size) := HW3.out.2.2.2.1
  clear hb4 hg2 HCrc HFix HT HCx HW3 HX HW HB1
  go_upto_region 8 with fail
  have hrb := readBlocks_core f lim m (f.cap - lim) w4 HW4.out.2.2.2 (by have := HN.out.1; have := HW4.out.1.size; omega) HN.out.2.1 HA.out.1 (by rw [← HNn.out]; have := HA.out; omega) HN.out.2.2.1 HN.out.2.2.2 rfl
  rw [← HI0.out] at hrb
  have hm2 : sm - lim = m := by have := HA.out; omega
  rw [← hm2] at hrb
  have HRb : Hid (Calls Tryd.prog 36 #[.slice (some ⟨f.b, f.off + lim, none⟩) (sm - lim) (f.cap - lim), .slice (some ⟨f.b, f.off + 4, none⟩) (lim - 4) (f.cap - 4)] w4 fun e w' => RbP f w4 R e w') := hrb
  have z4a : (4 : Int) ≤ (lim : Int) := by have := HA.out; omega
  have z4b : ¬ f.cap = 4 := by have := HA.out; omega
  clear hrb hm2
  go_wp2_with fail
  refine HRb.out.mono ?_
  rintro e w5 ⟨hb5, (⟨hR0, g, cp, rfl, hO5⟩ | ⟨hR0, rfl⟩)⟩
  case inr => exact ⟨rfl, HW4.out.1.trans (hb5.mono HW4.out.1.size), .inr ⟨hR0, rfl⟩⟩
  have hgz := (Array.getElem?_eq_some_iff.1 HW4.out.2.1).1
  have hgw := (Array.getElem?_eq_some_iff.1 HW4.out.2.2.1).1
  have HW5 : Hid (Below w.heap.size w w5 ∧ w5.heap[w2.heap.size]? = some (.cells (fileR (.slice none 0 0)) 49 (0, 0)) ∧ w5.heap[w.heap.size]? = some (.cells ((Array.replicate 256 (.int .u32 0)).push (.slice none 0 0)) 49 (0, 0)) ∧ OwnF f w5 w.heap.size g cp R.2 ∧ R.1 = 0 ∧ w2.heap.size < g) := by
    have hg := hO5.lt
    exact ⟨HW4.out.1.trans (hb5.mono HW4.out.1.size), (hb5.block _ hgz).trans HW4.out.2.1, (hb5.block _ hgw).trans HW4.out.2.2.1, hO5.mono HW4.out.1.size, hR0, by omega⟩
  have c0 : w5.cell? ⟨w2.heap.size, 256, none⟩ = some (.slice none 0 0) := by
    rw [cell_of_row _ _ 256 _ _ _ HW5.out.2.1]; exact fileR_last _
  have f0 : w5.frozen? ⟨w2.heap.size, 256, none⟩ = false := by
    simp [World.frozen?, HW5.out.2.1]
  clear hb5 hO5 hR0 hgz hgw HRb HW4
  obtain ⟨sv, hsv⟩ : ∃ sv : Value, sv = .slice (some ⟨g, 0, none⟩) R.2.length cp := ⟨_, rfl⟩
  obtain ⟨W6, hW6⟩ : ∃ W6 : World, W6 = w5.setCell ⟨w2.heap.size, 256, none⟩ (.slice (some ⟨g, 0, none⟩) R.2.length cp) := ⟨_, rfl⟩
  have hne : w.heap.size ≠ w2.heap.size := by have := HNe.out; omega
  have hw6 : W6.heap[w2.heap.size]? = some (.cells (fileR sv) 49 (0, 0)) := by
    rw [hW6, heap_setCell_same _ _ _ _ _ _ HW5.out.2.1, hsv]
    rw [fileR_set]
  have hw6r : W6.heap[w.heap.size]? = some (.cells ((Array.replicate 256 (.int .u32 0)).push (.slice none 0 0)) 49 (0, 0)) := by
    rw [hW6, heap_setCell_other _ _ _ _ hne]; exact HW5.out.2.2.1
  have hb6 : Below w.heap.size w W6 := by rw [hW6]; exact HW5.out.1.setCell (p := ⟨w2.heap.size, 256, none⟩) (Nat.le_of_lt HNe.out) _
  have hO6 : OwnF f W6 w.heap.size g cp R.2 := by
    rw [hW6]
    exact HW5.out.2.2.2.1.chg (Chg.of_set w5 w2.heap.size 256 _ (S := fun k => k = w2.heap.size) rfl) (by have := HW5.out.2.2.2.2.2; omega)
  have hi : (Tryd.prog.info? 49).map (·.size) = some 257 := (zero_of_info info_fr).2
  have hon : (fileR sv).all (·.oneCell') = true := fileR_one _ (by rw [hsv]; rfl)
  have HR0 : Hid (R.1 = 0) := HW5.out.2.2.2.2.1
  have HGg : Hid (w.heap.size < g) := Nat.lt_trans HNe.out HW5.out.2.2.2.2.2
  go_upto_region 9 with fail
  rw [← hW6]
  clear hW6 c0 f0 HW5
  apply wp_region_list
  refine wpList_load_row rfl 49 _ rfl w2.heap.size rfl 49 (fileR sv) (0, 0) _ hw6 Tryd.underlying49 rfl (by rw [fileR_size]; exact hi) ?_
  refine wpList_store_row rfl 49 _ _ rfl w.heap.size (fileR sv) rfl rfl 49 ((Array.replicate 256 (.int .u32 0)).push (.slice none 0 0)) hw6r (by rw [fileR_size]; exact hi) (by rw [fileR_size]; simp) hon ?_
  have hr := setRow_heap _ _ _ (fileR sv) _ _ hw6r
  have hb7 := Below.setRow hb6 (Nat.le_refl _) (fileR sv)
  have hO7 : OwnF f (W6.setRow w.heap.size (fileR sv)) w.heap.size g cp R.2 := by
    have hgn : ¬ g = w.heap.size := by have := HGg.out; omega
    exact hO6.chg (S := fun k => k = w.heap.size) ⟨rfl, rfl, rfl, by simp, fun k hk hn => setRow_other _ _ _ _ hn⟩ hgn
  obtain ⟨W7, hW7⟩ : ∃ W7, W7 = W6.setRow w.heap.size (fileR sv) := ⟨_, rfl⟩
  rw [← hW7] at hb7 hO7 hr ⊢
  clear hW7 hw6 hw6r hb6 hO6
  apply wpList_nil
  go_wp2_with fail
  refine bodyPost_ret (v := .agg (fileR sv)) (results_cell_row rfl _ _ w.heap.size _ _ _ _ rfl hr Tryd.underlying49 rfl (by rw [fileR_size]; exact hi)) rfl ⟨hb7, .inl ⟨HR0.out, g, cp, by rw [hsv], hO7⟩⟩
end Go.Proofs.YtnncedndlhfdkacDoor

/-
  spec.DecodeRun.
-/
namespace Go.Proofs.YtnncedndlhfdkacDoor
open Go.ChangeShapes Go.WideShapes Go.ChangeAt Go.RowKit Go.Deep
set_option linter.unusedVariables false
set_option linter.unusedSimpArgs false
set_option maxRecDepth 100000

/-- Blocks read so far. -/
theorem decBlks_more {xs : List UInt8} : ∀ (l k : List Blk), (decBlks xs l).1 = 0 → decBlks xs (l ++ k) = if (decBlks xs k).1 ≠ 0 then ((decBlks xs k).1, []) else (0, (decBlks xs l).2 ++ (decBlks xs k).2)
  | [], k, _ => by
    simp only [List.nil_append, decBlks]
    by_cases h : (decBlks xs k).1 = 0
    · rw [if_neg (fun q => q h)]
      have : decBlks xs k = ((decBlks xs k).1, (decBlks xs k).2) := rfl
      rw [this, h]
    · rw [if_pos h]
      cases k with
      | nil => simp [decBlks] at h
      | cons b bs =>
        rw [decBlks] at h ⊢
        split
        · rfl
        · next h1 =>
          rw [if_neg h1] at h
          split
          · rfl
          · next h2 => rw [if_neg h2] at h; exact absurd rfl h
  | b :: l, k, h => by
    rw [List.cons_append, decBlks]
    rw [decBlks] at h
    by_cases h1 : (blkM xs b).1 = 0
    · rw [if_neg (fun q => q h1)] at h ⊢
      by_cases h2 : (decBlks xs l).1 = 0
      · have ih := decBlks_more l k h2
        by_cases h3 : (decBlks xs k).1 = 0
        · rw [if_neg (fun q => q h3)] at ih
          rw [ih]
          simp [decBlks, h1, h2, h3]
        · rw [if_pos h3] at ih
          rw [ih]
          simp [h3]
      · rw [if_pos h2] at h
        exact absurd h h2
    · rw [if_pos h1] at h
      exact absurd h h1
theorem decBlks_one {xs : List UInt8} (b : Blk) : decBlks xs [b] = if (blkM xs b).1 ≠ 0 then ((blkM xs b).1, []) else (0, (blkM xs b).2) := by
  simp [decBlks]

theorem idx_many {xs : List UInt8} {err : Int} {bs : List Blk} (h : (err, bs) = idxM xs) : bs.length ≤ 10000 := by
  have h2 : bs = (idxM xs).2 := by rw [← h]
  rw [h2]
  unfold idxM
  split
  · simp
  split
  · simp
  split
  · simp
  unfold idxBody
  split
  · simp
  · split
    · simp
    · unfold idxEnd
      split
      · simp
      · next heq =>
        split
        · simp
        · have := (getBlks_in _ _ _ _ _ _ heq (Nat.le_refl _)).2
          simp only []
          omega
theorem getEnts_many : ∀ (k : Nat) (b t : List UInt8) (l : List Ent) (t1 : List UInt8), getEnts k b t = some (l, t1) → l.length = k
  | 0, b, t, l, t1, h => by
    simp only [getEnts, Option.some.injEq, Prod.mk.injEq] at h
    rw [← h.1]; rfl
  | k + 1, b, t, l, t1, h => by
    rw [getEnts] at h
    cases ho : getEnt b t with
    | none => rw [ho] at h; cases h
    | some q =>
      obtain ⟨e, t2⟩ := q
      rw [ho] at h
      simp only [] at h
      cases hg : getEnts k (bl e.row) t2 with
      | none => rw [hg] at h; cases h
      | some q =>
        obtain ⟨l', t3⟩ := q
        rw [hg] at h
        simp only [Option.some.injEq, Prod.mk.injEq] at h
        rw [← h.1, List.length_cons, getEnts_many k _ _ _ _ hg]
theorem blk_many {xs : List UInt8} {err : Int} {es : List Ent} {k : Blk} {n : Nat} (h : (err, es) = blkM xs k) (hk : k.in n) : es.length ≤ 1000 := by
  have h2 : es = (blkM xs k).2 := by rw [← h]
  rw [h2]
  unfold blkM
  split
  · simp
  · unfold entEnd
    split
    · simp
    · next heq =>
      split
      · simp
      · have := getEnts_many _ _ _ _ _ heq
        have := hk.2.2.2.2
        simp only []
        omega
/-- What DecodeRun hands back. -/
def DecPost (w : World) (xs : List UInt8) (r : Ending) (w' : World) : Prop :=
  ∃ (err : Int) (u : Value) (es : List Ent), r = .returned (.agg #[.int .i64 err, u]) ∧ (err, es) = decM xs ∧ OwnU w' w.heap.size u es ∧ (∀ e ∈ es, e.ok) ∧ Below w.heap.size w w'

set_option maxHeartbeats 2000000 in
theorem specDec_core (b off cap : Nat) (xs : List UInt8) (w : World) (hx : BysAt w b off xs) (hb : b < w.heap.size) (hlen : xs.length ≤ 2 ^ 30) (hcap : xs.length ≤ cap) (hcm : cap ≤ maxLen) :
    Calls Tryd.prog 4 #[.slice (some ⟨b, off, none⟩) xs.length cap] w fun r w' => DecPost w xs r w' := by
  obtain ⟨W1, hW1⟩ : ∃ W1 : World, W1 = w.alloc (Obj.cells #[.int .i64 0, .slice none 0 0] 27) := ⟨_, rfl⟩
  have hb1 : Below w.heap.size w W1 := by rw [hW1]; exact (Below.refl _ _).alloc (Nat.le_refl _) _
  have z1 : W1.heap.size = w.heap.size + 1 := by rw [hW1]; simp
  have HB1 : Hid (BoxAt W1 w.heap.size 27 2 w.heap.size [.int .i64 0, .slice none 0 0]) := by rw [hW1]; exact boxAt_new w _ (Nat.le_refl _) rfl
  have HX : Hid (∀ w' : World, Below w.heap.size w w' → BysAt w' b off xs) := fun w' h => hx.below h hb
  have HL : Hid (xs.length ≤ 2 ^ 30 ∧ xs.length ≤ cap ∧ cap ≤ maxLen) := ⟨hlen, hcap, hcm⟩
  clear hx hlen hcap hcm
  go_enter Tryd.func4, Tryd.ntmps4
  go_upto_region 1 with fail
  rw [← hW1]
  clear hW1
  go_wp2_with fail
  refine (l2Index_core b off cap xs W1 (HX.out W1 hb1) (by omega) HL.out.1 HL.out.2.1 HL.out.2.2).mono ?_
  rintro r w2 ⟨gi, ci, err, bs, rfl, hI, hO2, hb2⟩
  have s2 := hb2.size
  have k2 : Below w.heap.size w w2 := hb1.trans (hb2.mono (by omega))
  have HI : Hid ((err, bs) = idxM xs) := hI
  have HB2 : Hid (BoxAt w2 w.heap.size 27 2 w.heap.size [.int .i64 0, .slice none 0 0] ∧ OwnI w2 W1.heap.size gi ci bs) := ⟨HB1.out.below hb2, hO2⟩
  have hgi := hO2.lt
  have HIn : Hid (∀ k ∈ bs, k.in xs.length) := by
    intro k hk
    have h := idxM_in xs
    rw [← HI.out] at h
    exact h k hk
  have hbl : bs.length ≤ 10000 := idx_many HI.out
  clear hI hO2 hb2 HB1
  by_cases herr : ¬ err = 0
  · have HD : Hid ((err, []) = decM xs) := by
      show (err, []) = decM xs
      unfold decM
      rw [← HI.out, if_pos herr]
    obtain ⟨WZ, hWZ⟩ : ∃ V : World, V = (w2.setCell ⟨w.heap.size, 0, none⟩ (.int .i64 err)).setCell ⟨w.heap.size, 1, none⟩ (.slice none 0 0) := ⟨_, rfl⟩
    have hBZ : BoxAt WZ w.heap.size 27 2 w.heap.size [.int .i64 err, .slice none 0 0] := by rw [hWZ]; exact (HB2.out.1.set 0 _).set 1 _
    have kZ : Below w.heap.size w WZ := by rw [hWZ]; exact below_set (below_set k2 (Nat.le_refl _) _ _) (Nat.le_refl _) _ _
    have f0 := HB2.out.1.frozen 0
    have f1 := HB2.out.1.frozen 1
    have q0 := HB2.out.1.cell (j := 0) rfl
    have q1 := HB2.out.1.cell (j := 1) rfl
    have p0 := hBZ.cell (j := 0) rfl
    have p1 := hBZ.cell (j := 1) rfl
    go_wp2_with fail
    rw [← hWZ]
    exact bodyPost_ret (v := .agg #[.int .i64 err, .slice none 0 0]) (by simp [results, Tryd.results4, go_sem, p0, p1]) rfl ⟨err, _, [], rfl, HD.out, .inl ⟨rfl, rfl⟩, fun e he => by simp at he, kZ⟩
  replace herr := Decidable.not_not.1 herr
  subst herr
  obtain ⟨W3, hW3⟩ : ∃ W3 : World, W3 = w2.alloc (Obj.cells #[] 67) := ⟨_, rfl⟩
  have hb3 : Below w2.heap.size w2 W3 := by rw [hW3]; exact (Below.refl _ _).alloc (Nat.le_refl _) _
  have HO3 : Hid (OwnE W3 w2.heap.size w2.heap.size 0 []) := by rw [hW3]; exact World.ownsRow_made w2 #[] 0 (Nat.le_refl _) (Nat.zero_le _) (by simp)
  go_upto_region 6 with fail
  rw [← hW3]
  clear hW3
  obtain ⟨NX, hNX⟩ : ∃ N : Nat, xs.length = N := ⟨_, rfl⟩
  have HNX : Hid (xs.length = NX) := hNX
  rw [hNX]
  clear hNX
  go_loopw [5, 6] (fun o i wr => ∃ (k g cp : Nat) (l : List Ent), k ≤ bs.length ∧ o = .slice (some ⟨g, 0, none⟩) l.length cp ∧ i = .int .i64 (k : Int) ∧ decBlks xs (bs.take k) = (0, l) ∧ l.length ≤ 1000 * k ∧ (∀ e ∈ l, e.ok) ∧ OwnE wr w2.heap.size g cp l ∧ Below w2.heap.size w2 wr) (fun _ i _ => bs.length - (intOf i).toNat)
  case atStart => exact ⟨0, _, 0, [], Nat.zero_le _, rfl, rfl, rfl, Nat.zero_le _, fun e he => by simp at he, HO3.out, hb3⟩
  case round =>
    clear HO3 hb3
    obtain ⟨k, g, cp, l, hk, rfl, rfl, hd, hl, hok, hO, hbr⟩ := hrel
    have HS : Hid (decBlks xs (bs.take k) = (0, l) ∧ (∀ e ∈ l, e.ok) ∧ OwnE wr w2.heap.size g cp l) := ⟨hd, hok, hO⟩
    have hgl := hO.lt
    have sr := hbr.size
    have kr : Below w.heap.size w wr := k2.trans (hbr.mono (by omega))
    have HBr : Hid (BoxAt wr w.heap.size 27 2 w.heap.size [.int .i64 0, .slice none 0 0]) := HB2.out.1.chg (Chg.of_below hbr) (S := fun _ => False) (fun q => q)
    clear hd hok hO
    by_cases hlt : k < bs.length
    · obtain ⟨⟨fr, til, cnt, row⟩, he⟩ : ∃ e, bs[k]? = some e := ⟨_, List.getElem?_eq_getElem hlt⟩
      obtain ⟨c0, c1, c2, c3⟩ := HB2.out.2.at he
      have HBk : Hid (bs.drop k = ⟨fr, til, cnt, row⟩ :: bs.drop (k + 1) ∧ bs.take (k + 1) = bs.take k ++ [⟨fr, til, cnt, row⟩] ∧ (⟨fr, til, cnt, row⟩ : Blk).in xs.length) := by
        refine ⟨by rw [List.drop_eq_getElem_cons hlt, (List.getElem?_eq_some_iff.1 he).2], by rw [List.take_add_one, he]; rfl, HIn.out _ (List.mem_of_getElem? he)⟩
      have hgw : gi < w2.heap.size := hgi.2
      have d0 : wr.cell? ⟨gi, k * 4, none⟩ = some (.int .i64 (fr : Int)) := by rw [hbr.cell (p := ⟨gi, k * 4, none⟩) hgw]; exact c0
      have d1 : wr.cell? ⟨gi, k * 4 + 1, none⟩ = some (.int .i64 (til : Int)) := by rw [hbr.cell (p := ⟨gi, k * 4 + 1, none⟩) hgw]; exact c1
      have d2 : wr.cell? ⟨gi, k * 4 + 2, none⟩ = some (.int .i64 (cnt : Int)) := by rw [hbr.cell (p := ⟨gi, k * 4 + 2, none⟩) hgw]; exact c2
      have d3 : wr.cell? ⟨gi, k * 4 + 3, none⟩ = some (.string row) := by rw [hbr.cell (p := ⟨gi, k * 4 + 3, none⟩) hgw]; exact c3
      clear c0 c1 c2 c3 he
      have hec := l2Entries_core b off cap xs ⟨fr, til, cnt, row⟩ wr (HX.out wr kr) (by omega) HL.out.1 HL.out.2.1 HL.out.2.2 HBk.out.2.2
      rw [HNX.out] at hec
      go_wp2_with fail
      clear d0 d1 d2 d3
      refine hec.mono ?_
      rintro r w4 ⟨g4, c4, e4, es, rfl, h4, hO4, hok4, hb4⟩
      have HE4 : Hid ((e4, es) = blkM xs ⟨fr, til, cnt, row⟩ ∧ (∀ e ∈ es, e.ok) ∧ OwnE w4 wr.heap.size g4 c4 es) := ⟨h4, hok4, hO4⟩
      have hg4 := hO4.lt
      have s4 := hb4.size
      have HB4 : Hid (BoxAt w4 w.heap.size 27 2 w.heap.size [.int .i64 0, .slice none 0 0] ∧ OwnE w4 w2.heap.size g cp l) := ⟨HBr.out.below hb4, HS.out.2.2.below hb4 hgl.2⟩
      have k4 : Below w.heap.size w w4 := kr.trans (hb4.mono (by omega))
      have r4 : Below w2.heap.size w2 w4 := hbr.trans (hb4.mono (by omega))
      have hes : es.length ≤ 1000 := blk_many HE4.out.1 HBk.out.2.2
      clear h4 hO4 hok4 hb4 hec
      by_cases he4 : ¬ e4 = 0
      · have HD : Hid ((e4, []) = decM xs) := by
          show (e4, []) = decM xs
          have hm := decBlks_more (xs := xs) (bs.take k) (bs.drop k) (by rw [HS.out.1])
          rw [List.take_append_drop, HBk.out.1] at hm
          have h1 : decBlks xs (⟨fr, til, cnt, row⟩ :: bs.drop (k + 1)) = (e4, []) := by
            rw [decBlks, ← HE4.out.1, if_pos he4]
          rw [h1, if_pos he4] at hm
          unfold decM
          rw [← HI.out]
          simp only [ne_eq, not_true_eq_false, if_false]
          rw [hm, if_pos he4]
        obtain ⟨WZ, hWZ⟩ : ∃ V : World, V = (w4.setCell ⟨w.heap.size, 0, none⟩ (.int .i64 e4)).setCell ⟨w.heap.size, 1, none⟩ (.slice none 0 0) := ⟨_, rfl⟩
        have hBZ : BoxAt WZ w.heap.size 27 2 w.heap.size [.int .i64 e4, .slice none 0 0] := by rw [hWZ]; exact (HB4.out.1.set 0 _).set 1 _
        have kZ : Below w.heap.size w WZ := by rw [hWZ]; exact below_set (below_set k4 (Nat.le_refl _) _ _) (Nat.le_refl _) _ _
        have f0 := HB4.out.1.frozen 0
        have f1 := HB4.out.1.frozen 1
        have q0 := HB4.out.1.cell (j := 0) rfl
        have q1 := HB4.out.1.cell (j := 1) rfl
        have p0 := hBZ.cell (j := 0) rfl
        have p1 := hBZ.cell (j := 1) rfl
        go_wp2_with fail
        rw [← hWZ]
        exact bodyPost_ret (v := .agg #[.int .i64 e4, .slice none 0 0]) (by simp [results, Tryd.results4, go_sem, p0, p1]) rfl ⟨e4, _, [], rfl, HD.out, .inl ⟨rfl, rfl⟩, fun e he => by simp at he, kZ⟩
      · replace he4 := Decidable.not_not.1 he4
        subst he4
        have hng : ¬ g4 = g := by omega
        go_wp2_with (at_builtin; refine wpList_append_entA _ rfl _ _ rfl w2.heap.size g cp l.length g4 es.length c4 l es rfl rfl rfl rfl ?hO ?hc ?hl ?hb ?_)
        case hO => exact HB4.out.2
        case hc => exact HE4.out.2.2.at
        case hl => omega
        case hb => omega
        intro g' cp' w5 hO5 hgr5 hat5
        have r5 : Below w2.heap.size w2 w5 := r4.grown hgr5 (by omega) (fun j hj => by cases hj; exact hgl.1)
        have HS5 : Hid (decBlks xs (bs.take (k + 1)) = (0, l ++ es) ∧ (∀ e ∈ l ++ es, e.ok) ∧ OwnE w5 w2.heap.size g' cp' (l ++ es)) := by
          refine ⟨?_, ?_, hO5⟩
          · rw [HBk.out.2.1, decBlks_more _ _ (by rw [HS.out.1]), decBlks_one, ← HE4.out.1, HS.out.1]
            simp
          · intro e he
            rcases List.mem_append.1 he with he | he
            · exact HS.out.2.1 e he
            · exact HE4.out.2.1 e he
        have hle : l.length + es.length = (l ++ es).length := by simp
        have hl2 : (l ++ es).length ≤ 1000 * (k + 1) := by rw [List.length_append]; omega
        rw [hle]
        clear hO5 hgr5 hat5 hle
        go_wp2_with fail
        go_roundw
        case rel => exact ⟨k + 1, g', cp', l ++ es, by omega, by simp, by go_num, HS5.out.1, hl2, HS5.out.2.1, HS5.out.2.2, r5⟩
        case measure => simp [intOf]; omega
    · obtain rfl : k = bs.length := by omega
      have hdone := HS.out.1
      rw [List.take_of_length_le (Nat.le_refl _)] at hdone
      have HDn : Hid (decBlks xs bs = (0, l)) := hdone
      obtain ⟨W5, hW5⟩ : ∃ V : World, V = wr.alloc (Obj.cells #[.slice (some ⟨g, 0, none⟩) l.length cp] 25) := ⟨_, rfl⟩
      have hb5 : Below wr.heap.size wr W5 := by rw [hW5]; exact (Below.refl _ _).alloc (Nat.le_refl _) _
      have z5 : W5.heap.size = wr.heap.size + 1 := by rw [hW5]; simp
      have HC5 : Hid (W5.cell? ⟨wr.heap.size, 0, none⟩ = some (.slice (some ⟨g, 0, none⟩) l.length cp)) := by rw [hW5]; show (wr.alloc _).cell? _ = _; simp
      have HO5 : Hid (OwnE W5 w2.heap.size g cp l) := HS.out.2.2.below hb5 hgl.2
      have HB5 : Hid (BoxAt W5 w.heap.size 27 2 w.heap.size [.int .i64 0, .slice none 0 0]) := HBr.out.below hb5
      have k5 : Below w.heap.size w W5 := kr.trans (hb5.mono (by omega))
      go_upto_region 13 with fail
      rw [← hW5]
      clear hW5 hdone
      have q := HC5.out
      have hvc := specValidRun_core g 0 cp l W5 HO5.out.at HS.out.2.1 (by omega) HO5.out.caps.1 HO5.out.caps.2
      go_wp2_with fail
      clear q
      refine hvc.mono ?_
      rintro r w6 ⟨vd, rfl, hvd, hb6⟩
      have s6 := hb6.size
      have HB6 : Hid (BoxAt w6 w.heap.size 27 2 w.heap.size [.int .i64 0, .slice none 0 0] ∧ OwnE w6 w2.heap.size g cp l ∧ w6.cell? ⟨wr.heap.size, 0, none⟩ = some (.slice (some ⟨g, 0, none⟩) l.length cp)) := ⟨HB5.out.below hb6, HO5.out.below hb6 (by omega), by rw [hb6.cell (p := ⟨wr.heap.size, 0, none⟩) (by show wr.heap.size < W5.heap.size; omega)]; exact HC5.out⟩
      have k6 : Below w.heap.size w w6 := k5.trans (hb6.mono (by omega))
      have HV : Hid (vd = true ↔ GoodR l) := hvd
      clear hvc hvd hb6 HB5 HO5 HC5
      cases vd with
      | false =>
        have HD : Hid ((3, []) = decM xs) := by
          show (3, []) = decM xs
          unfold decM
          rw [← HI.out]
          simp only [ne_eq, not_true_eq_false, if_false]
          rw [HDn.out]
          simp only [ne_eq, not_true_eq_false, if_false]
          rw [if_neg (fun q => by have := HV.out.2 q; cases this)]
        obtain ⟨WZ, hWZ⟩ : ∃ V : World, V = (w6.setCell ⟨w.heap.size, 0, none⟩ (.int .i64 3)).setCell ⟨w.heap.size, 1, none⟩ (.slice none 0 0) := ⟨_, rfl⟩
        have hBZ : BoxAt WZ w.heap.size 27 2 w.heap.size [.int .i64 3, .slice none 0 0] := by rw [hWZ]; exact (HB6.out.1.set 0 _).set 1 _
        have kZ : Below w.heap.size w WZ := by rw [hWZ]; exact below_set (below_set k6 (Nat.le_refl _) _ _) (Nat.le_refl _) _ _
        have f0 := HB6.out.1.frozen 0
        have f1 := HB6.out.1.frozen 1
        have q0 := HB6.out.1.cell (j := 0) rfl
        have q1 := HB6.out.1.cell (j := 1) rfl
        have p0 := hBZ.cell (j := 0) rfl
        have p1 := hBZ.cell (j := 1) rfl
        go_wp2_with fail
        rw [← hWZ]
        exact bodyPost_ret (v := .agg #[.int .i64 3, .slice none 0 0]) (by simp [results, Tryd.results4, go_sem, p0, p1]) rfl ⟨3, _, [], rfl, HD.out, .inl ⟨rfl, rfl⟩, fun e he => by simp at he, kZ⟩
      | true =>
        have HD : Hid ((0, l) = decM xs) := by
          show (0, l) = decM xs
          unfold decM
          rw [← HI.out]
          simp only [ne_eq, not_true_eq_false, if_false]
          rw [HDn.out]
          simp only [ne_eq, not_true_eq_false, if_false]
          rw [if_pos (HV.out.1 rfl)]
        have q := HB6.out.2.2
        obtain ⟨WZ, hWZ⟩ : ∃ V : World, V = (w6.setCell ⟨w.heap.size, 0, none⟩ (.int .i64 0)).setCell ⟨w.heap.size, 1, none⟩ (.slice (some ⟨g, 0, none⟩) l.length cp) := ⟨_, rfl⟩
        have hBZ : BoxAt WZ w.heap.size 27 2 w.heap.size [.int .i64 0, .slice (some ⟨g, 0, none⟩) l.length cp] := by rw [hWZ]; exact (HB6.out.1.set 0 _).set 1 _
        have kZ : Below w.heap.size w WZ := by rw [hWZ]; exact below_set (below_set k6 (Nat.le_refl _) _ _) (Nat.le_refl _) _ _
        have f0 := HB6.out.1.frozen 0
        have f1 := HB6.out.1.frozen 1
        have q0 := HB6.out.1.cell (j := 0) rfl
        have q1 := HB6.out.1.cell (j := 1) rfl
        have p0 := hBZ.cell (j := 0) rfl
        have p1 := hBZ.cell (j := 1) rfl
        go_wp2_with fail
        rw [← hWZ]
        have hOZ : OwnE WZ w2.heap.size g cp l := by
          rw [hWZ]
          have hn : ¬ g = w.heap.size := by omega
          exact ((HB6.out.2.1.chg' (Chg.of_set w6 w.heap.size 0 _ (S := fun q => q = w.heap.size) rfl) hn).chg' (Chg.of_set _ w.heap.size 1 _ (S := fun q => q = w.heap.size) rfl) hn)
        exact bodyPost_ret (v := .agg #[.int .i64 0, .slice (some ⟨g, 0, none⟩) l.length cp]) (by simp [results, Tryd.results4, go_sem, p0, p1]) rfl ⟨0, _, l, rfl, HD.out, .inr ⟨g, cp, rfl, OwnE.mono hOZ (by omega)⟩, HS.out.2.1, kZ⟩
end Go.Proofs.YtnncedndlhfdkacDoor

/-
  impl.DecodeRun.
-/
namespace Go.Proofs.YtnncedndlhfdkacDoor
open Go.ChangeShapes Go.WideShapes Go.ChangeAt Go.RowKit Go.Deep
set_option linter.unusedVariables false
set_option linter.unusedSimpArgs false
set_option maxRecDepth 100000

theorem blkM_fre {xs : List UInt8} {k : Blk} : blkM xs k = freM (fixAt xs k.til) k.count (bl k.row) (span xs k.fr k.til) := rfl
theorem decM_idx {xs : List UInt8} (h : (idxM xs).1 ≠ 0) : decM xs = ((idxM xs).1, []) := by unfold decM; rw [if_pos h]

/-- Every panic of DecodeRun ends in its code. -/
theorem dec_dies (f : FileAt) (w wq : World) (a : Act) (c : Int) (x y : Value) (hd : a.defers = [{ target := Target.fn (Fn.func 15) #[.pointer (some ⟨w.heap.size, 0, none⟩)], args := #[] }]) (ht : a.tmps.getD 2 undef = .pointer (some ⟨w.heap.size, 0, none⟩))
    (hM : decM f.xs = (c, [])) (hc : ¬ c = 0) (hbox : BoxAt wq w.heap.size 27 2 w.heap.size [x, y]) (hH : HandleAt wq) (hB : Below w.heap.size w wq) :
    bodyPostD Tryd.prog Tryd.f6 (fun e w' => DecPost w f.xs e w') (.panic [{ v := corrV c, recovered := false }]) a wq := by
  show Leaves Tryd.prog Tryd.f6 a.tmps (fun e w' => DecPost w f.xs e w') a.defers (.panicking [{ v := corrV c, recovered := false }]) wq
  rw [hd]
  refine leaves_cons (f := 15) (args := #[.pointer (some ⟨w.heap.size, 0, none⟩)]) (by simp) (by simp [go_sem]) ?_
  refine (dec_catch w.heap.size c [] wq hH hc x y (hbox.cell (j := 0) rfl) (hbox.cell (j := 1) rfl) (hbox.frozen 0) (hbox.frozen 1) hbox.lt.2).mono ?_
  rintro e u' w'' ⟨rfl, rfl, w1, hb1, rfl⟩
  have hbx := ((hbox.below hb1).set 0 (.int .i64 c)).set 1 (.slice none 0 0)
  have p0 := hbx.cell (j := 0) rfl
  have p1 := hbx.cell (j := 1) rfl
  have hz : w.heap.size ≤ wq.heap.size := hB.size
  have hb2 : Below w.heap.size w ((w1.setCell ⟨w.heap.size, 0, none⟩ (.int .i64 c)).setCell ⟨w.heap.size, 1, none⟩ (.slice none 0 0)) :=
    below_set (below_set (hB.trans (hb1.mono hz)) (Nat.le_refl _) 0 _) (Nat.le_refl _) 1 _
  have ht2 : a.tmps[2]?.getD undef = .pointer (some ⟨w.heap.size, 0, none⟩) := by rw [← Array.getD_eq_getD_getElem?]; exact ht
  show Leaves Tryd.prog Tryd.f6 a.tmps (fun e w' => DecPost w f.xs e w') [] (settle (.panicking [{ v := corrV c, recovered := true }])) _
  refine ⟨.agg #[.int .i64 c, .slice none 0 0], ?_, ⟨c, .slice none 0 0, [], rfl, hM.symm, .inl ⟨rfl, rfl⟩, fun e he => by simp at he, hb2⟩⟩
  obtain ⟨W, hW⟩ : ∃ W : World, W = (w1.setCell ⟨w.heap.size, 0, none⟩ (.int .i64 c)).setCell ⟨w.heap.size, 1, none⟩ (.slice none 0 0) := ⟨_, rfl⟩
  rw [← hW] at p0 p1 ⊢
  simp [results, Tryd.results6, go_sem, ht2, p0, p1]
/-- DecodeRun returns. -/
theorem dec_done (f : FileAt) (w wq : World) (a : Act) (u : Value) (es : List Ent) (hd : a.defers = [{ target := Target.fn (Fn.func 15) #[.pointer (some ⟨w.heap.size, 0, none⟩)], args := #[] }]) (ht : a.tmps.getD 2 undef = .pointer (some ⟨w.heap.size, 0, none⟩))
    (hM : decM f.xs = (0, es)) (hbox : BoxAt wq w.heap.size 27 2 w.heap.size [.int .i64 0, u]) (hO : OwnU wq w.heap.size u es) (hok : ∀ e ∈ es, e.ok) (hB : Below w.heap.size w wq) :
    bodyPostD Tryd.prog Tryd.f6 (fun e w' => DecPost w f.xs e w') .ret a wq := by
  show Leaves Tryd.prog Tryd.f6 a.tmps (fun e w' => DecPost w f.xs e w') a.defers .returning wq
  rw [hd]
  refine leaves_cons (f := 15) (args := #[.pointer (some ⟨w.heap.size, 0, none⟩)]) (by simp) (by simp [go_sem]) ?_
  refine (dec_idle w.heap.size wq).mono ?_
  rintro e u' w'' ⟨rfl, rfl, rfl⟩
  have p0 := hbox.cell (j := 0) rfl
  have p1 := hbox.cell (j := 1) rfl
  have ht2 : a.tmps[2]?.getD undef = .pointer (some ⟨w.heap.size, 0, none⟩) := by rw [← Array.getD_eq_getD_getElem?]; exact ht
  show Leaves Tryd.prog Tryd.f6 a.tmps (fun e w' => DecPost w f.xs e w') [] (settle .returning) w''
  refine ⟨.agg #[.int .i64 0, u], ?_, ⟨0, u, es, rfl, hM.symm, hO, hok, hB⟩⟩
  simp [results, Tryd.results6, go_sem, ht2, p0, p1]
theorem step_append_entsA {ops : Array Oper} {o : Oper} {a : Act} {K : Act → World → Prop} {Q : Exit → Act → World → Prop} {E : Prop} (w : World) (hgd : o.guard = none) (s x : Operand)
    (ho : o.op = .call { callee := .builtin .append, args := #[s, x], argTypes := #[23, 23] })
    (base g cp n b m cx : Nat) (fs es : List Ent) (hn : n = fs.length) (hm : m = es.length) (hm0 : 0 < m) (hs : a.eval s = .slice (some ⟨g, 0, none⟩) n cp) (hx : a.eval x = .slice (some ⟨b, 0, none⟩) m cx) (hO : OwnE w base g cp fs)
    (hc : EntsAt w b 0 es) (hlen : fs.length + es.length ≤ 2 ^ 30) (hbase : base ≤ w.heap.size)
    (h : ∀ g' cp' w', OwnE w' base g' cp' (fs ++ es) → w.grownBy w' (some g) → (g = g' ∨ g' = w.heap.size) → K (a.put o.dst (.slice (some ⟨g', 0, none⟩) (n + m) cp')) w') : if Region.wanted o (yielded ops a.tmps) = true then Oper.wp Tryd.prog o a w K Q else E := by
  subst hn hm
  obtain ⟨i, hi, hz0, hz1, hz2⟩ := info_parts Tryd.infoEnt
  refine step_append_lies w hgd s x 23 ho base 67 i _ 6 80 Tryd.underlying23 hi hz0 hz1 hz2 rfl (by decide) (.slice (some ⟨g, 0, none⟩) fs.length cp) fs.length (cellsE fs) hs hO ⟨b, 0, none⟩ es.length cx (cellsE es) hx (length_cellsE es) (cells_of_ents hc) (one_cells es) hm0 ?_ ?_ hbase w.heap.size rfl ?_
  · unfold maxLen; omega
  · omega
  · intro g' cp' w' hO' hgr hat hlt
    refine h g' cp' w' ?_ hgr ?_
    · unfold OwnE
      rw [List.length_append, cellsE_append]
      exact hO'
    · rcases hat with q | q
      · exact .inl (by simpa [Value.ownBlock] using q)
      · exact .inr q

/-- The first error decides. -/
theorem decBlks_pre (xs : List UInt8) : ∀ (l k : List Blk), (decBlks xs l).1 ≠ 0 → decBlks xs (l ++ k) = decBlks xs l
  | [], k, h => absurd rfl h
  | b :: l, k, h => by
    by_cases h1 : (blkM xs b).1 = 0
    · have hl : (decBlks xs l).1 ≠ 0 := by
        intro q
        rw [decBlks, if_neg (fun z => z h1), if_neg (fun z => z q)] at h
        exact h rfl
      have ih := decBlks_pre xs l k hl
      show decBlks xs (b :: (l ++ k)) = _
      simp only [decBlks]
      rw [ih]
    · show decBlks xs (b :: (l ++ k)) = _
      simp only [decBlks]
      rw [if_pos h1, if_pos h1]
/-- A region in which a block cannot be read. -/
theorem wp_region_ents {id : Nat} {Q : Exit → Act → World → Prop} {a : Act} {w : World} {l : List Oper} (n : Nat) (d : Tmp) (fb rb : Nat) (bv : Array Value) {tys : Array TypeId} {ty : TypeId} {pos : String} {aft : Array Edge}
    (ho : l = l.take n ++ ⟨some d, .call { callee := .value (.func 18), args := #[.tmp 3, .tmp 21], argTypes := tys }, ty, pos, aft, none⟩ :: l.drop (n + 1))
    (hB : ∀ m, Region.lexB .any (l.take n ++ (⟨some d, .call { callee := .value (.func 18), args := #[.tmp 3, .tmp 21], argTypes := tys }, ty, pos, aft, none⟩ :: l.drop (n + 1)).map (fk m)).toArray = true)
    (hB2 : waitsB (l.take n) ⟨some d, .call { callee := .value (.func 18), args := #[.tmp 3, .tmp 21], argTypes := tys }, ty, pos, aft, none⟩ (l.drop (n + 1)) d [3, 21, 2] = true)
    (hc : ∀ w', Below w.heap.size w w' → Calls Tryd.prog 18 #[.pointer (some ⟨fb, 0, none⟩), .agg bv] w' fun e w'' => ∃ chain, e = .panicked chain ∧ ∀ a' : Act, a'.defers = a.defers → a'.tmps.getD 2 undef = .pointer (some ⟨rb, 0, none⟩) → Q (.panic chain) a' w'')
    (h : ∀ m, wpQuiet Tryd.prog (l.take n ++ (⟨some d, .call { callee := .value (.func 18), args := #[.tmp 3, .tmp 21], argTypes := tys }, ty, pos, aft, none⟩ :: l.drop (n + 1)).map (fk m)).toArray (fun w' => ∃ n : Out w, w' = n.u) (fun a' => a'.tmps.getD d undef = m ∧ ∀ p ∈ [((3 : Tmp), Value.pointer (some ⟨fb, 0, none⟩)), (21, .agg bv), (2, .pointer (some ⟨rb, 0, none⟩))], a'.tmps.getD p.1 undef = p.2) (l.take n ++ (⟨some d, .call { callee := .value (.func 18), args := #[.tmp 3, .tmp 21], argTypes := tys }, ty, pos, aft, none⟩ :: l.drop (n + 1)).map (fk m)) a) :
    (Code.region id l.toArray true).wp Tryd.prog Q a w := by
  refine wp_region_dies (C := fun w' => ∃ n : Out w, w' = n.u) (l.take n) _ (l.drop (n + 1)) d [((3 : Tmp), Value.pointer (some ⟨fb, 0, none⟩)), (21, .agg bv), (2, .pointer (some ⟨rb, 0, none⟩))] l ho (by kernel_rfl) hB hB2 rfl rfl ⟨⟨_, (Below.refl _ _).drew⟩, rfl⟩ h ?_
  rintro a' w' K ⟨n, rfl⟩ hd hp
  have h1 : a'.tmps.getD 3 undef = .pointer (some ⟨fb, 0, none⟩) := hp (3, _) (by simp)
  have h2 : a'.tmps.getD 21 undef = .agg bv := hp (21, _) (by simp)
  have h3 : a'.tmps.getD 2 undef = .pointer (some ⟨rb, 0, none⟩) := hp (2, _) (by simp)
  unfold Oper.wp
  have hrun : (execOp a'.eval ⟨some d, .call { callee := .value (.func 18), args := #[.tmp 3, .tmp 21], argTypes := tys }, ty, pos, aft, none⟩).run Tryd.prog n.u = .ok (.enter 18 #[.pointer (some ⟨fb, 0, none⟩), .agg bv]) n.u := by
    have h4 : a'.tmps[3]?.getD undef = .pointer (some ⟨fb, 0, none⟩) := by rw [← Array.getD_eq_getD_getElem?]; exact h1
    have h5 : a'.tmps[21]?.getD undef = .agg bv := by rw [← Array.getD_eq_getD_getElem?]; exact h2
    simp [execOp, h4, h5, go_sem, Act.eval, Tryd.func18]
  rw [hrun, Oper.upon_enter]
  refine (hc n.u n.out).mono ?_
  rintro e w'' ⟨chain, rfl, hq⟩
  exact hq a' hd h3

/-- Between two blocks. -/
structure DecJ (f : FileAt) (w wr : World) (fb RB B g cp : Nat) (bs : List Blk) (gb cpb : Nat) (l : List Ent) : Prop where
  res : BoxAt wr w.heap.size 27 2 w.heap.size [.int .i64 0, .slice none 0 0]
  tab : TabAt wr fb 0
  blks : OwnF f wr w.heap.size gb cpb bs
  run : BoxAt wr w.heap.size 25 1 RB [.slice (some ⟨g, 0, none⟩) l.length cp]
  row : OwnE wr B g cp l
  hand : HandleAt wr
  bys : BysAt wr f.b f.off f.xs
  below : Below w.heap.size w wr
  lts : fb < B ∧ gb < B ∧ w.heap.size < B ∧ 0 < w.heap.size ∧ f.b < w.heap.size ∧ B ≤ RB ∧ RB < wr.heap.size ∧ ¬ RB = g
theorem DecJ.grow {f : FileAt} {w wr w' : World} {fb RB B g cp : Nat} {bs : List Blk} {gb cpb : Nat} {l : List Ent} (h : DecJ f w wr fb RB B g cp bs gb cpb l) (hb : Below wr.heap.size wr w') : DecJ f w w' fb RB B g cp bs gb cpb l := by
  have hl := h.lts
  exact ⟨h.res.below hb, h.tab.below hb (by omega), h.blks.below hb, h.run.below hb, h.row.below hb h.row.lt.2, h.hand.below hb (by omega), h.bys.below hb (by omega), h.below.trans (hb.mono h.below.size), by have := hb.size; omega⟩
theorem TabAt.chg {S : Nat → Prop} {w w' : World} {b off : Nat} (h : TabAt w b off) (hc : Chg S w w') (hlt : b < w.heap.size) (hn : ¬ S b) : TabAt w' b off := by
  intro i hi
  rw [hc.cell (p := ⟨b, off + i, none⟩) hlt hn]
  exact h i hi
theorem HandleAt.chg {S : Nat → Prop} {w w' : World} (h : HandleAt w) (hc : Chg S w w') (hn : ¬ S 0) : HandleAt w' := by
  have hl := h.lt
  unfold HandleAt at h ⊢
  rw [hc.cell (p := ⟨0, 0, none⟩) hl hn]
  exact h
/-- The entries of one block more: the row grown, then its variable set. -/
theorem DecJ.app {f : FileAt} {w wr w' : World} {fb RB B g cp : Nat} {bs : List Blk} {gb cpb : Nat} {l l' : List Ent} {g' cp' : Nat} (h : DecJ f w wr fb RB B g cp bs gb cpb l) (hO : OwnE w' B g' cp' l') (hg : wr.grownBy w' (some g)) (hat : g = g' ∨ g' = wr.heap.size) :
    DecJ f w (w'.setCell ⟨RB, 0, none⟩ (.slice (some ⟨g', 0, none⟩) l'.length cp')) fb RB B g' cp' bs gb cpb l' ∧ w'.cell? ⟨RB, 0, none⟩ = some (.slice (some ⟨g, 0, none⟩) l.length cp) ∧ w'.frozen? ⟨RB, 0, none⟩ = false := by
  have hl := h.lts
  have hgl := h.row.lt
  have hgl' := hO.lt
  have hc : Chg (fun k => k = g) wr w' := Chg.of_grown hg (fun k hk => by cases hk; rfl)
  have hrun := h.run.chg hc (by omega)
  have hs : Chg (fun k => k = RB) w' (w'.setCell ⟨RB, 0, none⟩ (.slice (some ⟨g', 0, none⟩) l'.length cp')) := Chg.of_set w' RB 0 _ rfl
  have hrb := h.run.lt.1
  refine ⟨⟨(h.res.chg hc (by omega)).chg hs (by omega), (h.tab.chg hc (by omega) (by omega)).chg hs (by have := hc.size; omega) (by omega), (h.blks.chg hc (by omega)).chg hs (by omega), hrun.set 0 _, hO.chg' hs (by omega), (h.hand.chg hc (by omega)).chg hs (by omega), (h.bys.chgR hc (by omega) (by omega)).chgR hs (by have := hc.size; omega) (by omega), ?_, ?_⟩, hrun.cell (j := 0) rfl, hrun.frozen 0⟩
  · exact below_set (h.below.grown hg h.below.size (fun k hk => by cases hk; omega)) hrb 0 _
  · rw [size_set]; have := hc.size; omega

set_option maxHeartbeats 8000000 in
theorem implDec_core (f : FileAt) (w : World) (hg : HandleAt w) (hE : BysAt w f.b f.off f.xs) (hb : f.b < w.heap.size) (hl : f.xs.length ≤ 2 ^ 29) (hcap : f.xs.length ≤ f.cap) (hcm : f.cap ≤ maxLen) :
    Calls Tryd.prog 6 #[.slice (some ⟨f.b, f.off, none⟩) f.xs.length f.cap] w fun e w' => DecPost w f.xs e w' := by
  have hmf : ∀ (fn : Fn) (first cap : Array Value) (w : World), (Instr.makeFunc fn first cap).run Tryd.prog w = .ok (.func fn first cap) w := fun _ _ _ _ => rfl
  obtain ⟨W, hW⟩ : ∃ W : World, W = w.alloc (Obj.cells #[.int .i64 0, .slice none 0 0] 27) := ⟨_, rfl⟩
  have HW : Hid (Below w.heap.size w W ∧ BoxAt W w.heap.size 27 2 w.heap.size [.int .i64 0, .slice none 0 0] ∧ HandleAt W ∧ BysAt W f.b f.off f.xs ∧ w.heap.size < W.heap.size) := by
    rw [hW]
    have h1 : Below w.heap.size w (w.alloc (Obj.cells #[.int .i64 0, .slice none 0 0] 27)) := (Below.refl _ _).alloc (Nat.le_refl _) _
    exact ⟨h1, boxAt_new w _ (Nat.le_refl _) rfl, hg.below h1 hg.lt, hE.below h1 hb, by simp⟩
  have HN : Hid (f.b < w.heap.size ∧ f.xs.length ≤ 2 ^ 29 ∧ f.xs.length ≤ f.cap ∧ f.cap ≤ maxLen ∧ 0 < w.heap.size) := ⟨hb, hl, hcap, hcm, hg.lt⟩
  clear hg hE hb hl hcap hcm
  go_enter_defers Tryd.func6, Tryd.ntmps6
  go_upto_region 2 with fail
  rw [← hW]
  clear hW
  go_wp2_with fail
  refine (openFile_core f W HW.out.2.2.2.1 (by have := HN.out; have := HW.out.1.size; omega) HN.out.2.1 HN.out.2.2.1 HN.out.2.2.2.1).mono ?_
  rintro e w1 ⟨hb1, (⟨hR0, gb, cpb, rfl, hO1⟩ | ⟨hR0, rfl⟩)⟩
  case inr =>
    exact dec_dies f w w1 _ _ _ _ rfl rfl (decM_idx hR0) hR0 (HW.out.2.1.below hb1) (HW.out.2.2.1.below hb1 (by have := HN.out; have := HW.out.1.size; omega)) (HW.out.1.trans (hb1.mono HW.out.1.size))
  obtain ⟨bs, hbs⟩ : ∃ bs, bs = (idxM f.xs).2 := ⟨_, rfl⟩
  rw [← hbs] at hO1
  rw [← hbs]
  have HBs : Hid (bs = (idxM f.xs).2 ∧ (idxM f.xs).1 = 0) := ⟨hbs, hR0⟩
  clear hbs hR0
  obtain ⟨sv, hsv⟩ : ∃ sv : Value, sv = .slice (some ⟨gb, 0, none⟩) bs.length cpb := ⟨_, rfl⟩
  rw [← hsv]
  have hone : (fileR sv).all (·.oneCell') = true := fileR_one _ (by rw [hsv]; rfl)
  have HSv : Hid (sv = .slice (some ⟨gb, 0, none⟩) bs.length cpb) := hsv
  clear hsv
  have hzv := (zero_of_info info_fr).1
  have hsz := fileR_size sv
  have hsc := run_storeCells_new (P := Tryd.prog) w1 49 ((Array.replicate 256 (.int .u32 0)).push (.slice none 0 0)) (fileR sv) (by rw [fileR_size]; exact (zero_of_info info_fr).2) (by rw [fileR_size]; simp) hone
  have HO1 : Hid (OwnF f w1 W.heap.size gb cpb bs ∧ Below W.heap.size W w1) := ⟨hO1, hb1⟩
  clear hO1 hb1 hone
  obtain ⟨A1, hA1⟩ : ∃ A1 : Obj, A1 = .cells (fileR sv) 49 := ⟨_, rfl⟩
  obtain ⟨A2, hA2⟩ : ∃ A2 : Obj, A2 = .cells #[] 67 := ⟨_, rfl⟩
  obtain ⟨A3, hA3⟩ : ∃ A3 : Obj, A3 = .cells #[.slice (some ⟨w1.heap.size + 1, 0, none⟩) 0 0] 25 := ⟨_, rfl⟩
  obtain ⟨W2, hW2⟩ : ∃ W2 : World, W2 = ((w1.alloc A1).alloc A2).alloc A3 := ⟨_, rfl⟩
  have c256 : W2.cell? ⟨w1.heap.size, 256, none⟩ = some sv := by
    rw [hW2, World.cell?_alloc_lt _ _ ⟨w1.heap.size, 256, none⟩ (by simp; omega), World.cell?_alloc_lt _ _ ⟨w1.heap.size, 256, none⟩ (by simp), hA1, cell_of_row _ _ 256 _ _ _ (heap_alloc_last w1 _)]
    exact fileR_last sv
  have HJ0 : Hid (DecJ f w W2 w1.heap.size (w1.heap.size + 2) (w1.heap.size + 1) (w1.heap.size + 1) 0 bs gb cpb []) := by
    have hz1 := HW.out.1.size
    have hz2 := HO1.out.2.size
    have hz3 := HW.out.2.2.2.2
    have hgb := HO1.out.1.lt
    have hN := HN.out
    have hbb : Below w1.heap.size w1 W2 := by rw [hW2]; exact (((Below.refl _ _).alloc (Nat.le_refl _) _).alloc (by simp) _).alloc (by simp; omega) _
    have hzz : W2.heap.size = w1.heap.size + 3 := by rw [hW2]; simp
    refine ⟨(HW.out.2.1.below HO1.out.2).below hbb, ?_, (HO1.out.1.mono hz1).below hbb, ?_, ?_, (HW.out.2.2.1.below HO1.out.2 (by omega)).below hbb (by omega), (HW.out.2.2.2.1.below HO1.out.2 (by omega)).below hbb (by omega), (HW.out.1.trans (HO1.out.2.mono hz1)).trans (hbb.mono (by omega)), by omega⟩
    · intro i hi
      rw [hW2, World.cell?_alloc_lt _ _ ⟨w1.heap.size, 0 + i, none⟩ (by simp; omega), World.cell?_alloc_lt _ _ ⟨w1.heap.size, 0 + i, none⟩ (by simp), hA1, Nat.zero_add, cell_of_row _ _ i _ _ _ (heap_alloc_last w1 _)]
      exact fileR_tab sv i hi
    · rw [hW2, hA3]
      have := boxAt_new ((w1.alloc A1).alloc A2) (base := w.heap.size) (t := 25) (sz := 1) #[.slice (some ⟨w1.heap.size + 1, 0, none⟩) 0 0] (by simp; omega) rfl
      simpa using this
    · rw [hW2]
      have h1 : OwnE ((w1.alloc A1).alloc A2) (w1.heap.size + 1) (w1.heap.size + 1) 0 [] := by
        rw [hA2]
        have := World.ownsRow_made (w1.alloc A1) (base := w1.heap.size + 1) (e := 67) (size := 6) #[] 0 (by simp) (Nat.zero_le _) (by simp)
        simp at this
        exact this
      exact h1.below ((Below.refl _ _).alloc (Nat.le_refl _) _) (by simp)
  rw [hA1, hA2, hA3] at hW2
  clear hA1 hA2 hA3
  go_upto_region 4 with fail
  rw [← hW2]
  clear hW2 hzv hsz hsc
  obtain ⟨fb, hfb⟩ : ∃ fb, fb = w1.heap.size := ⟨_, rfl⟩
  obtain ⟨RB, hRB⟩ : ∃ RB, RB = w1.heap.size + 2 := ⟨_, rfl⟩
  obtain ⟨B, hBB⟩ : ∃ B, B = w1.heap.size + 1 := ⟨_, rfl⟩
  have hRB2 : w1.heap.size + 1 + 1 = RB := by omega
  rw [← hfb] at c256
  rw [← hRB, ← hBB, ← hfb] at HJ0
  rw [hRB2, ← hBB, ← hfb]
  rw [HSv.out] at c256
  clear hfb hRB hBB hRB2
  go_wp2_with fail
  clear c256
  have HIn : Hid ((∀ k ∈ bs, k.in f.xs.length) ∧ bs.length ≤ 10000) := by
    rw [HBs.out.1]
    exact ⟨idxM_in f.xs, idx_many (err := (idxM f.xs).1) rfl⟩
  have hbl := HIn.out.2
  go_loopw [15] (fun kk wr => ∃ (k g cp : Nat) (l : List Ent), kk = .int .i64 (k : Int) ∧ k ≤ bs.length ∧ decBlks f.xs (bs.take k) = (0, l) ∧ l.length ≤ 1000 * k ∧ (∀ e ∈ l, e.ok) ∧ DecJ f w wr fb RB B g cp bs gb cpb l) (fun kk _ => bs.length - (intOf kk).toNat)
  case atStart => exact ⟨0, B, 0, [], rfl, Nat.zero_le _, rfl, by simp, fun e he => by simp at he, HJ0.out⟩
  case round =>
    clear HJ0
    obtain ⟨k, g, cp, l, rfl, hk, hD, hll, hok, hJ⟩ := hrel
    have HJ : Hid (DecJ f w wr fb RB B g cp bs gb cpb l) := hJ
    have HD : Hid (decBlks f.xs (bs.take k) = (0, l) ∧ ∀ e ∈ l, e.ok) := ⟨hD, hok⟩
    have hl30 : l.length ≤ 10000000 := by omega
    clear hD hok hJ
    by_cases hlt : k < bs.length
    · obtain ⟨x, hx⟩ : ∃ x, bs[k]? = some x := ⟨_, List.getElem?_eq_getElem hlt⟩
      obtain ⟨c0, c1, c2, c3⟩ := HJ.out.blks.at hx
      have zk : (k : Int) < (bs.length : Int) := by omega
      have HXk : Hid (bs[k]? = some x ∧ x.in f.xs.length) := ⟨hx, HIn.out.1 x (List.mem_of_getElem? hx)⟩
      obtain ⟨WA, hWA⟩ : ∃ WA : World, WA = wr.alloc (Obj.cells #[.slice (some ⟨f.b, f.off + x.fr, none⟩) (x.til - x.fr) (f.cap - x.fr), .int .u32 (fixAt f.xs x.til : Int), .int .i64 (x.count : Int), .string x.row] 52) := ⟨_, rfl⟩
      have HJA : Hid (DecJ f w WA fb RB B g cp bs gb cpb l ∧ BoxAt WA w.heap.size 52 4 wr.heap.size [.slice (some ⟨f.b, f.off + x.fr, none⟩) (x.til - x.fr) (f.cap - x.fr), .int .u32 (fixAt f.xs x.til : Int), .int .i64 (x.count : Int), .string x.row] ∧ WA.heap.size = wr.heap.size + 1) := by
        have hbA : Below wr.heap.size wr WA := by rw [hWA]; exact (Below.refl _ _).alloc (Nat.le_refl _) _
        refine ⟨HJ.out.grow hbA, ?_, by rw [hWA]; simp⟩
        rw [hWA]; exact boxAt_new wr _ HJ.out.below.size rfl
      clear hx
      go_upto_region 7 with fail
      rw [← hWA]
      clear hWA c0 c1 c2 c3
      have hxin := HXk.out.2
      obtain ⟨hi1, hi2, hi3, hi4, hi5⟩ := hxin
      have HEnt : Hid (∀ w', Below WA.heap.size WA w' → Calls Tryd.prog 18 #[.pointer (some ⟨fb, 0, none⟩), .agg #[.slice (some ⟨f.b, f.off + x.fr, none⟩) (x.til - x.fr) (f.cap - x.fr), .int .u32 (fixAt f.xs x.til : Int), .int .i64 (x.count : Int), .string x.row]] w' fun e w'' => FreP w' (blkM f.xs x) e w'') := fun w' hb' => by
        have hJ := HJA.out.1.grow hb'
        have hl := hJ.lts
        have hN := HN.out
        have hsl := span_len (xs := f.xs) (p := x.fr) (lim := x.til) (by omega)
        have h1 := entries_core fb f.b (f.off + x.fr) (f.cap - x.fr) (fixAt f.xs x.til) x.count x.row (span f.xs x.fr x.til) w' hJ.tab (by omega) ((hJ.bys.drop x.fr).take (x.til - x.fr)) (by omega) (by rw [hsl]; omega) (by rw [hsl]; omega) (by omega) hi4 hi5
        rw [hsl, ← blkM_fre] at h1
        exact h1
      clear hi1 hi2 hi3 hi4 hi5
      have blt := HJA.out.2.1.lt.2
      have rlt := HJA.out.1.run.lt.2
      have q0 : ∀ n : Out WA, n.u.cell? ⟨wr.heap.size, 0, none⟩ = some (.slice (some ⟨f.b, f.off + x.fr, none⟩) (x.til - x.fr) (f.cap - x.fr)) := fun n => (n.out.cell (p := ⟨wr.heap.size, 0, none⟩) blt).trans (HJA.out.2.1.cell (j := 0) rfl)
      have q1 : ∀ n : Out WA, n.u.cell? ⟨wr.heap.size, 1, none⟩ = some (.int .u32 (fixAt f.xs x.til : Int)) := fun n => (n.out.cell (p := ⟨wr.heap.size, 1, none⟩) blt).trans (HJA.out.2.1.cell (j := 1) rfl)
      have q2 : ∀ n : Out WA, n.u.cell? ⟨wr.heap.size, 2, none⟩ = some (.int .i64 (x.count : Int)) := fun n => (n.out.cell (p := ⟨wr.heap.size, 2, none⟩) blt).trans (HJA.out.2.1.cell (j := 2) rfl)
      have q3 : ∀ n : Out WA, n.u.cell? ⟨wr.heap.size, 3, none⟩ = some (.string x.row) := fun n => (n.out.cell (p := ⟨wr.heap.size, 3, none⟩) blt).trans (HJA.out.2.1.cell (j := 3) rfl)
      have r0 : ∀ n : Out WA, n.u.cell? ⟨RB, 0, none⟩ = some (.slice (some ⟨g, 0, none⟩) l.length cp) := fun n => (n.out.cell (p := ⟨RB, 0, none⟩) rlt).trans (HJA.out.1.run.cell (j := 0) rfl)
      by_cases hbk : (blkM f.xs x).1 = 0
      case neg =>
        have HM : Hid (decM f.xs = ((blkM f.xs x).1, []) ∧ ¬ (blkM f.xs x).1 = 0) := by
          refine ⟨?_, hbk⟩
          have h1 : decBlks f.xs (bs.take (k + 1)) = ((blkM f.xs x).1, []) := by
            rw [List.take_add_one, HXk.out.1]
            show decBlks f.xs (bs.take k ++ [x]) = _
            rw [decBlks_more _ _ (by rw [HD.out.1]), decBlks_one, if_pos hbk]
            simp [hbk]
          have h2 := decBlks_pre f.xs (bs.take (k + 1)) (bs.drop (k + 1)) (by rw [h1]; exact hbk)
          rw [List.take_append_drop, h1] at h2
          unfold decM
          rw [← HBs.out.1, if_neg (by rw [HBs.out.2]; simp), h2, if_pos hbk]
        clear hbk
        refine wp_region_ents 3 22 fb w.heap.size #[.slice (some ⟨f.b, f.off + x.fr, none⟩) (x.til - x.fr) (f.cap - x.fr), .int .u32 (fixAt f.xs x.til : Int), .int .i64 (x.count : Int), .string x.row] rfl (fun m => by kernel_rfl) (by kernel_rfl) ?q ?_
        case q =>
          intro w' hb'
          refine (HEnt.out w' hb').mono ?_
          rintro e w'' ⟨hb'', (⟨h0, _⟩ | ⟨h0, rfl⟩)⟩
          · exact absurd h0 HM.out.2
          · have hJ := (HJA.out.1.grow hb').grow hb''
            exact ⟨_, rfl, fun a' hd h2 => dec_dies f w w'' a' _ _ _ hd h2 HM.out.1 HM.out.2 hJ.res hJ.hand hJ.below⟩
        intro m
        dsimp only [List.take, List.drop, List.map, fk, List.cons_append, List.nil_append]
        repeat (go_big_quiet_step (rfl))
        refine wpQuiet_nil ?_
        refine ⟨rfl, ?_⟩
        intro p hp
        simp only [List.mem_cons, List.not_mem_nil, or_false] at hp
        rcases hp with rfl | rfl | rfl <;> rfl
      obtain ⟨es, hes⟩ : ∃ es, es = (blkM f.xs x).2 := ⟨_, rfl⟩
      have HEs : Hid (decBlks f.xs (bs.take (k + 1)) = (0, l ++ es) ∧ es.length ≤ 1000 ∧ 0 < es.length) := by
        have hb0 : blkM f.xs x = (0, es) := by rw [hes, ← hbk]
        refine ⟨?_, blk_many hb0.symm HXk.out.2, ?_⟩
        · rw [List.take_add_one, HXk.out.1]
          show decBlks f.xs (bs.take k ++ [x]) = _
          rw [decBlks_more _ _ (by rw [HD.out.1]), decBlks_one, hb0, HD.out.1]
          simp
        · have h1 := hb0
          unfold blkM at h1
          split at h1
          · cases h1
          · unfold entEnd at h1
            split at h1
            · cases h1
            · next heq =>
              split at h1
              · cases h1
              · have h2 := getEnts_many _ _ _ _ _ heq
                simp only [Prod.mk.injEq, true_and] at h1
                rw [← h1, h2]
                exact HXk.out.2.2.2.2.1
      have hes1 := HEs.out.2.1
      have hes0 := HEs.out.2.2
      have HCall : Hid (∀ w', Below WA.heap.size WA w' → Calls Tryd.prog 18 #[.pointer (some ⟨fb, 0, none⟩), .agg #[.slice (some ⟨f.b, f.off + x.fr, none⟩) (x.til - x.fr) (f.cap - x.fr), .int .u32 (fixAt f.xs x.til : Int), .int .i64 (x.count : Int), .string x.row]] w' fun e w'' => ∃ g6 cp6, e = .returned (.slice (some ⟨g6, 0, none⟩) es.length cp6) ∧ OwnE w'' w'.heap.size g6 cp6 es ∧ (∀ y ∈ es, y.ok) ∧ Below w'.heap.size w' w'') := fun w' hb' => by
        refine (HEnt.out w' hb').mono ?_
        rintro e w'' ⟨hb'', (⟨_, g6, cp6, rfl, hO6, hok6⟩ | ⟨h0, _⟩)⟩
        · rw [← hes] at hO6 hok6 ⊢
          exact ⟨g6, cp6, rfl, hO6, hok6, hb''⟩
        · exact absurd hbk h0
      clear hes hbk HEnt q0 q1 q2 q3 r0
      have q0 := HJA.out.2.1.cell (j := 0) rfl
      have q1 := HJA.out.2.1.cell (j := 1) rfl
      have q2 := HJA.out.2.1.cell (j := 2) rfl
      have q3 := HJA.out.2.1.cell (j := 3) rfl
      have r0 := HJA.out.1.run.cell (j := 0) rfl
      have HZ : Hid (WA.heap.size = wr.heap.size + 1) := HJA.out.2.2
      refine wp_region_noPanic ?_
      go_region_law ((first
                | (go_simp; go_at_call 18; refine (HCall.out _ (Below.refl _ _).drew).mono ?_; rintro e' w6 ⟨g6, cp6, rfl, hO6, hok6, hb6⟩; have hq6 : Below WA.heap.size WA w6 := ((Below.refl WA.heap.size WA).drew).trans hb6; have r6 : w6.cell? ⟨RB, 0, none⟩ = some (.slice (some ⟨g, 0, none⟩) l.length cp) := (HJA.out.1.grow hq6).run.cell (j := 0) rfl)
                | (refine step_append_entsA _ (by rfl) _ _ (by rfl) B g cp l.length g6 es.length cp6 l es rfl rfl hes0 (by rfl) (by rfl) ?hO ?hc ?hlen ?hb ?_
                   case hO => exact (HJA.out.1.grow hq6).row
                   case hc => exact hO6.at
                   case hlen => omega
                   case hb => have := (HJA.out.1.grow hq6).lts; omega
                   intro g7 cp7 w7 hO7 hgr7 hgg7
                   have hpp := (HJA.out.1.grow hq6).app hO7 hgr7 hgg7
                   rw [List.length_append] at hpp
                   have fin7 : Hid (DecJ f w (w7.setCell ⟨RB, 0, none⟩ (.slice (some ⟨g7, 0, none⟩) (l.length + es.length) cp7)) fb RB B g7 cp7 bs gb cpb (l ++ es)) := hpp.1
                   have m7 := hpp.2.1
                   have f7 := hpp.2.2
                   clear hpp hO7 hgr7 hgg7)))
      all_goals refine NoPanic.normal ?_
      all_goals go_wp2_with fail
      all_goals go_roundw
      all_goals first
        | exact ⟨k + 1, g7, cp7, l ++ es, by go_num, by omega, HEs.out.1, by rw [List.length_append]; omega, fun e he => by { rcases List.mem_append.1 he with he | he; exact HD.out.2 e he; exact hok6 e he }, fin7.out⟩
        | (go_light; simp [intOf]; omega)
    · obtain rfl : k = bs.length := by omega
      have HDA : Hid (decBlks f.xs bs = (0, l)) := by
        have := HD.out.1
        rw [List.take_of_length_le (Nat.le_refl _)] at this
        exact this
      have r0 := HJ.out.run.cell (j := 0) rfl
      have hcp := HJ.out.row.caps
      have zk : ¬ ((bs.length : Nat) : Int) < (bs.length : Int) := by omega
      go_wp2_with fail
      refine (implValidRun_core g 0 cp l wr HJ.out.row.at HD.out.2 HJ.out.row.lt.2 hcp.1 hcp.2).mono ?_
      rintro e w8 ⟨r, rfl, hr, hb8⟩
      have HJ8 : Hid (DecJ f w w8 fb RB B g cp bs gb cpb l) := HJ.out.grow hb8
      have HRr : Hid (r = true ↔ GoodR l) := hr
      clear hb8 hr r0 HJ
      go_wp2_with fail
      refine (demand_core _ _ _).mono ?_
      rintro e w9 ⟨hw9, (⟨hc, rfl⟩ | ⟨hc, rfl⟩)⟩
      · have HM : Hid (decM f.xs = (0, l)) := by
          show decM f.xs = (0, l)
          unfold decM
          rw [← HBs.out.1, if_neg (by rw [HBs.out.2]; simp), HDA.out]
          simp only []
          rw [if_neg (by simp), if_pos (HRr.out.1 hc)]
        rw [hw9]
        clear hw9 hc HRr
        have r0 := HJ8.out.run.cell (j := 0) rfl
        have d0 := HJ8.out.res.cell (j := 0) rfl
        have d1 := HJ8.out.res.cell (j := 1) rfl
        have f0 := HJ8.out.res.frozen 0
        have f1 := HJ8.out.res.frozen 1
        obtain ⟨W9, hW9⟩ : ∃ W9 : World, W9 = (w8.setCell ⟨w.heap.size, 0, none⟩ (.int .i64 0)).setCell ⟨w.heap.size, 1, none⟩ (.slice (some ⟨g, 0, none⟩) l.length cp) := ⟨_, rfl⟩
        have HF9 : Hid (BoxAt W9 w.heap.size 27 2 w.heap.size [.int .i64 0, .slice (some ⟨g, 0, none⟩) l.length cp] ∧ OwnE W9 w.heap.size g cp l ∧ Below w.heap.size w W9) := by
          have hl := HJ8.out.lts
          have hgl := HJ8.out.row.lt
          rw [hW9]
          refine ⟨(HJ8.out.res.set 0 _).set 1 _, ?_, below_set (below_set HJ8.out.below (Nat.le_refl _) 0 _) (Nat.le_refl _) 1 _⟩
          have hs : Chg (fun k => k = w.heap.size) w8 ((w8.setCell ⟨w.heap.size, 0, none⟩ (.int .i64 0)).setCell ⟨w.heap.size, 1, none⟩ (.slice (some ⟨g, 0, none⟩) l.length cp)) := ((Chg.refl (fun k => k = w.heap.size) w8).put (g := w.heap.size) rfl 0 _).put (g := w.heap.size) rfl 1 _
          exact (HJ8.out.row.chg' hs (by omega)).mono (by omega)
        go_wp2_with fail
        rw [← hW9]
        exact dec_done f w W9 _ _ l rfl rfl HM.out HF9.out.1 (.inr ⟨g, cp, rfl, HF9.out.2.1⟩) HD.out.2 HF9.out.2.2
      · have HM : Hid (decM f.xs = (3, [])) := by
          show decM f.xs = (3, [])
          unfold decM
          rw [← HBs.out.1, if_neg (by rw [HBs.out.2]; simp), HDA.out]
          simp only []
          rw [if_neg (by simp), if_neg (fun q => by have := HRr.out.2 q; rw [hc] at this; cases this)]
        rw [hw9]
        exact dec_dies f w w8 _ _ _ _ rfl rfl HM.out (by decide) HJ8.out.res HJ8.out.hand HJ8.out.below
end Go.Proofs.YtnncedndlhfdkacDoor

