import Derived.Test.YtkidabedcgngcaaGreatDoorPkAQ
import Derived.Test.YtkidabedcgngcaaGreatDoorPkAF
import Derived.Test.YtkidabedcgngcaaGreatDoorPkAR
import Derived.Test.YtkidabedcgngcaaGreatDoorPkAA
import Derived.Test.YtkidabedcgngcaaGreatDoorPkAE
/-
  The rows of cells; spec.l5Rows.
-/
namespace Go.Proofs.YtkidabedcgngcaaGreatDoor
open Go.ChangeShapes Go.WideShapes Go.ChangeAt Go.RowKit Go.Deep
set_option linter.unusedVariables false
set_option linter.unusedSimpArgs false
set_option maxRecDepth 100000

def sameR (es : List Ent) (i k : Nat) : Bool := (es[k]?.map fun x => x.row.toList) == (es[i]?.map fun x => x.row.toList)
/-- Where the row that begins at i ends. -/
def rEndF (es : List Ent) (i : Nat) : Nat → Nat → Nat
  | 0, j => j
  | f + 1, j => if j < es.length then (if sameR es i j then rEndF es i f (j + 1) else j) else j
def rEnd (es : List Ent) (i : Nat) : Nat := rEndF es i (es.length - i) i
structure IsEnd (es : List Ent) (i j : Nat) : Prop where
  lt : i < j
  le : j ≤ es.length
  same : ∀ k, i ≤ k → k < j → sameR es i k = true
  other : j < es.length → sameR es i j = false
theorem rEndF_eq {es : List Ent} {i j : Nat} (h : IsEnd es i j) : ∀ (f k : Nat), i ≤ k → k ≤ j → j - k ≤ f → rEndF es i f k = j
  | 0, k, _, hk, hf => by unfold rEndF; omega
  | f + 1, k, h1, hk, hf => by
    unfold rEndF
    by_cases hkj : k = j
    · subst hkj
      by_cases hl : k < es.length
      · rw [if_pos hl, h.other hl]; rfl
      · rw [if_neg hl]
    · have hlt : k < j := by omega
      rw [if_pos (by have := h.le; omega), h.same k h1 hlt, if_pos rfl]
      exact rEndF_eq h f (k + 1) (by omega) (by omega) (by omega)
theorem rEnd_eq {es : List Ent} {i j : Nat} (h : IsEnd es i j) : rEnd es i = j := rEndF_eq h _ i (Nat.le_refl _) (Nat.le_of_lt h.lt) (by have := h.le; omega)
def cutsF (es : List Ent) : Nat → Nat → List (Nat × Nat)
  | 0, _ => []
  | f + 1, i => if i < es.length then (i, rEnd es i) :: cutsF es f (rEnd es i) else []
def allC (es : List Ent) (i : Nat) : List (Nat × Nat) := cutsF es (es.length - i) i
theorem cutsF_fuel {es : List Ent} (hE : ∀ i, i < es.length → i < rEnd es i) : ∀ (f g i : Nat), es.length - i ≤ f → es.length - i ≤ g → cutsF es f i = cutsF es g i
  | 0, 0, i, _, _ => rfl
  | 0, g + 1, i, h1, _ => by unfold cutsF; rw [if_neg (by omega)]
  | f + 1, 0, i, _, h2 => by unfold cutsF; rw [if_neg (by omega)]
  | f + 1, g + 1, i, h1, h2 => by
    unfold cutsF
    by_cases hi : i < es.length
    · rw [if_pos hi, if_pos hi]
      have := hE i hi
      rw [cutsF_fuel hE f g (rEnd es i) (by omega) (by omega)]
    · rw [if_neg hi, if_neg hi]
theorem rEndF_ge (es : List Ent) (i : Nat) : ∀ (f k : Nat), k ≤ rEndF es i f k
  | 0, k => Nat.le_refl _
  | f + 1, k => by
    unfold rEndF
    split
    · split
      · exact Nat.le_trans (Nat.le_succ k) (rEndF_ge es i f (k + 1))
      · exact Nat.le_refl _
    · exact Nat.le_refl _
theorem rEnd_gt {es : List Ent} {i : Nat} (hi : i < es.length) : i < rEnd es i := by
  unfold rEnd
  obtain ⟨f, hf⟩ : ∃ f, es.length - i = f + 1 := ⟨es.length - i - 1, by omega⟩
  rw [hf]
  unfold rEndF
  rw [if_pos hi, show sameR es i i = true by simp [sameR], if_pos rfl]
  exact rEndF_ge es i f (i + 1)
theorem allC_step {es : List Ent} {i j : Nat} (h : IsEnd es i j) : allC es i = (i, j) :: allC es j := by
  have hi : i < es.length := by have := h.lt; have := h.le; omega
  unfold allC
  obtain ⟨f, hf⟩ : ∃ f, es.length - i = f + 1 := ⟨es.length - i - 1, by omega⟩
  rw [hf]
  conv => lhs; unfold cutsF
  rw [if_pos hi, rEnd_eq h]
  rw [cutsF_fuel (fun i hi => rEnd_gt hi) f (es.length - j) j (by have := h.lt; omega) (Nat.le_refl _)]
theorem allC_done {es : List Ent} {i : Nat} (h : es.length ≤ i) : allC es i = [] := by
  unfold allC
  rw [show es.length - i = 0 by omega]
  rfl
def segE (es : List Ent) (p : Nat × Nat) : List Ent := (es.take p.2).drop p.1
theorem CSl.seg {w : World} {b off cap : Nat} {es : List Ent} (h : CSl w b off cap es) {i j : Nat} (hij : i ≤ j) (hj : j ≤ es.length) : CSl w b (off + i * 5) (cap - i) (segE es (i, j)) := (h.take hj).drop (by rw [List.length_take]; omega)
theorem segE_len {es : List Ent} {i j : Nat} (hj : j ≤ es.length) : (segE es (i, j)).length = j - i := by unfold segE; rw [List.length_drop, List.length_take]; simp only; omega
theorem segE_sub {es : List Ent} (h : Sub es es) (p : Nat × Nat) : Sub (segE es p) (segE es p) := by
  have hs : (segE es p).Sublist es := (List.drop_sublist _ _).trans (List.take_sublist _ _)
  exact ⟨h.ord.sublist hs, fun x hx => ⟨x, hx, keyCmp_self x⟩, fun x hx => h.kind x (hs.subset hx), fun x hx => h.ok x (hs.subset hx)⟩
noncomputable def meanAll (t : CT) (es : List Ent) : List Ent := (allC es 0).flatMap fun p => mean t (segE es p)
def segV (b off cap : Nat) (p : Nat × Nat) : Value := .slice (some ⟨b, off + p.1 * 5, none⟩) (p.2 - p.1) (cap - p.1)

/-- A list of rows of the call's own. -/
def OwnCs (w : World) (base g cp : Nat) (us : List Value) : Prop := w.ownsRow base 28 1 (.slice (some ⟨g, 0, none⟩) us.length cp) us.length us
theorem OwnCs.lt {w : World} {base g cp : Nat} {us : List Value} (h : OwnCs w base g cp us) : base ≤ g ∧ g < w.heap.size := World.ownsRow.lt h g rfl
theorem OwnCs.below {w w' : World} {base g cp : Nat} {us : List Value} (h : OwnCs w base g cp us) (hb : Below w.heap.size w w') : OwnCs w' base g cp us := own_chg h (Chg.of_below hb) (S := fun _ => False) (fun k q z => z)
theorem OwnCs.cell {w : World} {base g cp : Nat} {us : List Value} (h : OwnCs w base g cp us) {j : Nat} {v : Value} (hv : us[j]? = some v) : w.cell? ⟨g, j, none⟩ = some v := by
  have := World.ownsRow.cellAt h j (by have := (List.getElem?_eq_some_iff.1 hv).1; omega)
  rw [this, hv]
theorem ownCs_new (w : World) {base : Nat} (hb : base ≤ w.heap.size) : OwnCs (w.alloc (Obj.cells #[] 28)) base w.heap.size 0 [] :=
  World.ownsRow_made w #[] 0 hb (Nat.zero_le _) (by simp)
theorem Tryz.infoCs : (Tryz.prog.info? 28).map (fun i => (i.zero, i.size, i.bytes)) = some (some (.slice none 0 0), 1, 24) := by kernel_rfl
theorem wpList_append_cs {ops : Array Oper} {rest : List Oper} {oo : Oper} {a : Act} {Q : Exit → Act → World → Prop} (w : World) (hgd : oo.guard = none) (s x : Operand)
    (ho : oo.op = .call { callee := .builtin .append, args := #[s, x], argTypes := #[92, 92] })
    (base gq cp n b : Nat) (us : List Value) (y : Value) (hs : a.eval s = .slice (some ⟨gq, 0, none⟩) n cp) (hx : a.eval x = .slice (some ⟨b, 0, none⟩) 1 1) (hn : n = us.length) (hO : OwnCs w base gq cp us)
    (hc : w.cell? ⟨b, 0, none⟩ = some y) (hy : y.oneCell' = true) (hlen : us.length ≤ 1048576) (hbase : base ≤ w.heap.size)
    (h : ∀ g' cp' w', OwnCs w' base g' cp' (us ++ [y]) → w.grownBy w' (some gq) → (g' = gq ∨ g' = w.heap.size) → wpList Tryz.prog ops Q rest (a.put oo.dst (.slice (some ⟨g', 0, none⟩) (n + 1) cp')) w') : wpList Tryz.prog ops Q (oo :: rest) a w := by
  subst hn
  obtain ⟨i, hi, hz0, hz1, hz2⟩ := info_parts Tryz.infoCs
  refine wpList_append_own_at w hgd s x 92 ho base 28 i _ 1 24 Tryz.underlying92 hi hz0 hz1 hz2 rfl (by decide) (.slice (some ⟨gq, 0, none⟩) us.length cp) us.length us hs hO ⟨b, 0, none⟩ 1 1 [y] hx rfl ?_ ?_ ?_ ?_ hbase ?_
  · intro j u hu
    have hj : j = 0 := by have := (List.getElem?_eq_some_iff.1 hu).1; simpa using this
    subst hj
    simp at hu
    rw [Addr.add_mid, ← hu]; exact hc
  · intro u hu
    simp at hu; subst hu; exact hy
  · unfold maxLen; omega
  · omega
  · intro v' w' hO' hgr hnil hat
    rcases hO'.2 with ⟨h0, _⟩ | ⟨g', cap', cur, hv, _, _, hn, hcap, _, _⟩
    · have := (hnil.1 h0).1
      cases this
    · subst hv
      refine h g' cap' w' ?_ hgr ?_
      · unfold OwnCs
        rw [List.length_append]
        exact hO'
      · simp [Value.ownBlock] at hat
        exact hat
set_option maxHeartbeats 8000000 in
theorem l5Rows_core {w : World} {b off cap : Nat} {es : List Ent} (h : CSl w b off cap es) (hl : es.length ≤ 1048576) : Calls Tryz.prog 53 #[.slice (some ⟨b, off, none⟩) es.length cap] w fun e w' => ∃ g cp, e = .returned (.slice (some ⟨g, 0, none⟩) (allC es 0).length cp) ∧ OwnCs w' w.heap.size g cp ((allC es 0).map (segV b off cap)) ∧ Below w.heap.size w w' := by
  obtain ⟨N, hN⟩ : ∃ N, N = es.length := ⟨_, rfl⟩
  have HL : Hid (CSl w b off cap es ∧ N = es.length) := ⟨h, hN⟩
  have hNc : N ≤ cap := by rw [hN]; exact h.len
  have hcm : cap ≤ 9223372036854775807 := by have := h.cap; unfold maxLen at this; omega
  obtain ⟨A, hA⟩ : ∃ A, A = allC es 0 := ⟨_, rfl⟩
  have HA : Hid (A = allC es 0) := hA
  rw [← hN, ← hA]
  rw [← hN] at hl
  have HO0 : Hid (OwnCs (w.alloc (Obj.cells #[] 28)) w.heap.size w.heap.size 0 [] ∧ Below w.heap.size w (w.alloc (Obj.cells #[] 28))) := ⟨ownCs_new w (Nat.le_refl _), (Below.refl _ _).alloc (Nat.le_refl _) _⟩
  clear h hN hA
  go_enter Tryz.func53, Tryz.ntmps53
  go_wp2_with fail
  go_loopw [3, 4] (fun o iv wr => ∃ (i g cp m : Nat), i ≤ N ∧ iv = .int .i64 (i : Int) ∧ o = .slice (some ⟨g, 0, none⟩) m cp ∧ m ≤ i ∧ Hid (∃ P, A = P ++ allC es i ∧ m = P.length ∧ OwnCs wr w.heap.size g cp (P.map (segV b off cap)) ∧ Below w.heap.size w wr)) (fun _ iv _ => N - (intOf iv).toNat)
  case atStart => exact ⟨0, w.heap.size, 0, 0, Nat.zero_le _, rfl, rfl, Nat.le_refl _, [], HA.out, rfl, HO0.out.1, HO0.out.2⟩
  case round =>
    obtain ⟨i, g, cp, m, hiN, rfl, rfl, hmi, HJ⟩ := hrel
    by_cases hlt : i < N
    · have zi : (i : Int) < (N : Int) := by omega
      obtain ⟨c, hc⟩ : ∃ c, es[i]? = some c := ⟨_, List.getElem?_eq_getElem (by have := HL.out.2; omega)⟩
      have HCi : Hid (es[i]? = some c) := hc
      obtain ⟨P, hP⟩ := HJ.out
      have HP : Hid (A = P ++ allC es i ∧ m = P.length ∧ OwnCs wr w.heap.size g cp (P.map (segV b off cap)) ∧ Below w.heap.size w wr) := hP
      clear hP HJ hc
      obtain ⟨wo, hwo⟩ : ∃ wo : World, wo = wr := ⟨_, rfl⟩
      subst hwo
      go_wp2_with fail
      go_loopw [5] (fun jv wx => ∃ j : Nat, i ≤ j ∧ j ≤ N ∧ jv = .int .i64 (j : Int) ∧ Hid ((∀ k, i ≤ k → k < j → sameR es i k = true) ∧ Below wo.heap.size wo wx)) (fun jv _ => N - (intOf jv).toNat)
      case atStart => exact ⟨i, Nat.le_refl _, by omega, rfl, fun k h1 h2 => by omega, Below.refl _ _⟩
      case round =>
        obtain ⟨j, hij, hjN, rfl, HQ⟩ := hrel
        have HBw : Hid (Below w.heap.size w wr) := HP.out.2.2.2.trans (HQ.out.2.mono HP.out.2.2.2.size)
        by_cases hjl : j < N
        · have zj : (j : Int) < (N : Int) := by omega
          obtain ⟨x, hx⟩ : ∃ x, es[j]? = some x := ⟨_, List.getElem?_eq_getElem (by have := HL.out.2; omega)⟩
          have f0 := ((HL.out.1.below HBw.out).at_ j x hx).1
          have f1 := ((HL.out.1.below HBw.out).at_ i c HCi.out).1
          have hS0 : (fun w' : World => w'.cell? ⟨b, off + j * 5, none⟩ = some (.string x.row) ∧ w'.cell? ⟨b, off + i * 5, none⟩ = some (.string c.row)) wr.drew := ⟨f0, f1⟩
          have HBd : Hid (Below wo.heap.size wo wr.drew) := HQ.out.2.trans (((Below.refl _ _).drew).mono HQ.out.2.size)
          have HSame : Hid (sameR es i j = (x.row.toList == c.row.toList)) := by show sameR es i j = _; unfold sameR; rw [hx, HCi.out]; rfl
          clear f0 f1 hx
          cases hr : (x.row.toList == c.row.toList)
          · have HE : Hid (IsEnd es i j) := by
              have h0 := HSame.out
              rw [hr] at h0
              have hne : ¬ i = j := fun q => by
                subst q
                rw [show sameR es i i = true by simp [sameR]] at h0
                cases h0
              exact ⟨by omega, by rw [← HL.out.2]; omega, HQ.out.1, fun _ => h0⟩
            go_upto_region 5 with fail
            refine wp_region_T 99 (fun w' : World => w'.cell? ⟨b, off + j * 5, none⟩ = some (.string x.row) ∧ w'.cell? ⟨b, off + i * 5, none⟩ = some (.string c.row)) (by kernel_rfl) ?_
            refine anyT_takeN (i := 0) (v := ?vra0) rfl (by kernel_rfl) (by kernel_rfl) (by kernel_rfl) (by rfl) (fun _ _ _ h => h) (Or.inl ⟨by rfl, ?yra0⟩) hS0 ?_
            case yra0 => (intro wz hSw; obtain ⟨hz0, hz1⟩ := hSw; go_simp; (try with_reducible rfl))
            try simp only [Act.put, List.getElem_toArray, List.getElem_cons_zero, List.getElem_cons_succ, List.setIfInBounds_toArray, List.set_cons_zero, List.set_cons_succ]
            refine anyT_takeN (i := 1) (v := ?vra1) rfl (by kernel_rfl) (by kernel_rfl) (by kernel_rfl) (by rfl) (fun _ _ _ h => h) (Or.inl ⟨by rfl, ?yra1⟩) hS0 ?_
            case yra1 => (intro wz hSw; obtain ⟨hz0, hz1⟩ := hSw; go_simp; (try with_reducible rfl))
            try simp only [Act.put, List.getElem_toArray, List.getElem_cons_zero, List.getElem_cons_succ, List.setIfInBounds_toArray, List.set_cons_zero, List.set_cons_succ]
            refine anyT_takeN (i := 2) (v := ?vra2) rfl (by kernel_rfl) (by kernel_rfl) (by kernel_rfl) (by rfl) (fun _ _ _ h => h) (Or.inl ⟨by rfl, ?yra2⟩) hS0 ?_
            case yra2 => (intro wz hSw; obtain ⟨hz0, hz1⟩ := hSw; go_simp; (try with_reducible rfl))
            try simp only [Act.put, List.getElem_toArray, List.getElem_cons_zero, List.getElem_cons_succ, List.setIfInBounds_toArray, List.set_cons_zero, List.set_cons_succ]
            refine anyT_takeN (i := 3) (v := ?vra3) rfl (by kernel_rfl) (by kernel_rfl) (by kernel_rfl) (by rfl) (fun _ _ _ h => h) (Or.inl ⟨by rfl, ?yra3⟩) hS0 ?_
            case yra3 => (intro wz hSw; obtain ⟨hz0, hz1⟩ := hSw; go_simp; (try with_reducible rfl))
            try simp only [Act.put, List.getElem_toArray, List.getElem_cons_zero, List.getElem_cons_succ, List.setIfInBounds_toArray, List.set_cons_zero, List.set_cons_succ]
            refine anyT_takeN (i := 4) (v := ?vra4) rfl (by kernel_rfl) (by kernel_rfl) (by kernel_rfl) (by rfl) (fun _ _ _ h => h) (Or.inl ⟨by rfl, ?yra4⟩) hS0 ?_
            case yra4 => (intro wz hSw; obtain ⟨hz0, hz1⟩ := hSw; go_simp; (try with_reducible rfl))
            try simp only [Act.put, List.getElem_toArray, List.getElem_cons_zero, List.getElem_cons_succ, List.setIfInBounds_toArray, List.set_cons_zero, List.set_cons_succ]
            refine anyT_takeN (i := 5) (v := ?vra5) rfl (by kernel_rfl) (by kernel_rfl) (by kernel_rfl) (by rfl) (fun _ _ _ h => h) (Or.inl ⟨by rfl, ?yra5⟩) hS0 ?_
            case yra5 => (intro wz hSw; obtain ⟨hz0, hz1⟩ := hSw; go_simp; (try with_reducible rfl))
            try simp only [Act.put, List.getElem_toArray, List.getElem_cons_zero, List.getElem_cons_succ, List.setIfInBounds_toArray, List.set_cons_zero, List.set_cons_succ]
            refine anyT_takeN (i := 6) (v := ?vra6) rfl (by kernel_rfl) (by kernel_rfl) (by kernel_rfl) (by rfl) (fun _ _ _ h => h) (Or.inl ⟨by rfl, ?yra6⟩) hS0 ?_
            case yra6 => (intro wz hSw; obtain ⟨hz0, hz1⟩ := hSw; go_simp; (try with_reducible rfl))
            try simp only [Act.put, List.getElem_toArray, List.getElem_cons_zero, List.getElem_cons_succ, List.setIfInBounds_toArray, List.set_cons_zero, List.set_cons_succ]
            refine anyT_takeN (i := 7) (v := ?vra7) rfl (by kernel_rfl) (by kernel_rfl) (by kernel_rfl) (by rfl) (fun _ _ _ h => h) (Or.inl ⟨by rfl, ?yra7⟩) hS0 ?_
            case yra7 => (intro wz hSw; obtain ⟨hz0, hz1⟩ := hSw; go_simp; (try with_reducible rfl))
            try simp only [Act.put, List.getElem_toArray, List.getElem_cons_zero, List.getElem_cons_succ, List.setIfInBounds_toArray, List.set_cons_zero, List.set_cons_succ]
            refine anyT_takeN (i := 8) (v := ?vra8) rfl (by kernel_rfl) (by kernel_rfl) (by kernel_rfl) (by rfl) (fun _ _ _ h => h) (Or.inl ⟨by rfl, ?yra8⟩) hS0 ?_
            case yra8 => (intro wz hSw; obtain ⟨hz0, hz1⟩ := hSw; go_simp; (try with_reducible rfl))
            try simp only [Act.put, List.getElem_toArray, List.getElem_cons_zero, List.getElem_cons_succ, List.setIfInBounds_toArray, List.set_cons_zero, List.set_cons_succ]
            refine anyT_takeN (i := 9) (v := ?vra9) rfl (by kernel_rfl) (by kernel_rfl) (by kernel_rfl) (by rfl) (fun _ _ _ h => h) (Or.inl ⟨by rfl, ?yra9⟩) hS0 ?_
            case yra9 => (intro wz hSw; obtain ⟨hz0, hz1⟩ := hSw; go_simp; (try with_reducible rfl))
            try simp only [Act.put, List.getElem_toArray, List.getElem_cons_zero, List.getElem_cons_succ, List.setIfInBounds_toArray, List.set_cons_zero, List.set_cons_succ]
            refine anyT_takeN (i := 10) (v := ?vra10) rfl (by kernel_rfl) (by kernel_rfl) (by kernel_rfl) (by rfl) (fun _ _ _ h => h) (Or.inl ⟨by rfl, ?yra10⟩) hS0 ?_
            case yra10 => (intro wz hSw; obtain ⟨hz0, hz1⟩ := hSw; go_simp; (try with_reducible rfl))
            try simp only [Act.put, List.getElem_toArray, List.getElem_cons_zero, List.getElem_cons_succ, List.setIfInBounds_toArray, List.set_cons_zero, List.set_cons_succ]
            refine anyT_takeN (i := 11) (v := ?vra11) rfl (by kernel_rfl) (by kernel_rfl) (by kernel_rfl) (by rfl) (fun _ _ _ h => h) (Or.inl ⟨by rfl, ?yra11⟩) hS0 ?_
            case yra11 => (intro wz hSw; obtain ⟨hz0, hz1⟩ := hSw; go_simp; (try with_reducible rfl))
            try simp only [Act.put, List.getElem_toArray, List.getElem_cons_zero, List.getElem_cons_succ, List.setIfInBounds_toArray, List.set_cons_zero, List.set_cons_succ]
            refine anyT_takeN (i := 12) (v := ?vra12) rfl (by kernel_rfl) (by kernel_rfl) (by kernel_rfl) (by rfl) (fun _ _ _ h => h) (Or.inl ⟨by rfl, ?yra12⟩) hS0 ?_
            case yra12 => (intro wz hSw; obtain ⟨hz0, hz1⟩ := hSw; go_simp; (try with_reducible rfl))
            try simp only [Act.put, List.getElem_toArray, List.getElem_cons_zero, List.getElem_cons_succ, List.setIfInBounds_toArray, List.set_cons_zero, List.set_cons_succ]
            refine anyT_takeN (i := 13) (v := ?vra13) rfl (by kernel_rfl) (by kernel_rfl) (by kernel_rfl) (by rfl) (fun _ _ _ h => h) (Or.inl ⟨by rfl, ?yra13⟩) hS0 ?_
            case yra13 => (intro wz hSw; obtain ⟨hz0, hz1⟩ := hSw; go_simp; (try with_reducible rfl))
            try simp only [Act.put, List.getElem_toArray, List.getElem_cons_zero, List.getElem_cons_succ, List.setIfInBounds_toArray, List.set_cons_zero, List.set_cons_succ]
            refine anyT_takeN (i := 14) (v := ?vra14) rfl (by kernel_rfl) (by kernel_rfl) (by kernel_rfl) (by rfl) (fun _ _ _ h => h) (Or.inl ⟨by rfl, ?yra14⟩) hS0 ?_
            case yra14 => (intro wz hSw; obtain ⟨hz0, hz1⟩ := hSw; go_simp; (try with_reducible rfl))
            try simp only [Act.put, List.getElem_toArray, List.getElem_cons_zero, List.getElem_cons_succ, List.setIfInBounds_toArray, List.set_cons_zero, List.set_cons_succ]
            refine anyT_takeN (i := 15) (v := ?vra15) rfl (by kernel_rfl) (by kernel_rfl) (by kernel_rfl) (by rfl) (fun _ _ _ h => h) (Or.inl ⟨by rfl, ?yra15⟩) hS0 ?_
            case yra15 => (intro wz hSw; obtain ⟨hz0, hz1⟩ := hSw; go_simp; (try with_reducible rfl))
            try simp only [Act.put, List.getElem_toArray, List.getElem_cons_zero, List.getElem_cons_succ, List.setIfInBounds_toArray, List.set_cons_zero, List.set_cons_succ]
            refine anyT_takeN (i := 16) (v := ?vra16) rfl (by kernel_rfl) (by kernel_rfl) (by kernel_rfl) (by rfl) (fun _ _ _ h => h) (Or.inl ⟨by rfl, ?yra16⟩) hS0 ?_
            case yra16 => (intro wz hSw; obtain ⟨hz0, hz1⟩ := hSw; go_simp; (try with_reducible rfl))
            try simp only [Act.put, List.getElem_toArray, List.getElem_cons_zero, List.getElem_cons_succ, List.setIfInBounds_toArray, List.set_cons_zero, List.set_cons_succ]
            refine anyT_done (by kernel_rfl) ?_
            have HX : Hid (A = (P ++ [(i, j)]) ++ allC es j) := by
              show _ = _
              rw [HP.out.1, allC_step HE.out]
              simp
            have hij2 : i ≤ j := hij
            have HPl : Hid (m = (P.map (segV b off cap)).length) := by rw [List.length_map]; exact HP.out.2.1
            have hbz := HP.out.2.2.2.size
            have hlt3 := HP.out.2.2.1.lt
            have hbd := HBd.out.size
            go_wp2_with (at_builtin; refine wpList_append_cs _ rfl _ _ rfl w.heap.size g cp _ _ (P.map (segV b off cap)) (segV b off cap (i, j)) rfl rfl HPl.out ?hO ?hc ?hy ?hl ?hb ?_)
            case hO => exact (HP.out.2.2.1.below HBd.out).below ((Below.refl _ _).alloc (Nat.le_refl _) _)
            case hc => simp [go_sem, segV]
            case hy => rfl
            case hl => (have h9 := HP.out.2.1; simp; omega)
            case hb => exact Nat.le_succ_of_le (HP.out.2.2.2.trans (HBd.out.mono hbz)).size
            intro g' cp' w' hO' hgr hat
            have HN : Hid (∃ P', A = P' ++ allC es j ∧ m + 1 = P'.length ∧ OwnCs w' w.heap.size g' cp' (P'.map (segV b off cap)) ∧ Below w.heap.size w w') := by
              refine ⟨P ++ [(i, j)], HX.out, by rw [List.length_append, ← HP.out.2.1]; rfl, by rw [List.map_append]; exact hO', ?_⟩
              have k1 := HP.out.2.2.2.trans (HBd.out.mono hbz)
              have k2 := k1.alloc k1.size (Obj.cells #[segV b off cap (i, j)] 28)
              exact k2.grown hgr k2.size (fun q hq => by cases hq; omega)
            clear hO' hgr hat
            go_wp2_with fail
            go_roundw
            case rel => exact ⟨j, g', cp', m + 1, by omega, rfl, rfl, by have := HE.out.lt; omega, HN.out⟩
            case measure => go_light; simp [intOf]; have := HE.out.lt; omega
          · have HS2 : Hid (∀ k, i ≤ k → k < j + 1 → sameR es i k = true) := fun k h1 h2 => by
              by_cases hk : k = j
              · rw [hk, HSame.out]; exact hr
              · exact HQ.out.1 k h1 (by omega)
            go_upto_region 5 with fail
            refine wp_region_T 99 (fun w' : World => w'.cell? ⟨b, off + j * 5, none⟩ = some (.string x.row) ∧ w'.cell? ⟨b, off + i * 5, none⟩ = some (.string c.row)) (by kernel_rfl) ?_
            refine anyT_takeN (i := 0) (v := ?vrb0) rfl (by kernel_rfl) (by kernel_rfl) (by kernel_rfl) (by rfl) (fun _ _ _ h => h) (Or.inl ⟨by rfl, ?yrb0⟩) hS0 ?_
            case yrb0 => (intro wz hSw; obtain ⟨hz0, hz1⟩ := hSw; go_simp; (try with_reducible rfl))
            try simp only [Act.put, List.getElem_toArray, List.getElem_cons_zero, List.getElem_cons_succ, List.setIfInBounds_toArray, List.set_cons_zero, List.set_cons_succ]
            refine anyT_takeN (i := 1) (v := ?vrb1) rfl (by kernel_rfl) (by kernel_rfl) (by kernel_rfl) (by rfl) (fun _ _ _ h => h) (Or.inl ⟨by rfl, ?yrb1⟩) hS0 ?_
            case yrb1 => (intro wz hSw; obtain ⟨hz0, hz1⟩ := hSw; go_simp; (try with_reducible rfl))
            try simp only [Act.put, List.getElem_toArray, List.getElem_cons_zero, List.getElem_cons_succ, List.setIfInBounds_toArray, List.set_cons_zero, List.set_cons_succ]
            refine anyT_takeN (i := 2) (v := ?vrb2) rfl (by kernel_rfl) (by kernel_rfl) (by kernel_rfl) (by rfl) (fun _ _ _ h => h) (Or.inl ⟨by rfl, ?yrb2⟩) hS0 ?_
            case yrb2 => (intro wz hSw; obtain ⟨hz0, hz1⟩ := hSw; go_simp; (try with_reducible rfl))
            try simp only [Act.put, List.getElem_toArray, List.getElem_cons_zero, List.getElem_cons_succ, List.setIfInBounds_toArray, List.set_cons_zero, List.set_cons_succ]
            refine anyT_takeN (i := 3) (v := ?vrb3) rfl (by kernel_rfl) (by kernel_rfl) (by kernel_rfl) (by rfl) (fun _ _ _ h => h) (Or.inl ⟨by rfl, ?yrb3⟩) hS0 ?_
            case yrb3 => (intro wz hSw; obtain ⟨hz0, hz1⟩ := hSw; go_simp; (try with_reducible rfl))
            try simp only [Act.put, List.getElem_toArray, List.getElem_cons_zero, List.getElem_cons_succ, List.setIfInBounds_toArray, List.set_cons_zero, List.set_cons_succ]
            refine anyT_takeN (i := 4) (v := ?vrb4) rfl (by kernel_rfl) (by kernel_rfl) (by kernel_rfl) (by rfl) (fun _ _ _ h => h) (Or.inl ⟨by rfl, ?yrb4⟩) hS0 ?_
            case yrb4 => (intro wz hSw; obtain ⟨hz0, hz1⟩ := hSw; go_simp; (try with_reducible rfl))
            try simp only [Act.put, List.getElem_toArray, List.getElem_cons_zero, List.getElem_cons_succ, List.setIfInBounds_toArray, List.set_cons_zero, List.set_cons_succ]
            refine anyT_takeN (i := 5) (v := ?vrb5) rfl (by kernel_rfl) (by kernel_rfl) (by kernel_rfl) (by rfl) (fun _ _ _ h => h) (Or.inl ⟨by rfl, ?yrb5⟩) hS0 ?_
            case yrb5 => (intro wz hSw; obtain ⟨hz0, hz1⟩ := hSw; go_simp; (try with_reducible rfl))
            try simp only [Act.put, List.getElem_toArray, List.getElem_cons_zero, List.getElem_cons_succ, List.setIfInBounds_toArray, List.set_cons_zero, List.set_cons_succ]
            refine anyT_takeN (i := 6) (v := ?vrb6) rfl (by kernel_rfl) (by kernel_rfl) (by kernel_rfl) (by rfl) (fun _ _ _ h => h) (Or.inl ⟨by rfl, ?yrb6⟩) hS0 ?_
            case yrb6 => (intro wz hSw; obtain ⟨hz0, hz1⟩ := hSw; go_simp; (try with_reducible rfl))
            try simp only [Act.put, List.getElem_toArray, List.getElem_cons_zero, List.getElem_cons_succ, List.setIfInBounds_toArray, List.set_cons_zero, List.set_cons_succ]
            refine anyT_takeN (i := 7) (v := ?vrb7) rfl (by kernel_rfl) (by kernel_rfl) (by kernel_rfl) (by rfl) (fun _ _ _ h => h) (Or.inl ⟨by rfl, ?yrb7⟩) hS0 ?_
            case yrb7 => (intro wz hSw; obtain ⟨hz0, hz1⟩ := hSw; go_simp; (try with_reducible rfl))
            try simp only [Act.put, List.getElem_toArray, List.getElem_cons_zero, List.getElem_cons_succ, List.setIfInBounds_toArray, List.set_cons_zero, List.set_cons_succ]
            refine anyT_takeN (i := 8) (v := ?vrb8) rfl (by kernel_rfl) (by kernel_rfl) (by kernel_rfl) (by rfl) (fun _ _ _ h => h) (Or.inl ⟨by rfl, ?yrb8⟩) hS0 ?_
            case yrb8 => (intro wz hSw; obtain ⟨hz0, hz1⟩ := hSw; go_simp; (try with_reducible rfl))
            try simp only [Act.put, List.getElem_toArray, List.getElem_cons_zero, List.getElem_cons_succ, List.setIfInBounds_toArray, List.set_cons_zero, List.set_cons_succ]
            refine anyT_takeN (i := 9) (v := ?vrb9) rfl (by kernel_rfl) (by kernel_rfl) (by kernel_rfl) (by rfl) (fun _ _ _ h => h) (Or.inl ⟨by rfl, ?yrb9⟩) hS0 ?_
            case yrb9 => (intro wz hSw; obtain ⟨hz0, hz1⟩ := hSw; go_simp; (try with_reducible rfl))
            try simp only [Act.put, List.getElem_toArray, List.getElem_cons_zero, List.getElem_cons_succ, List.setIfInBounds_toArray, List.set_cons_zero, List.set_cons_succ]
            refine anyT_takeN (i := 10) (v := ?vrb10) rfl (by kernel_rfl) (by kernel_rfl) (by kernel_rfl) (by rfl) (fun _ _ _ h => h) (Or.inl ⟨by rfl, ?yrb10⟩) hS0 ?_
            case yrb10 => (intro wz hSw; obtain ⟨hz0, hz1⟩ := hSw; go_simp; (try with_reducible rfl))
            try simp only [Act.put, List.getElem_toArray, List.getElem_cons_zero, List.getElem_cons_succ, List.setIfInBounds_toArray, List.set_cons_zero, List.set_cons_succ]
            refine anyT_takeN (i := 11) (v := ?vrb11) rfl (by kernel_rfl) (by kernel_rfl) (by kernel_rfl) (by rfl) (fun _ _ _ h => h) (Or.inl ⟨by rfl, ?yrb11⟩) hS0 ?_
            case yrb11 => (intro wz hSw; obtain ⟨hz0, hz1⟩ := hSw; go_simp; (try with_reducible rfl))
            try simp only [Act.put, List.getElem_toArray, List.getElem_cons_zero, List.getElem_cons_succ, List.setIfInBounds_toArray, List.set_cons_zero, List.set_cons_succ]
            refine anyT_takeN (i := 12) (v := ?vrb12) rfl (by kernel_rfl) (by kernel_rfl) (by kernel_rfl) (by rfl) (fun _ _ _ h => h) (Or.inl ⟨by rfl, ?yrb12⟩) hS0 ?_
            case yrb12 => (intro wz hSw; obtain ⟨hz0, hz1⟩ := hSw; go_simp; (try with_reducible rfl))
            try simp only [Act.put, List.getElem_toArray, List.getElem_cons_zero, List.getElem_cons_succ, List.setIfInBounds_toArray, List.set_cons_zero, List.set_cons_succ]
            refine anyT_takeN (i := 13) (v := ?vrb13) rfl (by kernel_rfl) (by kernel_rfl) (by kernel_rfl) (by rfl) (fun _ _ _ h => h) (Or.inl ⟨by rfl, ?yrb13⟩) hS0 ?_
            case yrb13 => (intro wz hSw; obtain ⟨hz0, hz1⟩ := hSw; go_simp; (try with_reducible rfl))
            try simp only [Act.put, List.getElem_toArray, List.getElem_cons_zero, List.getElem_cons_succ, List.setIfInBounds_toArray, List.set_cons_zero, List.set_cons_succ]
            refine anyT_takeN (i := 14) (v := ?vrb14) rfl (by kernel_rfl) (by kernel_rfl) (by kernel_rfl) (by rfl) (fun _ _ _ h => h) (Or.inl ⟨by rfl, ?yrb14⟩) hS0 ?_
            case yrb14 => (intro wz hSw; obtain ⟨hz0, hz1⟩ := hSw; go_simp; (try with_reducible rfl))
            try simp only [Act.put, List.getElem_toArray, List.getElem_cons_zero, List.getElem_cons_succ, List.setIfInBounds_toArray, List.set_cons_zero, List.set_cons_succ]
            refine anyT_takeN (i := 15) (v := ?vrb15) rfl (by kernel_rfl) (by kernel_rfl) (by kernel_rfl) (by rfl) (fun _ _ _ h => h) (Or.inl ⟨by rfl, ?yrb15⟩) hS0 ?_
            case yrb15 => (intro wz hSw; obtain ⟨hz0, hz1⟩ := hSw; go_simp; (try with_reducible rfl))
            try simp only [Act.put, List.getElem_toArray, List.getElem_cons_zero, List.getElem_cons_succ, List.setIfInBounds_toArray, List.set_cons_zero, List.set_cons_succ]
            refine anyT_takeN (i := 16) (v := ?vrb16) rfl (by kernel_rfl) (by kernel_rfl) (by kernel_rfl) (by rfl) (fun _ _ _ h => h) (Or.inl ⟨by rfl, ?yrb16⟩) hS0 ?_
            case yrb16 => (intro wz hSw; obtain ⟨hz0, hz1⟩ := hSw; go_simp; (try with_reducible rfl))
            try simp only [Act.put, List.getElem_toArray, List.getElem_cons_zero, List.getElem_cons_succ, List.setIfInBounds_toArray, List.set_cons_zero, List.set_cons_succ]
            refine anyT_done (by kernel_rfl) ?_
            go_wp2_with fail
            go_roundw
            case rel => exact ⟨j + 1, by omega, by omega, by go_num, HS2.out, HBd.out⟩
            case measure => go_light; simp [intOf]; omega
        · obtain rfl : j = N := by omega
          have zj : ¬ (j : Int) < (j : Int) := by omega
          have HBd : Hid (Below wo.heap.size wo wr.drew) := HQ.out.2.trans (((Below.refl _ _).drew).mono HQ.out.2.size)
          have HE : Hid (IsEnd es i j) := ⟨hlt, by rw [← HL.out.2]; omega, HQ.out.1, fun q => by rw [← HL.out.2] at q; omega⟩
          have hS0 : (fun _ : World => True) wr.drew := trivial
          go_upto_region 5 with fail
          refine wp_region_T 99 (fun _ : World => True) (by kernel_rfl) ?_
          refine anyT_takeN (i := 0) (v := ?vrc0) rfl (by kernel_rfl) (by kernel_rfl) (by kernel_rfl) (by rfl) (fun _ _ _ h => h) (Or.inl ⟨by rfl, ?yrc0⟩) hS0 ?_
          case yrc0 => (intro wz hSw; obtain _hz := hSw; go_simp; (try with_reducible rfl))
          try simp only [Act.put, List.getElem_toArray, List.getElem_cons_zero, List.getElem_cons_succ, List.setIfInBounds_toArray, List.set_cons_zero, List.set_cons_succ]
          refine anyT_takeN (i := 1) (v := ?vrc1) rfl (by kernel_rfl) (by kernel_rfl) (by kernel_rfl) (by rfl) (fun _ _ _ h => h) (Or.inl ⟨by rfl, ?yrc1⟩) hS0 ?_
          case yrc1 => (intro wz hSw; obtain _hz := hSw; go_simp; (try with_reducible rfl))
          try simp only [Act.put, List.getElem_toArray, List.getElem_cons_zero, List.getElem_cons_succ, List.setIfInBounds_toArray, List.set_cons_zero, List.set_cons_succ]
          refine anyT_takeN (i := 2) (v := ?vrc2) rfl (by kernel_rfl) (by kernel_rfl) (by kernel_rfl) (by rfl) (fun _ _ _ h => h) (Or.inl ⟨by rfl, ?yrc2⟩) hS0 ?_
          case yrc2 => (intro wz hSw; obtain _hz := hSw; go_simp; (try with_reducible rfl))
          try simp only [Act.put, List.getElem_toArray, List.getElem_cons_zero, List.getElem_cons_succ, List.setIfInBounds_toArray, List.set_cons_zero, List.set_cons_succ]
          refine anyT_takeN (i := 3) (v := ?vrc3) rfl (by kernel_rfl) (by kernel_rfl) (by kernel_rfl) (by rfl) (fun _ _ _ h => h) (Or.inl ⟨by rfl, ?yrc3⟩) hS0 ?_
          case yrc3 => (intro wz hSw; obtain _hz := hSw; go_simp; (try with_reducible rfl))
          try simp only [Act.put, List.getElem_toArray, List.getElem_cons_zero, List.getElem_cons_succ, List.setIfInBounds_toArray, List.set_cons_zero, List.set_cons_succ]
          refine anyT_takeN (i := 4) (v := ?vrc4) rfl (by kernel_rfl) (by kernel_rfl) (by kernel_rfl) (by rfl) (fun _ _ _ h => h) (Or.inl ⟨by rfl, ?yrc4⟩) hS0 ?_
          case yrc4 => (intro wz hSw; obtain _hz := hSw; go_simp; (try with_reducible rfl))
          try simp only [Act.put, List.getElem_toArray, List.getElem_cons_zero, List.getElem_cons_succ, List.setIfInBounds_toArray, List.set_cons_zero, List.set_cons_succ]
          refine anyT_takeN (i := 5) (v := undef) rfl (by kernel_rfl) (by kernel_rfl) (by kernel_rfl) (by rfl) (fun _ _ _ h => h) (Or.inr ⟨by rfl, rfl⟩) hS0 ?_
          try simp only [Act.put, List.getElem_toArray, List.getElem_cons_zero, List.getElem_cons_succ, List.setIfInBounds_toArray, List.set_cons_zero, List.set_cons_succ]
          refine anyT_takeN (i := 6) (v := undef) rfl (by kernel_rfl) (by kernel_rfl) (by kernel_rfl) (by rfl) (fun _ _ _ h => h) (Or.inr ⟨by rfl, rfl⟩) hS0 ?_
          try simp only [Act.put, List.getElem_toArray, List.getElem_cons_zero, List.getElem_cons_succ, List.setIfInBounds_toArray, List.set_cons_zero, List.set_cons_succ]
          refine anyT_takeN (i := 7) (v := undef) rfl (by kernel_rfl) (by kernel_rfl) (by kernel_rfl) (by rfl) (fun _ _ _ h => h) (Or.inr ⟨by rfl, rfl⟩) hS0 ?_
          try simp only [Act.put, List.getElem_toArray, List.getElem_cons_zero, List.getElem_cons_succ, List.setIfInBounds_toArray, List.set_cons_zero, List.set_cons_succ]
          refine anyT_takeN (i := 8) (v := undef) rfl (by kernel_rfl) (by kernel_rfl) (by kernel_rfl) (by rfl) (fun _ _ _ h => h) (Or.inr ⟨by rfl, rfl⟩) hS0 ?_
          try simp only [Act.put, List.getElem_toArray, List.getElem_cons_zero, List.getElem_cons_succ, List.setIfInBounds_toArray, List.set_cons_zero, List.set_cons_succ]
          refine anyT_takeN (i := 9) (v := undef) rfl (by kernel_rfl) (by kernel_rfl) (by kernel_rfl) (by rfl) (fun _ _ _ h => h) (Or.inr ⟨by rfl, rfl⟩) hS0 ?_
          try simp only [Act.put, List.getElem_toArray, List.getElem_cons_zero, List.getElem_cons_succ, List.setIfInBounds_toArray, List.set_cons_zero, List.set_cons_succ]
          refine anyT_takeN (i := 10) (v := undef) rfl (by kernel_rfl) (by kernel_rfl) (by kernel_rfl) (by rfl) (fun _ _ _ h => h) (Or.inr ⟨by rfl, rfl⟩) hS0 ?_
          try simp only [Act.put, List.getElem_toArray, List.getElem_cons_zero, List.getElem_cons_succ, List.setIfInBounds_toArray, List.set_cons_zero, List.set_cons_succ]
          refine anyT_takeN (i := 11) (v := undef) rfl (by kernel_rfl) (by kernel_rfl) (by kernel_rfl) (by rfl) (fun _ _ _ h => h) (Or.inr ⟨by rfl, rfl⟩) hS0 ?_
          try simp only [Act.put, List.getElem_toArray, List.getElem_cons_zero, List.getElem_cons_succ, List.setIfInBounds_toArray, List.set_cons_zero, List.set_cons_succ]
          refine anyT_takeN (i := 12) (v := undef) rfl (by kernel_rfl) (by kernel_rfl) (by kernel_rfl) (by rfl) (fun _ _ _ h => h) (Or.inr ⟨by rfl, rfl⟩) hS0 ?_
          try simp only [Act.put, List.getElem_toArray, List.getElem_cons_zero, List.getElem_cons_succ, List.setIfInBounds_toArray, List.set_cons_zero, List.set_cons_succ]
          refine anyT_takeN (i := 13) (v := undef) rfl (by kernel_rfl) (by kernel_rfl) (by kernel_rfl) (by rfl) (fun _ _ _ h => h) (Or.inr ⟨by rfl, rfl⟩) hS0 ?_
          try simp only [Act.put, List.getElem_toArray, List.getElem_cons_zero, List.getElem_cons_succ, List.setIfInBounds_toArray, List.set_cons_zero, List.set_cons_succ]
          refine anyT_takeN (i := 14) (v := undef) rfl (by kernel_rfl) (by kernel_rfl) (by kernel_rfl) (by rfl) (fun _ _ _ h => h) (Or.inr ⟨by rfl, rfl⟩) hS0 ?_
          try simp only [Act.put, List.getElem_toArray, List.getElem_cons_zero, List.getElem_cons_succ, List.setIfInBounds_toArray, List.set_cons_zero, List.set_cons_succ]
          refine anyT_takeN (i := 15) (v := undef) rfl (by kernel_rfl) (by kernel_rfl) (by kernel_rfl) (by rfl) (fun _ _ _ h => h) (Or.inr ⟨by rfl, rfl⟩) hS0 ?_
          try simp only [Act.put, List.getElem_toArray, List.getElem_cons_zero, List.getElem_cons_succ, List.setIfInBounds_toArray, List.set_cons_zero, List.set_cons_succ]
          refine anyT_takeN (i := 16) (v := ?vrc16) rfl (by kernel_rfl) (by kernel_rfl) (by kernel_rfl) (by rfl) (fun _ _ _ h => h) (Or.inl ⟨by rfl, ?yrc16⟩) hS0 ?_
          case yrc16 => (intro wz hSw; obtain _hz := hSw; go_simp; (try with_reducible rfl))
          try simp only [Act.put, List.getElem_toArray, List.getElem_cons_zero, List.getElem_cons_succ, List.setIfInBounds_toArray, List.set_cons_zero, List.set_cons_succ]
          refine anyT_done (by kernel_rfl) ?_
          have HX : Hid (A = (P ++ [(i, j)]) ++ allC es j) := by
            show _ = _
            rw [HP.out.1, allC_step HE.out]
            simp
          have hij2 : i ≤ j := hij
          have HPl : Hid (m = (P.map (segV b off cap)).length) := by rw [List.length_map]; exact HP.out.2.1
          have hbz := HP.out.2.2.2.size
          have hlt3 := HP.out.2.2.1.lt
          have hbd := HBd.out.size
          go_wp2_with (at_builtin; refine wpList_append_cs _ rfl _ _ rfl w.heap.size g cp _ _ (P.map (segV b off cap)) (segV b off cap (i, j)) rfl rfl HPl.out ?hO ?hc ?hy ?hl ?hb ?_)
          case hO => exact (HP.out.2.2.1.below HBd.out).below ((Below.refl _ _).alloc (Nat.le_refl _) _)
          case hc => simp [go_sem, segV]
          case hy => rfl
          case hl => (have h9 := HP.out.2.1; simp; omega)
          case hb => exact Nat.le_succ_of_le (HP.out.2.2.2.trans (HBd.out.mono hbz)).size
          intro g' cp' w' hO' hgr hat
          have HN : Hid (∃ P', A = P' ++ allC es j ∧ m + 1 = P'.length ∧ OwnCs w' w.heap.size g' cp' (P'.map (segV b off cap)) ∧ Below w.heap.size w w') := by
            refine ⟨P ++ [(i, j)], HX.out, by rw [List.length_append, ← HP.out.2.1]; rfl, by rw [List.map_append]; exact hO', ?_⟩
            have k1 := HP.out.2.2.2.trans (HBd.out.mono hbz)
            have k2 := k1.alloc k1.size (Obj.cells #[segV b off cap (i, j)] 28)
            exact k2.grown hgr k2.size (fun q hq => by cases hq; omega)
          clear hO' hgr hat
          go_wp2_with fail
          go_roundw
          case rel => exact ⟨j, g', cp', m + 1, by omega, rfl, rfl, by have := HE.out.lt; omega, HN.out⟩
          case measure => go_light; simp [intOf]; have := HE.out.lt; omega
    · obtain rfl : i = N := by omega
      have zi : ¬ (i : Int) < (i : Int) := by omega
      obtain ⟨P, hP⟩ := HJ.out
      have HE : Hid (A = P ∧ m = P.length ∧ OwnCs wr w.heap.size g cp (P.map (segV b off cap)) ∧ Below w.heap.size w wr) := ⟨by rw [hP.1, allC_done (by rw [← HL.out.2]; omega), List.append_nil], hP.2⟩
      clear hP HJ
      go_wp2_with fail
      go_ret
      refine ⟨g, cp, ?_, ?_, HE.out.2.2.2⟩
      · rw [HE.out.1, ← HE.out.2.1]; rfl
      · rw [HE.out.1]; exact HE.out.2.2.1
end Go.Proofs.YtkidabedcgngcaaGreatDoor

/-
  Runs that are valid: the loop of spec.ValidRun.
-/
namespace Go.Proofs.YtkidabedcgngcaaGreatDoor
open Go.ChangeShapes Go.WideShapes Go.ChangeAt Go.RowKit Go.Deep
set_option linter.unusedVariables false

theorem okPair_f1 {p e : Ent} (h : (keyCmp p e != -1) = true) : okPair p e = false := by
  unfold okPair; simp at h; simp [h]
theorem okPair_t1 {p e : Ent} (h : (keyCmp p e != -1) = false) (h2 : (p.kind == 2) = false) : okPair p e = true := by
  unfold okPair; simp at h; simp [h, h2]
theorem okPair_t2 {p e : Ent} (h : (keyCmp p e != -1) = false) (h2 : (e.kind == 2) = false) : okPair p e = true := by
  unfold okPair; simp at h; simp [h, h2]
theorem okPair_s {p e : Ent} (h : (keyCmp p e != -1) = false) (h2 : (p.kind == 2) = true) (h3 : (e.kind == 2) = true) : okPair p e = !sameCol p e := by
  unfold okPair; simp at h; simp [h, h2, h3]

/-- How the test of spec.ValidRun on two neighbours comes out. -/
theorem pair_ways (p e : Ent) :
    ((keyCmp p e != -1) = true ∧ okPair p e = false) ∨ ((keyCmp p e != -1) = false ∧ (p.kind == 2) = false ∧ okPair p e = true) ∨
    ((keyCmp p e != -1) = false ∧ (p.kind == 2) = true ∧ (e.kind == 2) = false ∧ okPair p e = true) ∨
    ((keyCmp p e != -1) = false ∧ (p.kind == 2) = true ∧ (e.kind == 2) = true ∧ sameCol p e = true ∧ okPair p e = false) ∨
    ((keyCmp p e != -1) = false ∧ (p.kind == 2) = true ∧ (e.kind == 2) = true ∧ sameCol p e = false ∧ okPair p e = true) := by
  cases h1 : (keyCmp p e != -1)
  · cases h2 : (p.kind == 2)
    · exact .inr (.inl ⟨rfl, rfl, okPair_t1 h1 h2⟩)
    · cases h3 : (e.kind == 2)
      · exact .inr (.inr (.inl ⟨rfl, rfl, rfl, okPair_t2 h1 h3⟩))
      · cases h4 : sameCol p e
        · exact .inr (.inr (.inr (.inr ⟨rfl, rfl, rfl, rfl, by rw [okPair_s h1 h2 h3, h4]; rfl⟩)))
        · exact .inr (.inr (.inr (.inl ⟨rfl, rfl, rfl, rfl, by rw [okPair_s h1 h2 h3, h4]; rfl⟩)))
  · exact .inl ⟨rfl, okPair_f1 h1⟩

set_option maxHeartbeats 2000000 in
theorem specValidRun_core (b off cap : Nat) (es : List Ent) (w : World) (hE : EntsAt w b off es) (hok : ∀ e ∈ es, e.ok) (hB : b < w.heap.size) (hlen : es.length ≤ cap) (hcap : cap ≤ maxLen) :
    Calls Tryz.prog 51 #[.agg #[.slice (some ⟨b, off, none⟩) es.length cap]] w fun e w' =>
      ∃ r : Bool, e = .returned (.bool r) ∧ (r = true ↔ GoodR es) ∧ Below w.heap.size w w' := by
  obtain ⟨W0, hW0⟩ : ∃ W0 : World, W0 = w.alloc (Obj.cells #[.slice (some ⟨b, off, none⟩) es.length cap] 90) := ⟨_, rfl⟩
  have hb0 : Below w.heap.size w W0 := by rw [hW0]; exact (Below.refl _ _).alloc (Nat.le_refl _) _
  have hz0 : w.heap.size < W0.heap.size := by rw [hW0]; simp
  have ca : W0.cell? ⟨w.heap.size, 0, none⟩ = some (.slice (some ⟨b, off, none⟩) es.length cap) := by rw [hW0]; simp
  have HE : Hid (EntsAt W0 b off es) := hE.below hb0 hB
  have HO : Hid (∀ e ∈ es, e.ok) := hok
  clear hE hok
  unfold maxLen at hcap
  by_cases hbig : 10000 < es.length
  · have H : Hid (¬ GoodR es) := fun h => by have := h.1.1; omega
    go_enter Tryz.func51, Tryz.ntmps51
    go_wp2
    go_ret
    exact ⟨_, rfl, iffF H.out, (Below.refl _ _).alloc (Nat.le_refl _) _⟩
  go_enter Tryz.func51, Tryz.ntmps51
  go_wp2_with fail
  rw [← hW0]
  clear hW0
  go_loopw [3] (fun i wr => ∃ (k : Nat), k ≤ es.length ∧ i = .int .i64 k ∧ (∀ x ∈ es.take k, x.vld = true) ∧ PairsTo es k ∧ Below W0.heap.size W0 wr) (fun i _ => es.length - (intOf i).toNat)
  case atStart => exact ⟨0, Nat.zero_le _, rfl, by simp, fun i p e hi => by omega, Below.refl _ _⟩
  case round =>
    obtain ⟨k, hk, rfl, hv, hP, hb⟩ := hrel
    have HV : Hid ((∀ x ∈ es.take k, x.vld = true) ∧ PairsTo es k) := ⟨hv, hP⟩
    clear hv hP
    have hs2 := hb.size
    have car : wr.cell? ⟨w.heap.size, 0, none⟩ = some (.slice (some ⟨b, off, none⟩) es.length cap) := by rw [hb.cell (p := ⟨w.heap.size, 0, none⟩) (by show w.heap.size < _; omega)]; exact ca
    by_cases hlt : k < es.length
    · obtain ⟨e, he⟩ : ∃ e, es[k]? = some e := ⟨_, List.getElem?_eq_getElem hlt⟩
      have HEr := HE.out.below hb (by omega)
      obtain ⟨c0, c1, c2, c3, c4, c5⟩ := HEr k e he
      have HK : Hid (e.ok ∧ es[k]? = some e ∧ EntsAt wr b off es) := ⟨HO.out e (List.mem_of_getElem? he), he, HEr⟩
      clear he HEr
      go_wp2_with fail
      refine (specValid_core e.row e.fam e.qual e.val e.ts e.kind _ HK.out.1.row HK.out.1.fam HK.out.1.qual HK.out.1.val).mono ?_
      rintro e' w1 ⟨rfl, hb1⟩
      obtain ⟨hc1, hf1⟩ := bcell hb1
      have hz1 : wr.heap.size < w1.heap.size := by have := hb1.size; simp at this; omega
      have hb2 := (hb.alloc hb.size (Obj.cells #[.string e.row, .string e.fam, .string e.qual, .int .u64 e.ts, .int .i64 e.kind, .string e.val] 102)).trans (hb1.mono (by simp; omega))
      clear c0 c1 c2 c3 c4 c5
      cases hv : vE e.row e.fam e.qual e.kind e.val
      · have H : Hid (¬ GoodR es) := fun h => by
          have := h.1.2 e (List.mem_of_getElem? HK.out.2.1)
          unfold Ent.vld at this
          rw [hv] at this
          cases this
        go_wp2_with fail
        go_ret
        exact ⟨_, rfl, iffF H.out, hb0.trans (hb2.mono (by omega))⟩
      · have H : Hid (∀ x ∈ es.take (k + 1), x.vld = true) := vld_of_take HV.out.1 HK.out.2.1 hv
        by_cases hk0 : k = 0
        · subst hk0
          go_wp2_with fail
          go_roundw
          case rel => exact ⟨0 + 1, by omega, by go_num, H.out, fun i p e hi => by omega, hb2⟩
          case measure => simp [intOf]; omega
        · obtain ⟨m, rfl⟩ : ∃ m, k = m + 1 := ⟨k - 1, by omega⟩
          obtain ⟨p, hp⟩ : ∃ e, es[m]? = some e := ⟨_, List.getElem?_eq_getElem (by omega)⟩
          have hbw : Below wr.heap.size wr w1 := ((Below.refl _ _).alloc (Nat.le_refl _) (Obj.cells #[.string e.row, .string e.fam, .string e.qual, .int .u64 e.ts, .int .i64 e.kind, .string e.val] 102)).trans (hb1.mono (by simp))
          have car1 : w1.cell? ⟨w.heap.size, 0, none⟩ = some (.slice (some ⟨b, off, none⟩) es.length cap) := by rw [hbw.cell (p := ⟨w.heap.size, 0, none⟩) (by show w.heap.size < _; omega)]; exact car
          obtain ⟨d0, d1, d2, d3, d4, d5⟩ := HK.out.2.2.below hbw (by omega) m p hp
          have HKp : Hid (es[m]? = some p) := hp
          clear hp
          have hw : IntKind.i64.wrap (m : Int) = (m : Int) := Go.IntWalk.i64_in _ (by omega)
          go_wp2_with fail
          refine (specCompareKeys_any p e _).mono ?_
          rintro e' w2 ⟨rfl, hb3⟩
          obtain ⟨hc3, hf3⟩ := bcell hb3
          have hz3 : w1.heap.size < w2.heap.size := by have := hb3.size; simp at this; omega
          have hb4 := (hb2.alloc hb2.size (Obj.cells #[.string p.row, .string p.fam, .string p.qual, .int .u64 p.ts, .int .i64 p.kind, .string p.val] 102)).trans (hb3.mono (by have := hb2.size; simp; omega))
          clear d0 d1 d2 d3 d4 d5
          rcases pair_ways p e with ⟨g1, ho⟩ | ⟨g1, g2, ho⟩ | ⟨g1, g2, g3, ho⟩ | ⟨g1, g2, g3, g4, ho⟩ | ⟨g1, g2, g3, g4, ho⟩
          · have H2 : Hid (¬ GoodR es) := fun h => by
              have := h.2 m p e HKp.out HK.out.2.1
              rw [ho] at this; cases this
            go_wp2_with fail
            go_ret
            exact ⟨_, rfl, iffF H2.out, hb0.trans (hb4.mono (by omega))⟩
          · have H2 : Hid (PairsTo es (m + 1 + 1)) := pairsTo_succ HV.out.2 HKp.out HK.out.2.1 ho
            go_wp2_with fail
            go_roundw
            case rel => exact ⟨m + 1 + 1, by omega, by go_num, H.out, H2.out, hb4⟩
            case measure => simp [intOf]; omega
          · have H2 : Hid (PairsTo es (m + 1 + 1)) := pairsTo_succ HV.out.2 HKp.out HK.out.2.1 ho
            go_wp2_with fail
            go_roundw
            case rel => exact ⟨m + 1 + 1, by omega, by go_num, H.out, H2.out, hb4⟩
            case measure => simp [intOf]; omega
          · have H2 : Hid (¬ GoodR es) := fun h => by
              have := h.2 m p e HKp.out HK.out.2.1
              rw [ho] at this; cases this
            go_wp2_with fail
            refine (sameColumn_any p e _).mono ?_
            rintro e' w3 ⟨rfl, hb5⟩
            have hb6 := hb4.trans (hb5.mono hb4.size)
            go_wp2_with fail
            go_ret
            exact ⟨_, rfl, iffF H2.out, hb0.trans (hb6.mono (by omega))⟩
          · have H2 : Hid (PairsTo es (m + 1 + 1)) := pairsTo_succ HV.out.2 HKp.out HK.out.2.1 ho
            go_wp2_with fail
            refine (sameColumn_any p e _).mono ?_
            rintro e' w3 ⟨rfl, hb5⟩
            have hb6 := hb4.trans (hb5.mono hb4.size)
            go_wp2_with fail
            go_roundw
            case rel => exact ⟨m + 1 + 1, by omega, by go_num, H.out, H2.out, hb6⟩
            case measure => simp [intOf]; omega
    · go_wp2_with fail
      go_ret
      refine ⟨_, rfl, iffT ⟨⟨by omega, fun e he => ?_⟩, pairs_of_to HV.out.2 (by omega)⟩, hb0.trans (hb.mono (by omega))⟩
      have := HV.out.1
      rw [List.take_of_length_le (by omega)] at this
      exact this e he
end Go.Proofs.YtkidabedcgngcaaGreatDoor

/-
  impl.ValidCells, spec.ValidCells.
-/
namespace Go.Proofs.YtkidabedcgngcaaGreatDoor
open Go.ChangeShapes Go.WideShapes Go.ChangeAt Go.RowKit Go.Deep
set_option linter.unusedVariables false
set_option linter.unusedSimpArgs false
set_option maxRecDepth 100000

theorem putE_ok {e : Ent} (h : e.ok) : (putE e).ok := ⟨h.row, h.fam, h.qual, h.val, h.ts, (show (Lit.int .i64 0).wf = true by decide)⟩
theorem okPair_put (a b : Ent) : okPair (putE a) (putE b) = (keyCmp (putE a) (putE b) == -1) := by
  unfold okPair putE; simp
set_option maxHeartbeats 2000000 in
theorem cellCompare_any (a b : Ent) (w : World) :
    Calls Tryz.prog 60 #[a.c, b.c] w fun e w' => e = .returned (.int .i64 (keyCmp (putE a) (putE b))) ∧ Below w.heap.size w w' := by
  unfold Ent.c
  obtain ⟨W0, hW0⟩ : ∃ W0 : World, W0 = (w.alloc (Obj.cells #[.string a.row, .string a.fam, .string a.qual, .int .u64 a.ts, .string a.val] 55)).alloc (Obj.cells #[.string b.row, .string b.fam, .string b.qual, .int .u64 b.ts, .string b.val] 55) := ⟨_, rfl⟩
  have hb0 : Below w.heap.size w W0 := by rw [hW0]; exact ((Below.refl _ _).alloc (Nat.le_refl _) _).alloc (by simp) _
  have hz0 : W0.heap.size = w.heap.size + 2 := by rw [hW0]; simp
  have HA : Hid (CelsAt W0 w.heap.size 0 [a] ∧ CelsAt W0 (w.heap.size + 1) 0 [b]) := by
    rw [hW0]
    refine ⟨(cel_new w a).below ((Below.refl _ _).alloc (Nat.le_refl _) _) (by simp), ?_⟩
    have := cel_new (w.alloc (Obj.cells #[.string a.row, .string a.fam, .string a.qual, .int .u64 a.ts, .string a.val] 55)) b
    simpa using this
  have q : ∀ n : Out W0, CelsAt n.u w.heap.size 0 [a] ∧ CelsAt n.u (w.heap.size + 1) 0 [b] := fun n => ⟨HA.out.1.below n.out (by omega), HA.out.2.below n.out (by omega)⟩
  have a0 : ∀ n : Out W0, n.u.cell? ⟨w.heap.size, 0, none⟩ = some (.string a.row) := fun n => by simpa using ((q n).1 0 a rfl).1
  have a1 : ∀ n : Out W0, n.u.cell? ⟨w.heap.size, 1, none⟩ = some (.string a.fam) := fun n => by simpa using ((q n).1 0 a rfl).2.1
  have a2 : ∀ n : Out W0, n.u.cell? ⟨w.heap.size, 2, none⟩ = some (.string a.qual) := fun n => by simpa using ((q n).1 0 a rfl).2.2.1
  have a3 : ∀ n : Out W0, n.u.cell? ⟨w.heap.size, 3, none⟩ = some (.int .u64 a.ts) := fun n => by simpa using ((q n).1 0 a rfl).2.2.2.1
  have a4 : ∀ n : Out W0, n.u.cell? ⟨w.heap.size, 4, none⟩ = some (.string a.val) := fun n => by simpa using ((q n).1 0 a rfl).2.2.2.2
  have b0 : ∀ n : Out W0, n.u.cell? ⟨w.heap.size + 1, 0, none⟩ = some (.string b.row) := fun n => by simpa using ((q n).2 0 b rfl).1
  have b1 : ∀ n : Out W0, n.u.cell? ⟨w.heap.size + 1, 1, none⟩ = some (.string b.fam) := fun n => by simpa using ((q n).2 0 b rfl).2.1
  have b2 : ∀ n : Out W0, n.u.cell? ⟨w.heap.size + 1, 2, none⟩ = some (.string b.qual) := fun n => by simpa using ((q n).2 0 b rfl).2.2.1
  have b3 : ∀ n : Out W0, n.u.cell? ⟨w.heap.size + 1, 3, none⟩ = some (.int .u64 b.ts) := fun n => by simpa using ((q n).2 0 b rfl).2.2.2.1
  have b4 : ∀ n : Out W0, n.u.cell? ⟨w.heap.size + 1, 4, none⟩ = some (.string b.val) := fun n => by simpa using ((q n).2 0 b rfl).2.2.2.2
  clear q HA
  go_enter Tryz.func60, Tryz.ntmps60
  go_upto_region 1 with fail
  rw [← hW0]
  clear hW0 hz0
  have inh : Nonempty (Out W0) := ⟨⟨W0, Below.refl _ _⟩⟩
  refine wp_region_out (by kernel_rfl) (by kernel_rfl) ?_
  repeat (go_big_quiet_step ((first | (go_at_call 59; exact Calls.out_of (implPut_any _ _)) | (go_at_call 101; exact Calls.out_of (compare_any (putE a) (putE b) _)))))
  refine wpQuiet_nil ?_
  rintro w1 ⟨⟨wx, hb1⟩, rfl⟩
  go_wp2_with fail
  go_ret
  exact ⟨rfl, hb0.trans (hb1.mono hb0.size)⟩

/-- Whether it holds is told. -/
def ValPost (P : Prop) (w : World) (e : Ending) (w' : World) : Prop := ∃ r : Bool, e = .returned (.bool r) ∧ (r = true ↔ P) ∧ Below w.heap.size w w'
theorem pairsTo_one (es : List Ent) : PairsTo es 1 := fun i p e hi => by omega
theorem goodPut_pair {L : List Ent} {i : Nat} {p c : Ent} (h : GoodR (L.map putE)) (hp : L[i]? = some p) (hc : L[i + 1]? = some c) : keyCmp (putE p) (putE c) = -1 := by
  have h1 := h.2 i (putE p) (putE c) (by rw [List.getElem?_map, hp]; rfl) (by rw [List.getElem?_map, hc]; rfl)
  rw [okPair_put] at h1
  simpa using h1
set_option maxHeartbeats 8000000 in
theorem implCells_core (g cap : Nat) (L : List Ent) (base : Nat) (w : World) (hC : OwnC w base g cap L) (hok : ∀ e ∈ L, e.ok) (hn : L.length ≤ 1048576) :
    Calls Tryz.prog 29 #[.slice (some ⟨g, 0, none⟩) L.length cap] w (ValPost (GoodR (L.map putE)) w) := by
  have HC : Hid (OwnC w base g cap L ∧ ∀ e ∈ L, e.ok) := ⟨hC, hok⟩
  have hgl := hC.lt.2
  clear hC hok
  by_cases hbig : 10000 < L.length
  · have H : Hid (¬ GoodR (L.map putE)) := fun h => by have := h.1.1; rw [List.length_map] at this; omega
    have z : (10000 : Int) < (L.length : Int) := by omega
    go_enter Tryz.func29, Tryz.ntmps29
    go_wp2_with fail
    go_ret
    exact ⟨_, rfl, iffF H.out, Below.refl _ _⟩
  have z : ¬ (10000 : Int) < (L.length : Int) := by omega
  go_enter Tryz.func29, Tryz.ntmps29
  go_wp2_with fail
  go_loopw [10] (fun iv wr => ∃ (k : Nat), k ≤ L.length ∧ iv = .int .i64 (k : Int) ∧ (∀ x ∈ L.take k, (putE x).vld = true) ∧ PairsTo (L.map putE) k ∧ Below w.heap.size w wr) (fun iv _ => L.length - (intOf iv).toNat)
  case atStart => exact ⟨0, Nat.zero_le _, rfl, by simp, fun i p e hi => by omega, Below.refl _ _⟩
  case round =>
    obtain ⟨k, hk, rfl, hv, hP, hb⟩ := hrel
    have HV : Hid ((∀ x ∈ L.take k, (putE x).vld = true) ∧ PairsTo (L.map putE) k) := ⟨hv, hP⟩
    have hs := hb.size
    clear hv hP
    by_cases hlt : k < L.length
    · obtain ⟨c, hc⟩ : ∃ c, L[k]? = some c := ⟨_, List.getElem?_eq_getElem hlt⟩
      have HCc : Hid (L[k]? = some c ∧ c.ok) := ⟨hc, HC.out.2 c (List.mem_of_getElem? hc)⟩
      have HR : Hid (CelsAt wr g 0 L) := HC.out.1.at.below hb hgl
      obtain ⟨c0, c1, c2, c3, c4⟩ := HR.out k c hc
      simp only [Nat.zero_add] at c0 c1 c2 c3 c4
      have zk : (k : Int) < (L.length : Int) := by omega
      obtain ⟨W1, hW1⟩ : ∃ W1 : World, W1 = wr.alloc (Obj.cells #[.string c.row, .string c.fam, .string c.qual, .int .u64 c.ts, .string c.val] 55) := ⟨_, rfl⟩
      have HW1 : Hid (CelsAt W1 wr.heap.size 0 [c] ∧ CelsAt W1 g 0 L ∧ Below w.heap.size w W1 ∧ W1.heap.size = wr.heap.size + 1) := by
        have hba : Below wr.heap.size wr W1 := by rw [hW1]; exact (Below.refl _ _).alloc (Nat.le_refl _) _
        refine ⟨by rw [hW1]; exact cel_new wr c, HR.out.below hba (by omega), hb.trans (hba.mono hs), by rw [hW1]; simp⟩
      clear hc
      go_upto_region 6 with fail
      rw [← hW1]
      clear hW1 c0 c1 c2 c3 c4 HR
      have hz1 := HW1.out.2.2.2
      have q : ∀ n : Out W1, CelsAt n.u wr.heap.size 0 [c] := fun n => HW1.out.1.below n.out (by omega)
      have a0 : ∀ n : Out W1, n.u.cell? ⟨wr.heap.size, 0, none⟩ = some (.string c.row) := fun n => by simpa using ((q n) 0 c rfl).1
      have a1 : ∀ n : Out W1, n.u.cell? ⟨wr.heap.size, 1, none⟩ = some (.string c.fam) := fun n => by simpa using ((q n) 0 c rfl).2.1
      have a2 : ∀ n : Out W1, n.u.cell? ⟨wr.heap.size, 2, none⟩ = some (.string c.qual) := fun n => by simpa using ((q n) 0 c rfl).2.2.1
      have a3 : ∀ n : Out W1, n.u.cell? ⟨wr.heap.size, 3, none⟩ = some (.int .u64 c.ts) := fun n => by simpa using ((q n) 0 c rfl).2.2.2.1
      have a4 : ∀ n : Out W1, n.u.cell? ⟨wr.heap.size, 4, none⟩ = some (.string c.val) := fun n => by simpa using ((q n) 0 c rfl).2.2.2.2
      clear q hz1
      have inh : Nonempty (Out W1) := ⟨⟨W1, Below.refl _ _⟩⟩
      obtain ⟨bv, hbv⟩ : ∃ bv, bv = (putE c).vld := ⟨_, rfl⟩
      have HVal : Hid (∀ n : Out W1, Calls Tryz.prog 58 #[(putE c).v] n.u fun e w' => e = .returned (.bool bv) ∧ Below n.u.heap.size n.u w') := fun n => by
        rw [hbv]
        exact implValid_core _ _ _ _ _ _ n.u HCc.out.2.row HCc.out.2.fam HCc.out.2.qual HCc.out.2.val
      have HBv : Hid ((putE c).vld = bv) := hbv.symm
      clear hbv
      cases bv
      · have HF : Hid (¬ GoodR (L.map putE)) := fun h => by
          have := h.1.2 (putE c) (List.mem_map.2 ⟨c, List.mem_of_getElem? HCc.out.1, rfl⟩)
          rw [HBv.out] at this; cases this
        refine wp_region_out (by kernel_rfl) (by kernel_rfl) ?_
        repeat (go_big_quiet_step ((first | (go_at_call 59; exact Calls.out_of (implPut_any _ _)) | (go_at_call 58; exact Calls.out_of (HVal.out _)))))
        refine wpQuiet_nil ?_
        rintro w2 ⟨⟨wx, hb2⟩, rfl⟩
        go_wp2_with fail
        go_ret
        exact ⟨_, rfl, iffF HF.out, HW1.out.2.2.1.trans (hb2.mono HW1.out.2.2.1.size)⟩
      have HVN : Hid (∀ x ∈ L.take (k + 1), (putE x).vld = true) := by
        intro x hx
        rw [List.take_add_one, HCc.out.1] at hx
        rcases List.mem_append.1 hx with hx | hx
        · exact HV.out.1 x hx
        · simp at hx; subst hx; exact HBv.out
      by_cases hk0 : k = 0
      · subst hk0
        refine wp_region_out (by kernel_rfl) (by kernel_rfl) ?_
        repeat (go_big_quiet_step ((first | (go_at_call 59; exact Calls.out_of (implPut_any _ _)) | (go_at_call 58; exact Calls.out_of (HVal.out _)))))
        refine wpQuiet_nil ?_
        rintro w2 ⟨⟨wx, hb2⟩, rfl⟩
        go_wp2_with fail
        go_roundw
        case rel => exact ⟨1, by omega, by go_num, HVN.out, pairsTo_one _, HW1.out.2.2.1.trans (hb2.mono HW1.out.2.2.1.size)⟩
        case measure => simp [intOf]; omega
      obtain ⟨m, rfl⟩ : ∃ m, k = m + 1 := ⟨k - 1, by omega⟩
      obtain ⟨p, hp⟩ : ∃ p, L[m]? = some p := ⟨_, List.getElem?_eq_getElem (by omega)⟩
      have HPp : Hid (L[m]? = some p) := hp
      have q : ∀ n : Out W1, CelsAt n.u g 0 L := fun n => HW1.out.2.1.below n.out (by have := HW1.out.2.2.2; omega)
      have p0 : ∀ n : Out W1, n.u.cell? ⟨g, m * 5, none⟩ = some (.string p.row) := fun n => by simpa using ((q n) m p hp).1
      have p1 : ∀ n : Out W1, n.u.cell? ⟨g, m * 5 + 1, none⟩ = some (.string p.fam) := fun n => by simpa using ((q n) m p hp).2.1
      have p2 : ∀ n : Out W1, n.u.cell? ⟨g, m * 5 + 2, none⟩ = some (.string p.qual) := fun n => by simpa using ((q n) m p hp).2.2.1
      have p3 : ∀ n : Out W1, n.u.cell? ⟨g, m * 5 + 3, none⟩ = some (.int .u64 p.ts) := fun n => by simpa using ((q n) m p hp).2.2.2.1
      have p4 : ∀ n : Out W1, n.u.cell? ⟨g, m * 5 + 4, none⟩ = some (.string p.val) := fun n => by simpa using ((q n) m p hp).2.2.2.2
      clear q hp
      obtain ⟨kc, hkc⟩ : ∃ kc, kc = keyCmp (putE p) (putE c) := ⟨_, rfl⟩
      have HCm : Hid (∀ n : Out W1, Calls Tryz.prog 60 #[p.c, c.c] n.u fun e w' => e = .returned (.int .i64 kc) ∧ Below n.u.heap.size n.u w') := fun n => by
        rw [hkc]; exact cellCompare_any p c n.u
      have HKc : Hid (kc = keyCmp (putE p) (putE c)) := hkc
      have zm : (m : Int) < (L.length : Int) := by omega
      have zm0 : (0 : Int) < (m : Int) + 1 := by omega
      clear hkc
      by_cases hneg : 0 ≤ kc
      · have HF : Hid (¬ GoodR (L.map putE)) := fun h => by
          have := goodPut_pair h HPp.out HCc.out.1
          rw [← HKc.out] at this; omega
        refine wp_region_out (by kernel_rfl) (by kernel_rfl) ?_
        repeat (go_big_quiet_step ((first | (go_at_call 59; exact Calls.out_of (implPut_any _ _)) | (go_at_call 58; exact Calls.out_of (HVal.out _)) | (go_at_call 60; exact Calls.out_of (HCm.out _)))))
        refine wpQuiet_nil ?_
        rintro w2 ⟨⟨wx, hb2⟩, rfl⟩
        go_wp2_with fail
        go_ret
        exact ⟨_, rfl, iffF HF.out, HW1.out.2.2.1.trans (hb2.mono HW1.out.2.2.1.size)⟩
      · have HPN : Hid (PairsTo (L.map putE) (m + 1 + 1)) := by
          refine pairsTo_succ HV.out.2 (p := putE p) (e := putE c) (by rw [List.getElem?_map, HPp.out]; rfl) (by rw [List.getElem?_map, HCc.out.1]; rfl) ?_
          rw [okPair_put]
          rcases keyCmp_vals (putE p) (putE c) with h | h | h
          · rw [h]; rfl
          · rw [HKc.out, h] at hneg; omega
          · rw [HKc.out, h] at hneg; omega
        refine wp_region_out (by kernel_rfl) (by kernel_rfl) ?_
        repeat (go_big_quiet_step ((first | (go_at_call 59; exact Calls.out_of (implPut_any _ _)) | (go_at_call 58; exact Calls.out_of (HVal.out _)) | (go_at_call 60; exact Calls.out_of (HCm.out _)))))
        refine wpQuiet_nil ?_
        rintro w2 ⟨⟨wx, hb2⟩, rfl⟩
        go_wp2_with fail
        go_roundw
        case rel => exact ⟨m + 1 + 1, by omega, by go_num, HVN.out, HPN.out, HW1.out.2.2.1.trans (hb2.mono HW1.out.2.2.1.size)⟩
        case measure => simp [intOf]; omega
    · have hkl : k = L.length := by omega
      have HF : Hid (GoodR (L.map putE)) := by
        refine ⟨⟨by rw [List.length_map]; omega, fun e he => ?_⟩, pairs_of_to HV.out.2 (by rw [List.length_map]; omega)⟩
        obtain ⟨x, hx, rfl⟩ := List.mem_map.1 he
        exact HV.out.1 x (by rw [List.take_of_length_le (by omega)]; exact hx)
      have zk : ¬ (k : Int) < (L.length : Int) := by omega
      clear hkl
      go_wp2_with fail
      go_ret
      exact ⟨_, rfl, iffT HF.out, hb⟩

set_option maxHeartbeats 1000000 in
theorem specCells_core (g cap : Nat) (L : List Ent) (base : Nat) (w : World) (hC : OwnC w base g cap L) (hok : ∀ e ∈ L, e.ok) (hn : L.length ≤ 1048576) :
    Calls Tryz.prog 24 #[.slice (some ⟨g, 0, none⟩) L.length cap] w (ValPost (GoodR (L.map putE)) w) := by
  have HC : Hid (OwnC w base g cap L ∧ ∀ e ∈ L, e.ok) := ⟨hC, hok⟩
  clear hC hok
  go_enter Tryz.func24, Tryz.ntmps24
  go_wp2_with fail
  refine (puts_core g cap L base w HC.out.1 hn).mono ?_
  rintro e w1 ⟨g1, cp1, rfl, hO1, hb1⟩
  have HO : Hid (OwnE w1 w.heap.size g1 cp1 (L.map putE) ∧ cp1 ≤ maxLen ∧ L.length ≤ cp1) := by
    refine ⟨hO1, ?_⟩
    rcases hO1.2 with ⟨h0, _⟩ | ⟨g', cap', cur, hv, _, _, hn, hcap, _, _⟩
    · cases h0
    · simp only [Value.slice.injEq, Option.some.injEq, Addr.mk.injEq, and_true, true_and] at hv
      obtain ⟨rfl, rfl⟩ := hv
      rw [List.length_map] at hn
      exact ⟨hcap, hn⟩
  have hl : L.length = (L.map putE).length := (List.length_map ..).symm
  have HV : Hid (Calls Tryz.prog 51 #[.agg #[.slice (some ⟨g1, 0, none⟩) L.length cp1]] w1 fun e w' => ∃ r : Bool, e = .returned (.bool r) ∧ (r = true ↔ GoodR (L.map putE)) ∧ Below w1.heap.size w1 w') := by
    show Calls _ _ _ _ _
    have := specValidRun_core g1 0 cp1 (L.map putE) w1 HO.out.1.at (fun e he => by obtain ⟨x, hx, rfl⟩ := List.mem_map.1 he; exact putE_ok (HC.out.2 x hx)) HO.out.1.lt.2 (by rw [List.length_map]; exact HO.out.2.2) HO.out.2.1
    rw [List.length_map] at this
    exact this
  clear hO1 hl
  go_wp2_with fail
  refine HV.out.mono ?_
  rintro e w2 ⟨r, rfl, hr, hb2⟩
  have HR : Hid (r = true ↔ GoodR (L.map putE)) := hr
  clear hr
  go_wp2_with fail
  go_ret
  exact ⟨r, rfl, HR.out, hb1.trans (hb2.mono hb1.size)⟩
end Go.Proofs.YtkidabedcgngcaaGreatDoor

/-
  spec.l5MeanAll, spec.Meaning.
-/
namespace Go.Proofs.YtkidabedcgngcaaGreatDoor
open Go.ChangeShapes Go.WideShapes Go.ChangeAt Go.RowKit Go.Deep
set_option linter.unusedVariables false
set_option linter.unusedSimpArgs false
set_option maxRecDepth 100000

theorem CelsAt.flat {w : World} {b off : Nat} {es : List Ent} (h : CelsAt w b off es) : ∀ (j : Nat) (u : Value), (cellsC es)[j]? = some u → w.cell? ⟨b, off + j, none⟩ = some u := by
  intro j u hu
  have hl := (List.getElem?_eq_some_iff.1 hu).1
  rw [length_cellsC] at hl
  have hk : j / 5 < es.length := by omega
  obtain ⟨e, he⟩ : ∃ e, es[j / 5]? = some e := ⟨_, List.getElem?_eq_getElem hk⟩
  have h5 := cellsC_get es (j / 5) e he (j % 5) (by omega)
  rw [show j / 5 * 5 + j % 5 = j by omega, hu] at h5
  obtain ⟨h0, h1, h2, h3, h4⟩ := h (j / 5) e he
  have hm : j % 5 < 5 := by omega
  have hj : off + j = off + j / 5 * 5 + j % 5 := by omega
  rw [hj]
  generalize j % 5 = r at h5 hm
  match r, hm, h5 with
  | 0, _, h5 => cases h5; exact h0
  | 1, _, h5 => cases h5; exact h1
  | 2, _, h5 => cases h5; exact h2
  | 3, _, h5 => cases h5; exact h3
  | 4, _, h5 => cases h5; exact h4
theorem five_one (es : List Ent) : ∀ u ∈ cellsC es, u.oneCell' = true := by
  intro u hu
  unfold cellsC at hu
  rw [List.mem_flatMap] at hu
  obtain ⟨e, _, h⟩ := hu
  simp at h
  rcases h with rfl | rfl | rfl | rfl | rfl <;> rfl
/-- Cells appended to a row of the call's own. -/
theorem wpList_append_cels {ops : Array Oper} {rest : List Oper} {o : Oper} {a : Act} {Q : Exit → Act → World → Prop} (w : World) (hgd : o.guard = none) (s x : Operand)
    (ho : o.op = .call { callee := .builtin .append, args := #[s, x], argTypes := #[28, 28] })
    (base g cp n b off m cx : Nat) (fs es : List Ent) (hs : a.eval s = .slice (some ⟨g, 0, none⟩) n cp) (hx : a.eval x = .slice (some ⟨b, off, none⟩) m cx) (hn : n = fs.length) (hm : m = es.length) (hO : OwnC w base g cp fs)
    (hc : CelsAt w b off es) (hlen : fs.length + es.length ≤ 2 ^ 30) (hbase : base ≤ w.heap.size)
    (h : ∀ g' cp' w', OwnC w' base g' cp' (fs ++ es) → w.grownBy w' (some g) → wpList Tryz.prog ops Q rest (a.put o.dst (.slice (some ⟨g', 0, none⟩) (n + m) cp')) w') : wpList Tryz.prog ops Q (o :: rest) a w := by
  obtain ⟨i, hi, hz0, hz1, hz2⟩ := info_parts Tryz.infoCel
  subst hn
  subst hm
  refine wpList_append_own w hgd s x 28 ho base 55 i _ 5 72 Tryz.underlying28 hi hz0 hz1 hz2 rfl (by decide) (.slice (some ⟨g, 0, none⟩) fs.length cp) fs.length (cellsC fs) hs hO ⟨b, off, none⟩ es.length cx (cellsC es) hx (length_cellsC es) ?_ (five_one es) ?_ ?_ hbase ?_
  · intro j u hu
    rw [Addr.add_mid]
    exact hc.flat j u hu
  · unfold maxLen; omega
  · omega
  · intro v' w' hown hgr hnil
    rw [← cellsC_append] at hown
    have hlen' : (fs ++ es).length = fs.length + es.length := by simp
    rcases hown.2 with ⟨hv, _⟩ | ⟨g', cap', cur, hv, h1, h2, h3⟩
    · have := (hnil.1 hv).1
      simp at this
    · subst hv
      exact h g' cap' w' (by unfold OwnC; rw [hlen']; exact hown) hgr
theorem cutsF_len (es : List Ent) : ∀ (f i : Nat), (cutsF es f i).length ≤ f
  | 0, i => Nat.le_refl _
  | f + 1, i => by
    unfold cutsF
    split
    · have := cutsF_len es f (rEnd es i)
      simp
      omega
    · simp
theorem rEndF_le (es : List Ent) (i : Nat) : ∀ (f k : Nat), k ≤ es.length → rEndF es i f k ≤ es.length
  | 0, k, h => h
  | f + 1, k, h => by
    unfold rEndF
    split
    · split
      · exact rEndF_le es i f (k + 1) (by omega)
      · exact h
    · exact h
theorem cutsF_mem (es : List Ent) : ∀ (f i : Nat) (p : Nat × Nat), p ∈ cutsF es f i → p.1 ≤ p.2 ∧ p.2 ≤ es.length
  | 0, i, p, h => by simp [cutsF] at h
  | f + 1, i, p, h => by
    unfold cutsF at h
    split at h
    · rename_i hi
      rcases List.mem_cons.1 h with rfl | h
      · exact ⟨Nat.le_of_lt (rEnd_gt hi), rEndF_le es i _ i (Nat.le_of_lt hi)⟩
      · exact cutsF_mem es f _ p h
    · simp at h
theorem flat_len {es : List Ent} {t : CT} (hS : Sub es es) (hl : es.length ≤ 10000) : ∀ (P : List (Nat × Nat)), (P.flatMap fun p => mean t (segE es p)).length ≤ P.length * 10000
  | [] => Nat.zero_le _
  | p :: P => by
    have ih := flat_len hS hl P (t := t)
    have h1 := (mean_sub t (segE_sub hS p)).len (segE_sub hS p).ord
    have h2 : (segE es p).length ≤ es.length := by unfold segE; rw [List.length_drop, List.length_take]; omega
    simp only [List.flatMap_cons, List.length_append, List.length_cons]
    omega
structure MaJ (w : World) (b off cap : Nat) (es : List Ent) (t : CT) (A : List (Nat × Nat)) (gr cr g cp i : Nat) (wr : World) : Prop where
  rows : OwnCs wr w.heap.size gr cr (A.map (segV b off cap))
  own : OwnC wr w.heap.size g cp ((A.take i).flatMap fun p => mean t (segE es p))
  below : Below w.heap.size w wr
set_option maxHeartbeats 4000000 in
theorem l5MeanAll_core {w : World} {nb no nc : Nat} {xs : List Nd} {t : CT} {b off cap : Nat} {es : List Ent} (hW : Win w nb no nc xs) (hT : TreeF xs t) (hsz : ∀ x ∈ xs, x.s.size ≤ maxLen) (h : CSl w b off cap es) (hS : Sub es es) (hl : es.length ≤ 10000) :
    Calls Tryz.prog 25 #[.slice (some ⟨nb, no, none⟩) xs.length nc, .slice (some ⟨b, off, none⟩) es.length cap] w fun e w' => ∃ g cp, e = .returned (.slice (some ⟨g, 0, none⟩) (meanAll t es).length cp) ∧ OwnC w' w.heap.size g cp (meanAll t es) ∧ Below w.heap.size w w' := by
  obtain ⟨A, hA⟩ : ∃ A, A = allC es 0 := ⟨_, rfl⟩
  have hAl : A.length ≤ 10000 := by rw [hA]; exact Nat.le_trans (cutsF_len es _ 0) (by omega)
  have HA : Hid (A = allC es 0 ∧ A.length ≤ 10000) := ⟨hA, hAl⟩
  have HMm : Hid (∀ p ∈ A, p.1 ≤ p.2 ∧ p.2 ≤ es.length) := fun p hp => cutsF_mem es _ 0 p (by rw [hA] at hp; exact hp)
  have HMA : Hid (meanAll t es = (A.take A.length).flatMap fun p => mean t (segE es p)) := by show _ = _; rw [List.take_length, hA]; rfl
  have HMe : Hid (∀ (wx : World) (rb ro rc : Nat) (fs : List Ent), Below w.heap.size w wx → CSl wx rb ro rc fs → Sub fs fs → fs.length ≤ 10000 → Calls Tryz.prog 54 #[.slice (some ⟨nb, no, none⟩) xs.length nc, .slice (some ⟨rb, ro, none⟩) fs.length rc] wx (MeP t fs wx)) := fun wx rb ro rc fs hx hC hs hl => mean_all xs.length wx nb no nc xs t rb ro rc fs (Nat.le_refl _) (hW.below hx) hT hsz hC hs hl
  have HR : Hid (CSl w b off cap es ∧ Sub es es ∧ es.length ≤ 10000) := ⟨h, hS, hl⟩
  obtain ⟨W0, hW0⟩ : ∃ W0 : World, W0 = w.alloc (Obj.cells #[] 55) := ⟨_, rfl⟩
  have HO0 : Hid (OwnC W0 w.heap.size w.heap.size 0 [] ∧ Below w.heap.size w W0) := by rw [hW0]; exact ⟨ownC_new w, (Below.refl _ _).alloc (Nat.le_refl _) _⟩
  have HRw : Hid (Calls Tryz.prog 53 #[.slice (some ⟨b, off, none⟩) es.length cap] W0 fun e w' => ∃ g cp, e = .returned (.slice (some ⟨g, 0, none⟩) A.length cp) ∧ OwnCs w' W0.heap.size g cp (A.map (segV b off cap)) ∧ Below W0.heap.size W0 w') := by
    rw [hA]; exact l5Rows_core (h.below HO0.out.2) (by omega)
  obtain ⟨N, hN⟩ : ∃ N, N = es.length := ⟨_, rfl⟩
  obtain ⟨L, hL⟩ : ∃ L, L = xs.length := ⟨_, rfl⟩
  obtain ⟨K, hK⟩ : ∃ K, K = A.length := ⟨_, rfl⟩
  have HKl : Hid (K = A.length) := hK
  rw [← hN] at HRw ⊢
  rw [← hL] at HMe ⊢
  rw [← hK] at HRw hAl HMA
  clear hW hT hsz h hS hl hA hN hL hK
  go_enter Tryz.func25, Tryz.ntmps25
  go_wp2_with fail
  rw [← hW0]
  clear hW0
  refine HRw.out.mono ?_
  rintro e w1 ⟨gr, cr, rfl, hO1, hb1⟩
  have HJ0 : Hid (MaJ w b off cap es t A gr cr w.heap.size 0 0 w1) := by
    refine ⟨?_, HO0.out.1.below hb1 HO0.out.1.lt.2, HO0.out.2.trans (hb1.mono HO0.out.2.size)⟩
    have hz := HO0.out.2.size
    rcases hO1.2 with ⟨q, _⟩ | ⟨g9, cap9, cur, hv, q1, q2⟩
    · cases q
    · exact ⟨hO1.1, .inr ⟨g9, cap9, cur, hv, by omega, q2⟩⟩
  clear hO1 hb1 HRw HO0
  go_wp2_with fail
  go_loopw [5, 7] (fun o iv wr => ∃ (i g cp m : Nat), i ≤ K ∧ iv = .int .i64 (i : Int) ∧ o = .slice (some ⟨g, 0, none⟩) m cp ∧ Hid (m = ((A.take i).flatMap fun p => mean t (segE es p)).length ∧ MaJ w b off cap es t A gr cr g cp i wr)) (fun _ iv _ => K - (intOf iv).toNat)
  case atStart => exact ⟨0, w.heap.size, 0, 0, Nat.zero_le _, rfl, rfl, rfl, HJ0.out⟩
  case round =>
    obtain ⟨i, g, cp, m, hiK, rfl, rfl, HJ⟩ := hrel
    by_cases hlt : i < K
    · have zi : (i : Int) < (K : Int) := by omega
      obtain ⟨⟨p1, p2⟩, hp⟩ : ∃ p, A[i]? = some p := ⟨_, List.getElem?_eq_getElem (by have := HKl.out; omega)⟩
      have hpm := HMm.out (p1, p2) (List.mem_of_getElem? hp)
      have HStep : Hid (((A.take (i + 1)).flatMap fun p => mean t (segE es p)) = ((A.take i).flatMap fun p => mean t (segE es p)) ++ mean t (segE es (p1, p2))) := by
        show _ = _
        rw [List.take_add_one, hp, Option.toList_some, List.flatMap_append]
        simp
      have hml : m ≤ 100000000 := by
        rw [HJ.out.1]
        refine Nat.le_trans (flat_len HR.out.2.1 HR.out.2.2 _) ?_
        rw [List.length_take]
        have := HA.out.2
        omega
      have hgl := HJ.out.2.own.lt
      have hbz := HJ.out.2.below.size
      have c0 : wr.cell? ⟨gr, i, none⟩ = some (.slice (some ⟨b, off + p1 * 5, none⟩) (p2 - p1) (cap - p1)) := HJ.out.2.rows.cell (by rw [List.getElem?_map, hp]; rfl)
      have hseg := segE_sub HR.out.2.1 (p1, p2)
      have hsl : (segE es (p1, p2)).length = p2 - p1 := segE_len hpm.2
      have hml2 : (mean t (segE es (p1, p2))).length ≤ 10000 := by
        have h8 := (mean_sub t hseg).len hseg.ord
        have h9 := HR.out.2.2
        rw [hsl] at h8
        omega
      have HCall : Hid (Calls Tryz.prog 54 #[.slice (some ⟨nb, no, none⟩) L nc, .slice (some ⟨b, off + p1 * 5, none⟩) (p2 - p1) (cap - p1)] wr (MeP t (segE es (p1, p2)) wr)) := by
        have h9 := HMe.out wr b (off + p1 * 5) (cap - p1) (segE es (p1, p2)) HJ.out.2.below ((HR.out.1.below HJ.out.2.below).seg hpm.1 hpm.2) hseg (by rw [hsl]; have := HR.out.2.2; omega)
        rw [hsl] at h9
        exact h9
      obtain ⟨ml, hmle⟩ : ∃ ml, ml = (mean t (segE es (p1, p2))).length := ⟨_, rfl⟩
      have HMl : Hid (ml = (mean t (segE es (p1, p2))).length) := hmle
      rw [← hmle] at hml2
      clear hp hpm hseg hsl hmle
      go_wp2_with fail
      refine HCall.out.mono ?_
      rintro e w3 ⟨g3, cp3, rfl, H3⟩
      have HM3 : Hid (MaJ w b off cap es t A gr cr g cp i w3) := by
        have hb3 := H3.out.2
        exact ⟨HJ.out.2.rows.below hb3, HJ.out.2.own.below hb3 hgl.2, HJ.out.2.below.trans (hb3.mono hbz)⟩
      have HKm : Hid (m = ((A.take i).flatMap fun p => mean t (segE es p)).length) := HJ.out.1
      have hz3 := H3.out.2.size
      rw [← HMl.out]
      clear c0 HJ
      go_wp2_with (at_builtin; refine wpList_append_cels _ rfl _ _ rfl w.heap.size g cp _ _ _ _ _ ((A.take i).flatMap fun p => mean t (segE es p)) (mean t (segE es (p1, p2))) rfl rfl HKm.out HMl.out ?hO ?hc ?hl ?hb ?_)
      case hO => exact HM3.out.own
      case hc => exact H3.out.1.at
      case hl => rw [← HKm.out, ← HMl.out]; omega
      case hb => omega
      intro g' cp' w' hO' hgr
      have HN : Hid (m + ml = ((A.take (i + 1)).flatMap fun p => mean t (segE es p)).length ∧ MaJ w b off cap es t A gr cr g' cp' (i + 1) w') := by
        have hc' : Chg (fun k => k = g) w3 w' := Chg.of_grown hgr (fun k q => by cases q; rfl)
        have hne : ¬ gr = g := fun q => own_apart HM3.out.own HM3.out.rows (by decide) g rfl (by rw [← q]; rfl)
        refine ⟨by rw [HStep.out, List.length_append, ← HKm.out, ← HMl.out], ?_, ?_, ?_⟩
        · exact own_chg HM3.out.rows hc' (fun k q => by simp [Value.ownBlock] at q; subst q; exact hne)
        · rw [HStep.out]; exact hO'
        · exact HM3.out.below.grown hgr HM3.out.below.size (fun j hj => by cases hj; omega)
      clear hO' hgr
      go_wp2_with fail
      go_roundw
      case rel => exact ⟨i + 1, g', cp', m + ml, by omega, by go_num, rfl, HN.out⟩
      case measure => go_light; simp [intOf]; omega
    · obtain rfl : i = K := by omega
      have zi : ¬ (i : Int) < (i : Int) := by omega
      go_wp2_with fail
      go_ret
      refine ⟨g, cp, ?_, ?_, HJ.out.2.below⟩
      · rw [HMA.out, ← HJ.out.1]; rfl
      · rw [HMA.out]; exact HJ.out.2.own
end Go.Proofs.YtkidabedcgngcaaGreatDoor

