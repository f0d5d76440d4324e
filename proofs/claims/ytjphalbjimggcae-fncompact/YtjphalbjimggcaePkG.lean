import Derived.Maps.AppendAt
import Derived.Deep.DeepCutAuto
import Derived.Deep.CutRange
import Derived.Test.YtjphalbjimggcaePkF
import Derived.Test.YtjphalbjimggcaeQRms
import Derived.Test.YtjphalbjimggcaeQRuns
import Derived.Test.YtjphalbjimggcaeQRmC
/-
  The draws: a run spoilt.
-/
namespace Go.Proofs.Ytjphalbjimggcae
open Go.ChangeShapes Go.WideShapes Go.ChangeAt Go.RowKit Go.Deep
set_option linter.unusedVariables false
set_option linter.unusedSimpArgs false
set_option maxRecDepth 100000

theorem cells_of_ents {w : World} {b off : Nat} {es : List Ent} (h : EntsAt w b off es) : ∀ j u, (cellsE es)[j]? = some u → w.cell? ((⟨b, off, none⟩ : Addr).add j) = some u := by
  intro j u hu
  have hj : j < es.length * 6 := by rw [← length_cellsE]; exact (List.getElem?_eq_some_iff.1 hu).1
  obtain ⟨e, he⟩ : ∃ e, es[j / 6]? = some e := ⟨_, List.getElem?_eq_getElem (by omega)⟩
  have hg := cellsE_get es (j / 6) e he (j % 6) (Nat.mod_lt _ (by omega))
  rw [show j / 6 * 6 + j % 6 = j by omega, hu] at hg
  obtain ⟨c0, c1, c2, c3, c4, c5⟩ := h (j / 6) e he
  rw [Addr.add_mid, show off + j = off + j / 6 * 6 + j % 6 by omega]
  have hm : j % 6 < 6 := Nat.mod_lt _ (by omega)
  generalize j % 6 = m at *
  match m, hm, hg with
  | 0, _, hg => rw [Nat.add_zero, c0, hg]; rfl
  | 1, _, hg => rw [c1, hg]; rfl
  | 2, _, hg => rw [c2, hg]; rfl
  | 3, _, hg => rw [c3, hg]; rfl
  | 4, _, hg => rw [c4, hg]; rfl
  | 5, _, hg => rw [c5, hg]; rfl
theorem one_cells (es : List Ent) : ∀ u ∈ cellsE es, u.oneCell' = true := by
  intro u hu
  unfold cellsE at hu
  obtain ⟨e, _, he⟩ := List.mem_flatMap.1 hu
  simp at he
  rcases he with rfl | rfl | rfl | rfl | rfl | rfl <;> rfl
/-- Entries appended to a row of the call's own. -/
theorem wpList_append_ents {ops : Array Oper} {rest : List Oper} {o : Oper} {a : Act} {Q : Exit → Act → World → Prop} (w : World) (hgd : o.guard = none) (s x : Operand)
    (ho : o.op = .call { callee := .builtin .append, args := #[s, x], argTypes := #[28, 28] })
    (base g cp n b off m cx : Nat) (fs es : List Ent) (hs : a.eval s = .slice (some ⟨g, 0, none⟩) n cp) (hx : a.eval x = .slice (some ⟨b, off, none⟩) m cx) (hn : n = fs.length) (hm : m = es.length) (hO : OwnE w base g cp fs)
    (hc : EntsAt w b off es) (hlen : fs.length + es.length ≤ 2 ^ 30) (hbase : base ≤ w.heap.size)
    (h : ∀ g' cp' w', OwnE w' base g' cp' (fs ++ es) → w.grownBy w' (some g) → wpList Try.prog ops Q rest (a.put o.dst (.slice (some ⟨g', 0, none⟩) (n + m) cp')) w') : wpList Try.prog ops Q (o :: rest) a w := by
  subst hn hm
  obtain ⟨i, hi, hz0, hz1, hz2⟩ := info_parts Try.infoEnt
  refine wpList_append_own_at w hgd s x 28 ho base 73 i _ 6 80 Try.underlying28 hi hz0 hz1 hz2 rfl (by decide) (.slice (some ⟨g, 0, none⟩) fs.length cp) fs.length (cellsE fs) hs hO ⟨b, off, none⟩ es.length cx (cellsE es) hx (length_cellsE es) (cells_of_ents hc) (one_cells es) ?_ ?_ hbase ?_
  · unfold maxLen; omega
  · omega
  · intro v' w' hO' hgr hnil _
    rcases hO'.2 with ⟨h0, _⟩ | ⟨g', cap', cur, hv, _, _, hn, hcap, _, _⟩
    · have := (hnil.1 h0).1
      cases this
    · subst hv
      refine h g' cap' w' ?_ hgr
      unfold OwnE
      rw [List.length_append, cellsE_append]
      exact hO'

/-- What a spoilt run may be. -/
structure SpoilOf (w : World) (b : Nat) (es : List Ent) (r : Rm) (w' : World) : Prop where
  at_ : r.at w'
  ok : ∀ e ∈ r.es, e.small
  len : r.es.length ≤ es.length + 1
  blk : r.b = b ∨ w.heap.size ≤ r.b
theorem mem_set_small {fs : List Ent} {i : Nat} {e' : Ent} (h : ∀ e ∈ fs, e.small) (he : e'.small) : ∀ e ∈ fs.set i e', e.small := by
  intro e hm
  rcases List.mem_or_eq_of_mem_set hm with q | rfl
  · exact h e q
  · exact he
theorem LInv.turn {base cb : Nat} {bv : Value} {n : Nat} {w : World} {g cp : Nat} {es fs : List Ent} {wr w' : World} (h : LInv base cb bv n w g cp es wr) (hc : Chg (fun k => k = g) wr w') (hO : OwnE w' w.heap.size g cp fs) (hok : ∀ e ∈ fs, e.small) : LInv base cb bv n w g cp fs w' := by
  have hl := h.row.lt
  have hcb := h.lt
  have hbb := h.hb
  refine ⟨hO, hok, h.d.chg hc (by omega) (fun k q => by omega), ?_, h.lt, h.hb⟩
  exact ⟨hc.os.trans h.c.os, hc.tape.trans h.c.tape, hc.output.trans h.c.output, Nat.le_trans h.c.size hc.size, fun k hk hn => (hc.block k (Nat.lt_of_lt_of_le hk h.c.size) (by omega)).trans (h.c.block k hk hn)⟩
theorem LInv.put {base cb : Nat} {bv : Value} {n : Nat} {w : World} {g cp : Nat} {es : List Ent} {wr : World} (h : LInv base cb bv n w g cp es wr) (i : Nat) (x e : Ent) (hx : es[i]? = some x) (he : e.small) :
    LInv base cb bv n w g cp (es.set i e) ((((((wr.setCell ⟨g, i * 6, none⟩ (.string e.row)).setCell ⟨g, i * 6 + 1, none⟩ (.string e.fam)).setCell ⟨g, i * 6 + 2, none⟩ (.string e.qual)).setCell ⟨g, i * 6 + 3, none⟩ (.int .u64 e.ts)).setCell ⟨g, i * 6 + 4, none⟩ (.int .i64 e.kind)).setCell ⟨g, i * 6 + 5, none⟩ (.string e.val)) := by
  refine h.turn ?_ (h.row.put i x e hx) (mem_set_small h.ok he)
  exact (((((Chg.of_set (S := fun k => k = g) _ _ _ _ rfl).trans (Chg.of_set (S := fun k => k = g) _ _ _ _ rfl)).trans (Chg.of_set (S := fun k => k = g) _ _ _ _ rfl)).trans (Chg.of_set (S := fun k => k = g) _ _ _ _ rfl)).trans (Chg.of_set (S := fun k => k = g) _ _ _ _ rfl)).trans (Chg.of_set (S := fun k => k = g) _ _ _ _ rfl)
theorem LInv.at6 {base cb : Nat} {bv : Value} {n : Nat} {w : World} {g cp : Nat} {es : List Ent} {wr : World} (h : LInv base cb bv n w g cp es wr) (i : Nat) (x : Ent) (hx : es[i]? = some x) :
    (wr.cell? ⟨g, i * 6, none⟩ = some (.string x.row) ∧ wr.cell? ⟨g, i * 6 + 1, none⟩ = some (.string x.fam) ∧ wr.cell? ⟨g, i * 6 + 2, none⟩ = some (.string x.qual) ∧ wr.cell? ⟨g, i * 6 + 3, none⟩ = some (.int .u64 x.ts) ∧ wr.cell? ⟨g, i * 6 + 4, none⟩ = some (.int .i64 x.kind) ∧ wr.cell? ⟨g, i * 6 + 5, none⟩ = some (.string x.val)) ∧ ∀ j, wr.frozen? ⟨g, j, none⟩ = false := by
  have := h.row.at i x hx
  simp only [Nat.zero_add] at this
  exact ⟨this, fun j => World.ownsRow.frozenAt h.row j⟩

theorem YInv.put {base cb : Nat} {bv : Value} {n : Nat} {w : World} {g cp : Nat} {es : List Ent} {vb : Nat} {f : Ent} {wr : World} (h : YInv base cb bv n w g cp es vb f wr) (i : Nat) (x e : Ent) (hx : es[i]? = some x) (he : e.small) :
    YInv base cb bv n w g cp (es.set i e) vb f ((((((wr.setCell ⟨g, i * 6, none⟩ (.string e.row)).setCell ⟨g, i * 6 + 1, none⟩ (.string e.fam)).setCell ⟨g, i * 6 + 2, none⟩ (.string e.qual)).setCell ⟨g, i * 6 + 3, none⟩ (.int .u64 e.ts)).setCell ⟨g, i * 6 + 4, none⟩ (.int .i64 e.kind)).setCell ⟨g, i * 6 + 5, none⟩ (.string e.val)) := by
  refine { h.toLInv.put i x e hx he with
    var := own_chg h.var (S := fun k => k = g) ?_ (fun k q => by simp [Value.ownBlock] at q; subst q; exact fun q => h.ne q.symm)
    ne := h.ne }
  exact (((((Chg.of_set (S := fun k => k = g) _ _ _ _ rfl).trans (Chg.of_set (S := fun k => k = g) _ _ _ _ rfl)).trans (Chg.of_set (S := fun k => k = g) _ _ _ _ rfl)).trans (Chg.of_set (S := fun k => k = g) _ _ _ _ rfl)).trans (Chg.of_set (S := fun k => k = g) _ _ _ _ rfl)).trans (Chg.of_set (S := fun k => k = g) _ _ _ _ rfl)
theorem LInv.push {base cb : Nat} {bv : Value} {n : Nat} {w : World} {g cp : Nat} {es : List Ent} {f : Ent} {wr w' : World} {o : Obj} (h : LInv base cb bv n w g cp es wr) (hf : f.small) {g' cp' : Nat} (hO : OwnE w' w.heap.size g' cp' (es ++ [f])) (hgr : (wr.alloc o).grownBy w' (some g)) : LInv base cb bv n w g' cp' (es ++ [f]) w' := by
  have hb : Below wr.heap.size wr (wr.alloc o) := (Below.refl _ _).alloc (Nat.le_refl _) _
  have hl := h.row.lt
  have hcb := h.lt
  have hbb := h.hb
  refine ⟨hO, fun e he => ?_, ?_, ?_, h.lt, h.hb⟩
  · rcases List.mem_append.1 he with q | q
    · exact h.ok e q
    · simp at q; subst q; exact hf
  · exact (h.d.below hb).chg (Chg.of_grown (S := fun k => k = g) hgr (fun k hk => by cases hk; rfl)) (by omega) (fun k q => by omega)
  · exact Chg.grown_new (h.c.trans (Chg.of_below hb)) hgr (fun k hk => by cases hk; exact hl.1)
theorem LInv.set {base cb : Nat} {bv : Value} {n : Nat} {w : World} {g cp : Nat} {es : List Ent} {wr : World} (h : LInv base cb bv n w g cp es wr) (k j : Nat) (e e' : Ent) (u : Value) (hk : es[k]? = some e) (hj : j < 6) (hc : e'.cells = e.cells.set j u) (hs : e'.small) : LInv base cb bv n w g cp (es.set k e') (wr.setCell ⟨g, k * 6 + j, none⟩ u) :=
  h.turn (Chg.of_set (S := fun k => k = g) _ _ _ _ rfl) (h.row.set k j e e' u hk hj hc) (mem_set_small h.ok hs)

set_option maxHeartbeats 8000000 in
theorem spoilR_core (base cb : Nat) (bv : Value) (n : Nat) (r : Rm) (w : World) (h : DrawAt base cb bv n w) (hr : r.at w) (hok : ∀ e ∈ r.es, e.small) (hl : r.es.length ≤ 200) (hrb : ¬ r.b = cb) :
    Calls Try.prog 28 #[.pointer (some ⟨cb, 0, none⟩), .agg #[.slice (some ⟨r.b, r.off, none⟩) r.es.length r.cap]] w fun x w' => ∃ r' : Rm, x = .returned (.agg #[.slice (some ⟨r'.b, r'.off, none⟩) r'.es.length r'.cap]) ∧ SpoilOf w r.b r.es r' w' ∧ Drew base cb bv n w w' := by
  have hlt := h.lt
  have hbase := h.base
  obtain ⟨Wa, hWa⟩ : ∃ Wa : World, Wa = w.alloc (Obj.cells #[.slice (some ⟨r.b, r.off, none⟩) r.es.length r.cap] 30) := ⟨_, rfl⟩
  have hba : Below w.heap.size w Wa := by rw [hWa]; exact (Below.refl _ _).alloc (Nat.le_refl _) _
  have hza : Wa.heap.size = w.heap.size + 1 := by rw [hWa]; simp
  obtain ⟨Wb, hWb⟩ : ∃ Wb : World, Wb = Wa.alloc (Obj.cells #[.slice none 0 0] 30) := ⟨_, rfl⟩
  have hbb : Below Wa.heap.size Wa Wb := by rw [hWb]; exact (Below.refl _ _).alloc (Nat.le_refl _) _
  have hzb : Wb.heap.size = w.heap.size + 1 + 1 := by rw [hWb]; simp [hza]
  have kb : Below w.heap.size w Wb := hba.trans (hbb.mono (by omega))
  have HV : Hid (Wb.cell? ⟨w.heap.size, 0, none⟩ = some (.slice (some ⟨r.b, r.off, none⟩) r.es.length r.cap) ∧ Wb.cell? ⟨w.heap.size + 1, 0, none⟩ = some (.slice none 0 0) ∧ Wb.frozen? ⟨w.heap.size + 1, 0, none⟩ = false) := by
    refine ⟨?_, ?_, ?_⟩
    · rw [hbb.cell (p := ⟨w.heap.size, 0, none⟩) (by show w.heap.size < Wa.heap.size; omega), hWa]; simp
    · rw [hWb, ← hza]; simp
    · rw [hWb, ← hza]
      exact World.ownsRow.frozenAt (World.ownsRow_lit (base := 0) (e := 30) (size := 1) Wa #[.slice none 0 0] 1 (Nat.zero_le _) (by decide) rfl) 0
  obtain ⟨Wc, hWc⟩ : ∃ Wc : World, Wc = Wb.alloc (Obj.cells #[] 73) := ⟨_, rfl⟩
  have hbc : Below Wb.heap.size Wb Wc := by rw [hWc]; exact (Below.refl _ _).alloc (Nat.le_refl _) _
  have HL : Hid (LInv base cb bv n Wb (w.heap.size + 1 + 1) 0 [] Wc) := by
    refine ⟨?_, fun e he => by simp at he, (h.below kb).below hbc, Chg.of_below hbc, by omega, by omega⟩
    rw [hWc, ← hzb]
    exact World.ownsRow_made Wb #[] 0 (Nat.le_refl _) (Nat.zero_le _) (by simp)
  have HR : Hid (r.at Wc ∧ (∀ e ∈ r.es, e.small)) := ⟨(hr.below kb).below hbc, hok⟩
  have hrl := hr.lt
  have cv : Wc.cell? ⟨w.heap.size, 0, none⟩ = some (.slice (some ⟨r.b, r.off, none⟩) r.es.length r.cap) := by rw [hbc.cell (p := ⟨w.heap.size, 0, none⟩) (by show w.heap.size < Wb.heap.size; omega)]; exact HV.out.1
  clear h hok
  have HZ : Hid (Wb.heap.size = w.heap.size + 1 + 1) := hzb
  have fin : ∀ (g cp : Nat) (es : List Ent) (wr : World), LInv base cb bv n Wb g cp es wr → es.length ≤ r.es.length + 1 → ∃ r' : Rm, Ending.returned (Value.agg #[.slice (some ⟨g, 0, none⟩) es.length cp]) = .returned (.agg #[.slice (some ⟨r'.b, r'.off, none⟩) r'.es.length r'.cap]) ∧ SpoilOf w r.b r.es r' (wr.setCell ⟨w.heap.size + 1, 0, none⟩ (.slice (some ⟨g, 0, none⟩) es.length cp)) ∧ Drew base cb bv n w (wr.setCell ⟨w.heap.size + 1, 0, none⟩ (.slice (some ⟨g, 0, none⟩) es.length cp)) := by
    intro g cp es wr hL hn
    have hg := hL.row.lt
    have hcg : Chg (fun k => k = w.heap.size + 1) wr (wr.setCell ⟨w.heap.size + 1, 0, none⟩ (.slice (some ⟨g, 0, none⟩) es.length cp)) := Chg.of_set _ _ _ _ rfl
    have hO : OwnE (wr.setCell ⟨w.heap.size + 1, 0, none⟩ (.slice (some ⟨g, 0, none⟩) es.length cp)) Wb.heap.size g cp es := own_chg hL.row hcg (fun k q => by simp [Value.ownBlock] at q; subst q; omega)
    have hcap : es.length ≤ cp ∧ cp ≤ maxLen := by
      rcases hO.2 with ⟨h0, _⟩ | ⟨g', cap', cur, hv, _, _, hn, hcap, _, _⟩
      · cases h0
      · simp only [Value.slice.injEq, Option.some.injEq, Addr.mk.injEq, and_true, true_and] at hv
        obtain ⟨rfl, rfl⟩ := hv
        exact ⟨hn, hcap⟩
    refine ⟨⟨g, 0, cp, es⟩, rfl, ⟨⟨hO.at, hO.lt.2, hcap.1, hcap.2⟩, hL.ok, hn, .inr (by show w.heap.size ≤ g; omega)⟩, hL.d.chg hcg (by omega) (fun k q => by omega), ?_⟩
    exact Chg.grown_new ((Chg.of_below kb).trans hL.c) (grown_set wr (w.heap.size + 1) 0 _) (fun k hk => by cases hk; omega)
  have HFin : Hid (∀ (g cp : Nat) (es : List Ent) (wr : World), LInv base cb bv n Wb g cp es wr → es.length ≤ r.es.length + 1 → ∃ r' : Rm, Ending.returned (Value.agg #[.slice (some ⟨g, 0, none⟩) es.length cp]) = .returned (.agg #[.slice (some ⟨r'.b, r'.off, none⟩) r'.es.length r'.cap]) ∧ SpoilOf w r.b r.es r' (wr.setCell ⟨w.heap.size + 1, 0, none⟩ (.slice (some ⟨g, 0, none⟩) es.length cp)) ∧ Drew base cb bv n w (wr.setCell ⟨w.heap.size + 1, 0, none⟩ (.slice (some ⟨g, 0, none⟩) es.length cp))) := fin
  have hrs : ∀ wr, Chg (fun k => k = cb) Wb wr → wr.cell? ⟨w.heap.size + 1, 0, none⟩ = some (.slice none 0 0) ∧ wr.frozen? ⟨w.heap.size + 1, 0, none⟩ = false := fun wr hc => by
    rw [hc.cell (p := ⟨w.heap.size + 1, 0, none⟩) (by show w.heap.size + 1 < Wb.heap.size; omega) (by show ¬ w.heap.size + 1 = cb; omega), hc.frozen (p := ⟨w.heap.size + 1, 0, none⟩) (by show w.heap.size + 1 < Wb.heap.size; omega) (by show ¬ w.heap.size + 1 = cb; omega)]
    exact HV.out.2
  have HRs : Hid (∀ wr, Chg (fun k => k = cb) Wb wr → wr.cell? ⟨w.heap.size + 1, 0, none⟩ = some (.slice none 0 0) ∧ wr.frozen? ⟨w.heap.size + 1, 0, none⟩ = false) := hrs
  clear fin hrs
  go_enter Try.func28, Try.ntmps28
  have HWs : Hid (Wa = w.alloc (Obj.cells #[.slice (some ⟨r.b, r.off, none⟩) r.es.length r.cap] 30) ∧ Wb = Wa.alloc (Obj.cells #[.slice none 0 0] 30) ∧ Wc = Wb.alloc (Obj.cells #[] 73)) := ⟨hWa, hWb, hWc⟩
  clear hWa hWb hWc hza hzb
  go_wp2_with (at_builtin; refine wpList_append_ents _ rfl _ _ rfl Wb.heap.size (w.heap.size + 1 + 1) 0 0 r.b r.off r.es.length r.cap [] r.es rfl rfl rfl rfl ?hO ?hc ?hl ?hb ?_)
  case hO => rw [← HWs.out.1, ← HWs.out.2.1, ← HWs.out.2.2]; exact HL.out.row
  case hc => rw [← HWs.out.1, ← HWs.out.2.1, ← HWs.out.2.2]; exact HR.out.1.ents
  case hl => simp; omega
  case hb => rw [← HWs.out.1, ← HWs.out.2.1, ← HWs.out.2.2]; exact hbc.size
  rw [← HWs.out.1, ← HWs.out.2.1, ← HWs.out.2.2]
  clear HWs
  intro g cp w1 hO1 hgr1
  have H1 : Hid (LInv base cb bv n Wb g cp r.es w1) := by
    have hs := hbc.size
    have hz := HZ.out
    refine ⟨hO1, HR.out.2, HL.out.d.chg (Chg.of_grown (S := fun k => k = w.heap.size + 1 + 1) hgr1 (fun k hk => by cases hk; rfl)) (by omega) (fun k q => by omega), Chg.grown_new HL.out.c hgr1 (fun k hk => by cases hk; omega), HL.out.lt, HL.out.hb⟩
  clear hO1 hgr1 HL
  by_cases h0 : r.es.length = 0
  · have zl : (r.es.length : Int) = 0 := by omega
    have hc1 := H1.out.c
    have HS : Hid (w1.cell? ⟨w.heap.size + 1, 0, none⟩ = some (.slice none 0 0) ∧ w1.frozen? ⟨w.heap.size + 1, 0, none⟩ = false ∧ w1.cell? ⟨w.heap.size, 0, none⟩ = some (.slice (some ⟨r.b, r.off, none⟩) r.es.length r.cap)) := by
      have hz := HZ.out
      refine ⟨(HRs.out w1 hc1).1, (HRs.out w1 hc1).2, ?_⟩
      rw [hc1.cell (p := ⟨w.heap.size, 0, none⟩) (by show w.heap.size < Wb.heap.size; omega) (by show ¬ w.heap.size = cb; omega)]; exact HV.out.1
    obtain ⟨s1, s2, s3⟩ := HS.out
    obtain ⟨W9, hW9⟩ : ∃ W9 : World, W9 = w1.setCell ⟨w.heap.size + 1, 0, none⟩ (.slice (some ⟨r.b, r.off, none⟩) r.es.length r.cap) := ⟨_, rfl⟩
    have HE : Hid (SpoilOf w r.b r.es r W9 ∧ Drew base cb bv n w W9) := by
      have hcg : Chg (fun k => k = w.heap.size + 1) w1 W9 := by rw [hW9]; exact Chg.of_set _ _ _ _ rfl
      refine ⟨⟨⟨?_, ?_, hr.len, hr.cap⟩, HR.out.2, by omega, .inl rfl⟩, H1.out.d.chg hcg (by omega) (fun k q => by omega), ?_⟩
      · refine EntsAt.chg (EntsAt.chg ((hr.below kb).ents) hc1 ?_ ?_) hcg ?_ ?_
        · have := kb.size; omega
        · exact hrb
        · have := kb.size; have := hc1.size; omega
        · show ¬ r.b = w.heap.size + 1; omega
      · have := hcg.size; have := hc1.size; have := kb.size; omega
      · rw [hW9]; exact Chg.grown_new ((Chg.of_below kb).trans hc1) (grown_set w1 (w.heap.size + 1) 0 _) (fun k hk => by cases hk; omega)
    have p9 : W9.cell? ⟨w.heap.size + 1, 0, none⟩ = some (.slice (some ⟨r.b, r.off, none⟩) r.es.length r.cap) := by rw [hW9]; exact World.cell?_setCell_same _ _ _ s1
    clear hr h0 hrl hba hbb kb hbc hlt hbase hrb HRs HV HR HZ H1 hc1 HFin
    go_wp2_with fail
    rw [← hW9]
    exact bodyPost_ret (v := .agg #[.slice (some ⟨r.b, r.off, none⟩) r.es.length r.cap]) (by simp [results, Try.results28, go_sem, p9]) rfl ⟨r, rfl, HE.out⟩
  · clear cv
    have zl : ¬ (r.es.length : Int) = 0 := by omega
    go_wp2_with fail
    refine (below_core base cb bv n r.es.length w1 H1.out.d (by omega) (by omega)).mono ?_
    rintro e w2 ⟨i, rfl, hi0, hi1, hd2⟩
    obtain ⟨i, rfl⟩ := Int.eq_ofNat_of_zero_le hi0
    have hi : i < r.es.length := by omega
    clear hi0
    have H2 : Hid (LInv base cb bv n Wb g cp r.es w2) := H1.out.call hd2
    clear hd2 H1
    go_wp2_with fail
    refine (below_core base cb bv n 4 w2 H2.out.d (by omega) (by omega)).mono ?_
    rintro e w3 ⟨k, rfl, hk0, hk1, hd3⟩
    have H3 : Hid (LInv base cb bv n Wb g cp r.es w3) := H2.out.call hd3
    clear hd3 H2
    have hk : k = 0 ∨ k = 1 ∨ k = 2 ∨ k = 3 := by omega
    clear hk0 hk1
    obtain ⟨x, hx⟩ : ∃ x, r.es[i]? = some x := ⟨_, List.getElem?_eq_getElem hi⟩
    have HX : Hid (r.es[i]? = some x ∧ x.small) := ⟨hx, HR.out.2 x (List.mem_of_getElem? hx)⟩
    clear hx
    have hcp : r.es.length ≤ cp ∧ r.es.length ≤ maxLen := by
      rcases H3.out.row.2 with ⟨h0, _⟩ | ⟨g', cap', cur, hv, _, _, hn, hcap, _, _⟩
      · cases h0
      · simp only [Value.slice.injEq, Option.some.injEq, Addr.mk.injEq, and_true, true_and] at hv
        obtain ⟨rfl, rfl⟩ := hv
        exact ⟨hn, by omega⟩
    have HN : Hid (base ≤ cb ∧ cb < w.heap.size ∧ base ≤ w.heap.size ∧ r.b < w.heap.size ∧ i < r.es.length ∧ r.es.length ≤ 200 ∧ r.es.length ≤ cp ∧ r.es.length ≤ maxLen ∧ ¬ r.b = cb) := ⟨hlt.1, hlt.2, hbase, hrl, hi, hl, hcp.1, hcp.2, hrb⟩
    clear hl hr h0 hrl hba hbb kb hbc hlt hbase zl hi hcp hrb
    generalize hmm : r.es.length = m at *
    have HM : Hid (r.es.length = m) := hmm
    clear hmm
    have HFn : Hid (∀ (g cp : Nat) (es : List Ent) (m' : Nat) (wr : World), m' = es.length → LInv base cb bv n Wb g cp es wr → m' ≤ m + 1 → ∃ r' : Rm, Ending.returned (Value.agg #[.slice (some ⟨g, 0, none⟩) m' cp]) = .returned (.agg #[.slice (some ⟨r'.b, r'.off, none⟩) r'.es.length r'.cap]) ∧ SpoilOf w r.b r.es r' (wr.setCell ⟨w.heap.size + 1, 0, none⟩ (.slice (some ⟨g, 0, none⟩) m' cp)) ∧ Drew base cb bv n w (wr.setCell ⟨w.heap.size + 1, 0, none⟩ (.slice (some ⟨g, 0, none⟩) m' cp))) := by
      rintro g cp es m' wr rfl hL h1; exact HFin.out g cp es wr hL h1
    clear HFin
    rcases hk with rfl | rfl | rfl | rfl
    · obtain ⟨⟨c0, c1, c2, c3, c4, c5⟩, _⟩ := H3.out.at6 i x HX.out.1
      go_wp2_with fail
      refine (spoilE_core base cb bv n x w3 H3.out.d HX.out.2).mono ?_
      rintro e w4 ⟨y, rfl, hy, hd4⟩
      have H4 : Hid (LInv base cb bv n Wb g cp r.es w4 ∧ y.small) := ⟨H3.out.call hd4, hy⟩
      clear hd4 hy c0 c1 c2 c3 c4 c5
      obtain ⟨⟨c0, c1, c2, c3, c4, c5⟩, f1⟩ := H4.out.1.at6 i x HX.out.1
      have f00 := f1 (i * 6)
      have f01 := f1 (i * 6 + 1)
      have f02 := f1 (i * 6 + 2)
      have f03 := f1 (i * 6 + 3)
      have f04 := f1 (i * 6 + 4)
      have f05 := f1 (i * 6 + 5)
      obtain ⟨W5, hW5⟩ : ∃ W5 : World, W5 = ((((((w4.setCell ⟨g, i * 6, none⟩ (.string y.row)).setCell ⟨g, i * 6 + 1, none⟩ (.string y.fam)).setCell ⟨g, i * 6 + 2, none⟩ (.string y.qual)).setCell ⟨g, i * 6 + 3, none⟩ (.int .u64 y.ts)).setCell ⟨g, i * 6 + 4, none⟩ (.int .i64 y.kind)).setCell ⟨g, i * 6 + 5, none⟩ (.string y.val)) := ⟨_, rfl⟩
      have H5 : Hid (LInv base cb bv n Wb g cp (r.es.set i y) W5) := by show LInv base cb bv n Wb g cp (r.es.set i y) W5; rw [hW5]; exact H4.out.1.put i x y HX.out.1 H4.out.2
      clear f1
      go_upto_region 9 with fail
      rw [← hW5]
      clear hW5 c0 c1 c2 c3 c4 c5 f00 f01 f02 f03 f04 f05 H4
      obtain ⟨rc, rf⟩ := HRs.out W5 H5.out.c
      obtain ⟨W9, hW9⟩ : ∃ W9 : World, W9 = W5.setCell ⟨w.heap.size + 1, 0, none⟩ (.slice (some ⟨g, 0, none⟩) m cp) := ⟨_, rfl⟩
      have HE : Hid (∃ r' : Rm, Ending.returned (Value.agg #[.slice (some ⟨g, 0, none⟩) m cp]) = .returned (.agg #[.slice (some ⟨r'.b, r'.off, none⟩) r'.es.length r'.cap]) ∧ SpoilOf w r.b r.es r' W9 ∧ Drew base cb bv n w W9) := by rw [hW9]; exact HFn.out _ _ (r.es.set i y) _ _ (by rw [List.length_set, HM.out]) H5.out (by omega)
      have p9 : W9.cell? ⟨w.heap.size + 1, 0, none⟩ = some (.slice (some ⟨g, 0, none⟩) m cp) := by rw [hW9]; exact World.cell?_setCell_same _ _ _ rc
      clear HFn HRs HV HR HX HZ H3
      go_wp2_with fail
      rw [← hW9]
      exact bodyPost_ret (v := .agg #[.slice (some ⟨g, 0, none⟩) m cp]) (by simp [results, Try.results28, go_sem, p9]) rfl HE.out
    · obtain ⟨z, hz⟩ : ∃ z, r.es[0]? = some z := ⟨_, List.getElem?_eq_getElem (by have := HM.out; omega)⟩
      have HZ0 : Hid (r.es[0]? = some z ∧ z.small) := ⟨hz, HR.out.2 z (List.mem_of_getElem? hz)⟩
      clear hz
      obtain ⟨W4, hW4⟩ : ∃ W4 : World, W4 = w3.alloc (Obj.cells #[.string z.row, .string z.fam, .string z.qual, .int .u64 z.ts, .int .i64 z.kind, .string z.val] 73) := ⟨_, rfl⟩
      obtain ⟨⟨k0, k1, k2, k3, k4, k5⟩, _⟩ := H3.out.at6 0 z HZ0.out.1
      simp only [Nat.zero_mul, Nat.zero_add] at k0 k1 k2 k3 k4 k5
      have H4 : Hid (YInv base cb bv n Wb g cp r.es w3.heap.size z W4) := by show YInv base cb bv n Wb g cp r.es w3.heap.size z W4; rw [hW4]; exact H3.out.make z
      go_upto_region 11 with fail
      rw [← hW4]
      clear hW4 k0 k1 k2 k3 k4 k5
      generalize w3.heap.size = vb at *
      obtain ⟨⟨c0, c1, c2, c3, c4, c5⟩, f1⟩ := H4.out.at6 i x HX.out.1
      obtain ⟨⟨k0, k1, k2, k3, k4, k5⟩, _⟩ := H4.out.at6 0 z HZ0.out.1
      simp only [Nat.zero_mul, Nat.zero_add] at k0 k1 k2 k3 k4 k5
      have f00 := f1 0
      have f01 := f1 1
      have f02 := f1 2
      have f03 := f1 3
      have f04 := f1 4
      have f05 := f1 5
      obtain ⟨W5, hW5⟩ : ∃ W5 : World, W5 = ((((((W4.setCell ⟨g, 0, none⟩ (.string x.row)).setCell ⟨g, 1, none⟩ (.string x.fam)).setCell ⟨g, 2, none⟩ (.string x.qual)).setCell ⟨g, 3, none⟩ (.int .u64 x.ts)).setCell ⟨g, 4, none⟩ (.int .i64 x.kind)).setCell ⟨g, 5, none⟩ (.string x.val)) := ⟨_, rfl⟩
      have H5 : Hid (YInv base cb bv n Wb g cp (r.es.set 0 x) vb z W5) := by
        have := H4.out.put 0 z x HZ0.out.1 HX.out.2
        simp only [Nat.zero_mul, Nat.zero_add] at this
        rw [← hW5] at this
        exact this
      clear f1
      go_upto_region 12 with fail
      rw [← hW5]
      clear hW5 c0 c1 c2 c3 c4 c5 k0 k1 k2 k3 k4 k5 f00 f01 f02 f03 f04 f05 H4
      obtain ⟨x2, hx2⟩ : ∃ x2, (r.es.set 0 x)[i]? = some x2 := ⟨_, List.getElem?_eq_getElem (by rw [List.length_set, HM.out]; omega)⟩
      have HX2 : Hid ((r.es.set 0 x)[i]? = some x2) := hx2
      clear hx2
      obtain ⟨⟨c0, c1, c2, c3, c4, c5⟩, f1⟩ := H5.out.at6 i x2 HX2.out
      obtain ⟨⟨k0, k1, k2, k3, k4, k5⟩, _⟩ := H5.out.cells
      have f00 := f1 (i * 6)
      have f01 := f1 (i * 6 + 1)
      have f02 := f1 (i * 6 + 2)
      have f03 := f1 (i * 6 + 3)
      have f04 := f1 (i * 6 + 4)
      have f05 := f1 (i * 6 + 5)
      obtain ⟨W6, hW6⟩ : ∃ W6 : World, W6 = ((((((W5.setCell ⟨g, i * 6, none⟩ (.string z.row)).setCell ⟨g, i * 6 + 1, none⟩ (.string z.fam)).setCell ⟨g, i * 6 + 2, none⟩ (.string z.qual)).setCell ⟨g, i * 6 + 3, none⟩ (.int .u64 z.ts)).setCell ⟨g, i * 6 + 4, none⟩ (.int .i64 z.kind)).setCell ⟨g, i * 6 + 5, none⟩ (.string z.val)) := ⟨_, rfl⟩
      have H6 : Hid (LInv base cb bv n Wb g cp ((r.es.set 0 x).set i z) W6) := by show LInv base cb bv n Wb g cp ((r.es.set 0 x).set i z) W6; rw [hW6]; exact H5.out.toLInv.put i x2 z HX2.out HZ0.out.2
      clear f1
      go_upto_region 13 with fail
      rw [← hW6]
      clear hW6 c0 c1 c2 c3 c4 c5 k0 k1 k2 k3 k4 k5 f00 f01 f02 f03 f04 f05 H5 HX2 HZ0
      obtain ⟨rc, rf⟩ := HRs.out W6 H6.out.c
      obtain ⟨W9, hW9⟩ : ∃ W9 : World, W9 = W6.setCell ⟨w.heap.size + 1, 0, none⟩ (.slice (some ⟨g, 0, none⟩) m cp) := ⟨_, rfl⟩
      have HE : Hid (∃ r' : Rm, Ending.returned (Value.agg #[.slice (some ⟨g, 0, none⟩) m cp]) = .returned (.agg #[.slice (some ⟨r'.b, r'.off, none⟩) r'.es.length r'.cap]) ∧ SpoilOf w r.b r.es r' W9 ∧ Drew base cb bv n w W9) := by rw [hW9]; exact HFn.out _ _ ((r.es.set 0 x).set i z) _ _ (by rw [List.length_set, List.length_set, HM.out]) H6.out (by omega)
      have p9 : W9.cell? ⟨w.heap.size + 1, 0, none⟩ = some (.slice (some ⟨g, 0, none⟩) m cp) := by rw [hW9]; exact World.cell?_setCell_same _ _ _ rc
      clear HFn HRs HV HR HX HZ H3
      go_wp2_with fail
      rw [← hW9]
      exact bodyPost_ret (v := .agg #[.slice (some ⟨g, 0, none⟩) m cp]) (by simp [results, Try.results28, go_sem, p9]) rfl HE.out
    · obtain ⟨⟨c0, c1, c2, c3, c4, c5⟩, _⟩ := H3.out.at6 i x HX.out.1
      have hgX := H3.out.row.lt
      have hsX := H3.out.c.size
      have HKl : Hid (m = r.es.length) := HM.out.symm
      have HN2 : Hid (m ≤ 200) := HN.out.2.2.2.2.2.1
      go_wp2_with (at_builtin; refine wpList_append_ent _ rfl _ _ rfl Wb.heap.size g cp _ _ r.es x rfl rfl HKl.out ?hO ?hc ?hl ?hb ?_)
      case hO => exact H3.out.row.below ((Below.refl _ _).alloc (Nat.le_refl _) _) (by omega)
      case hc => exact ent_new w3 x
      case hl => rw [← HKl.out]; have := HN2.out; omega
      case hb => first | (simp; omega) | omega
      intro g' cp' w4 hO' hgr
      have H6 : Hid (LInv base cb bv n Wb g' cp' (r.es ++ [x]) w4) := H3.out.push HX.out.2 hO' hgr
      clear hO' hgr c0 c1 c2 c3 c4 c5 hgX hsX HKl
      obtain ⟨rc, rf⟩ := HRs.out w4 H6.out.c
      obtain ⟨W9, hW9⟩ : ∃ W9 : World, W9 = w4.setCell ⟨w.heap.size + 1, 0, none⟩ (.slice (some ⟨g', 0, none⟩) (m + 1) cp') := ⟨_, rfl⟩
      have HE : Hid (∃ r' : Rm, Ending.returned (Value.agg #[.slice (some ⟨g', 0, none⟩) (m + 1) cp']) = .returned (.agg #[.slice (some ⟨r'.b, r'.off, none⟩) r'.es.length r'.cap]) ∧ SpoilOf w r.b r.es r' W9 ∧ Drew base cb bv n w W9) := by rw [hW9]; exact HFn.out _ _ (r.es ++ [x]) _ _ (by simp [HM.out]) H6.out (by omega)
      have p9 : W9.cell? ⟨w.heap.size + 1, 0, none⟩ = some (.slice (some ⟨g', 0, none⟩) (m + 1) cp') := by rw [hW9]; exact World.cell?_setCell_same _ _ _ rc
      clear HFn HRs HV HR HX HZ H3
      go_wp2_with fail
      rw [← hW9]
      exact bodyPost_ret (v := .agg #[.slice (some ⟨g', 0, none⟩) (m + 1) cp']) (by simp [results, Try.results28, go_sem, p9]) rfl HE.out
    · go_wp2_with fail
      refine (below_core base cb bv n 3 w3 H3.out.d (by omega) (by omega)).mono ?_
      rintro e w4 ⟨q, rfl, hq0, hq1, hd4⟩
      have H4 : Hid (LInv base cb bv n Wb g cp r.es w4 ∧ 0 ≤ q ∧ q < 3) := ⟨H3.out.call hd4, hq0, hq1⟩
      clear hd4 hq0 hq1
      have H5 : Hid (LInv base cb bv n Wb g cp (r.es.set i { x with kind := q }) (w4.setCell ⟨g, i * 6 + 4, none⟩ (.int .i64 q))) := H4.out.1.set i 4 x { x with kind := q } (.int .i64 q) HX.out.1 (by omega) rfl ⟨HX.out.2.row, HX.out.2.fam, HX.out.2.qual, HX.out.2.val, HX.out.2.ts, by have := H4.out.2; show 0 ≤ q ∧ q ≤ 3; omega⟩
      have HX2 : Hid ((r.es.set i { x with kind := q })[i]? = some { x with kind := q }) := by show (r.es.set i { x with kind := q })[i]? = some { x with kind := q }; rw [List.getElem?_set_self (by have := HM.out; omega)]
      obtain ⟨⟨c0, c1, c2, c3, c4, c5⟩, f1⟩ := H4.out.1.at6 i x HX.out.1
      have f04 := f1 (i * 6 + 4)
      obtain ⟨W5, hW5⟩ : ∃ W5 : World, W5 = w4.setCell ⟨g, i * 6 + 4, none⟩ (.int .i64 q) := ⟨_, rfl⟩
      rw [← hW5] at H5
      clear f1
      go_upto_region 17 with fail
      rw [← hW5]
      clear hW5 c0 c1 c2 c3 c4 c5 f04
      obtain ⟨⟨c0, c1, c2, c3, c4, c5⟩, f1⟩ := H5.out.at6 i _ HX2.out
      have f05 := f1 (i * 6 + 5)
      obtain ⟨W6, hW6⟩ : ∃ W6 : World, W6 = W5.setCell ⟨g, i * 6 + 5, none⟩ (.string ⟨#[]⟩) := ⟨_, rfl⟩
      have H6 : Hid (LInv base cb bv n Wb g cp ((r.es.set i { x with kind := q }).set i { x with kind := q, val := ⟨#[]⟩ }) W6) := by
        show LInv base cb bv n Wb g cp ((r.es.set i { x with kind := q }).set i { x with kind := q, val := ⟨#[]⟩ }) W6
        rw [hW6]
        exact H5.out.set i 5 _ { x with kind := q, val := ⟨#[]⟩ } (.string ⟨#[]⟩) HX2.out (by omega) rfl ⟨HX.out.2.row, HX.out.2.fam, HX.out.2.qual, by show (0 : Nat) ≤ 1000; omega, HX.out.2.ts, by have := H4.out.2; show 0 ≤ q ∧ q ≤ 3; omega⟩
      clear f1
      go_upto_region 18 with fail
      rw [← hW6]
      clear hW6 c0 c1 c2 c3 c4 c5 f05 H5 HX2 H4
      obtain ⟨rc, rf⟩ := HRs.out W6 H6.out.c
      obtain ⟨W9, hW9⟩ : ∃ W9 : World, W9 = W6.setCell ⟨w.heap.size + 1, 0, none⟩ (.slice (some ⟨g, 0, none⟩) m cp) := ⟨_, rfl⟩
      have HE : Hid (∃ r' : Rm, Ending.returned (Value.agg #[.slice (some ⟨g, 0, none⟩) m cp]) = .returned (.agg #[.slice (some ⟨r'.b, r'.off, none⟩) r'.es.length r'.cap]) ∧ SpoilOf w r.b r.es r' W9 ∧ Drew base cb bv n w W9) := by rw [hW9]; exact HFn.out _ _ ((r.es.set i { x with kind := q }).set i { x with kind := q, val := ⟨#[]⟩ }) _ _ (by rw [List.length_set, List.length_set, HM.out]) H6.out (by omega)
      have p9 : W9.cell? ⟨w.heap.size + 1, 0, none⟩ = some (.slice (some ⟨g, 0, none⟩) m cp) := by rw [hW9]; exact World.cell?_setCell_same _ _ _ rc
      clear HFn HRs HV HR HX HZ H3
      go_wp2_with fail
      rw [← hW9]
      exact bodyPost_ret (v := .agg #[.slice (some ⟨g, 0, none⟩) m cp]) (by simp [results, Try.results28, go_sem, p9]) rfl HE.out
end Go.Proofs.Ytjphalbjimggcae

/-
  The draws: a row of runs; the runs of one list of writes.
-/
namespace Go.Proofs.Ytjphalbjimggcae
open Go.ChangeShapes Go.WideShapes Go.ChangeAt Go.RowKit Go.Deep
set_option linter.unusedVariables false
set_option linter.unusedSimpArgs false
set_option maxRecDepth 100000

theorem EntsAt.dropped {w : World} {b off : Nat} {es : List Ent} (h : EntsAt w b off es) (k : Nat) : EntsAt w b (off + k * 6) (es.drop k) := by
  intro i e he
  rw [List.getElem?_drop] at he
  have := h (k + i) e he
  rw [show off + (k + i) * 6 = off + k * 6 + i * 6 by omega] at this
  exact this
theorem EntsAt.taken {w : World} {b off : Nat} {es : List Ent} (h : EntsAt w b off es) (k : Nat) : EntsAt w b off (es.take k) := by
  intro i e he
  refine h i e ?_
  by_cases hi : i < k
  · rwa [List.getElem?_take_of_lt hi] at he
  · have := (List.getElem?_eq_some_iff.1 he).1
    simp at this
    omega

/-- A row of runs, of the call's own. -/
def OwnW (w : World) (base g cp : Nat) (l : List Rm) : Prop := w.ownsRow base 30 1 (.slice (some ⟨g, 0, none⟩) l.length cp) l.length (l.map Rm.u)
theorem OwnW.lt {w : World} {base g cp : Nat} {l : List Rm} (h : OwnW w base g cp l) : base ≤ g ∧ g < w.heap.size := World.ownsRow.lt h g rfl
theorem OwnW.chg {S : Nat → Prop} {w w' : World} {base g cp : Nat} {l : List Rm} (h : OwnW w base g cp l) (hc : Chg S w w') (hn : ¬ S g) : OwnW w' base g cp l := own_chg h hc (fun k q => by simp [Value.ownBlock] at q; subst q; exact hn)
theorem OwnW.cell {w : World} {base g cp : Nat} {l : List Rm} (h : OwnW w base g cp l) {k : Nat} {r : Rm} (hr : l[k]? = some r) : w.cell? ⟨g, k, none⟩ = some r.u := by
  have hk := (List.getElem?_eq_some_iff.1 hr).1
  rw [World.ownsRow.cellAt h k (by omega), List.getElem?_map, hr]; rfl
theorem OwnW.set {w : World} {base g cp : Nat} {l : List Rm} (h : OwnW w base g cp l) (k : Nat) (r : Rm) : OwnW (w.setCell ⟨g, k, none⟩ r.u) base g cp (l.set k r) := by
  have := (World.ownsRow.stored h k r.u).1
  unfold OwnW
  rw [List.length_set, List.map_set]
  exact this
theorem rm_one (l : List Rm) : ∀ u ∈ l.map Rm.u, u.oneCell' = true := by
  intro u hu
  obtain ⟨r, _, rfl⟩ := List.mem_map.1 hu
  rfl
/-- Runs appended to a row of the call's own. -/
theorem wpList_append_runs {ops : Array Oper} {rest : List Oper} {o : Oper} {a : Act} {Q : Exit → Act → World → Prop} (w : World) (hgd : o.guard = none) (s x : Operand)
    (ho : o.op = .call { callee := .builtin .append, args := #[s, x], argTypes := #[23, 23] })
    (base g cp n b m cx : Nat) (l k : List Rm) (hs : a.eval s = .slice (some ⟨g, 0, none⟩) n cp) (hx : a.eval x = .slice (some ⟨b, 0, none⟩) m cx) (hn : n = l.length) (hm : m = k.length) (hO : OwnW w base g cp l)
    (hc : ∀ i r, k[i]? = some r → w.cell? ⟨b, i, none⟩ = some r.u) (hlen : l.length + k.length ≤ 2 ^ 30) (hbase : base ≤ w.heap.size)
    (h : ∀ g' cp' w', OwnW w' base g' cp' (l ++ k) → w.grownBy w' (some g) → (g' = g ∨ g' = w.heap.size) → wpList Try.prog ops Q rest (a.put o.dst (.slice (some ⟨g', 0, none⟩) (n + m) cp')) w') : wpList Try.prog ops Q (o :: rest) a w := by
  subst hn hm
  obtain ⟨i, hi, hz0, hz1, hz2⟩ := info_parts Try.infoRun
  refine wpList_append_own_at w hgd s x 23 ho base 30 i _ 1 24 Try.underlying23 hi hz0 hz1 hz2 rfl (by decide) (.slice (some ⟨g, 0, none⟩) l.length cp) l.length (l.map Rm.u) hs hO ⟨b, 0, none⟩ k.length cx (k.map Rm.u) hx (by simp) ?_ (rm_one k) ?_ ?_ hbase ?_
  · intro j u hu
    rw [List.getElem?_map] at hu
    cases hk : k[j]? with
    | none => rw [hk] at hu; cases hu
    | some r =>
      rw [hk] at hu
      simp at hu
      rw [Addr.add_mid, Nat.zero_add, hc j r hk, ← hu]
  · unfold maxLen; omega
  · omega
  · intro v' w' hO' hgr hnil hat
    rcases hO'.2 with ⟨h0, _⟩ | ⟨g', cap', cur, hv, _, _, hn, hcap, _, _⟩
    · have := (hnil.1 h0).1
      cases this
    · subst hv
      refine h g' cap' w' ?_ hgr ?_
      · unfold OwnW
        rw [List.length_append, List.map_append]
        exact hO'
      · simp [Value.ownBlock] at hat
        exact hat

/-- A drawn run. -/
structure Rm.drawn (H g : Nat) (w : World) (r : Rm) : Prop where
  at_ : r.at w
  ok : ∀ e ∈ r.es, e.small
  len : r.es.length ≤ 101
  ne : ¬ r.b = g
  new : H ≤ r.b
structure RInv (base cb : Nat) (bv : Value) (n : Nat) (w : World) (g cp : Nat) (l : List Rm) (wr : World) : Prop where
  row : OwnW wr w.heap.size g cp l
  ats : ∀ r ∈ l, r.drawn w.heap.size g wr
  d : DrawAt base cb bv n wr
  c : Chg (fun k => k = cb) w wr
  lt : cb < w.heap.size
  hb : base ≤ w.heap.size
theorem Rm.drawn.chg {S : Nat → Prop} {H g : Nat} {w w' : World} {r : Rm} (h : r.drawn H g w) (hc : Chg S w w') (hn : ¬ S r.b) : r.drawn H g w' := ⟨h.at_.chg hc hn, h.ok, h.len, h.ne, h.new⟩
theorem RInv.call {base cb : Nat} {bv : Value} {n : Nat} {w : World} {g cp : Nat} {l : List Rm} {wr w1 : World} (h : RInv base cb bv n w g cp l wr) (hd : Drew base cb bv n wr w1) : RInv base cb bv n w g cp l w1 := by
  have hg := h.row.lt
  have hl := h.lt
  exact ⟨h.row.chg hd.2 (by omega), fun r hr => (h.ats r hr).chg hd.2 (by have := (h.ats r hr).new; omega), hd.1, h.c.trans hd.2, h.lt, h.hb⟩
theorem RInv.below {base cb : Nat} {bv : Value} {n : Nat} {w : World} {g cp : Nat} {l : List Rm} {wr w1 : World} (h : RInv base cb bv n w g cp l wr) (hb : Below wr.heap.size wr w1) : RInv base cb bv n w g cp l w1 :=
  h.call ⟨h.d.below hb, Chg.of_below hb⟩

def lenOf : Value → Nat
  | .slice _ m _ => m
  | _ => 0
/-- The loop of the cuts. -/
structure CInv (base cb : Nat) (bv : Value) (n : Nat) (w : World) (gw o m q : Nat) (ws : List Ent) (g cp : Nat) (l : List Rm) (wr : World) : Prop extends RInv base cb bv n w g cp l wr where
  ents : EntsAt wr gw o ws
  wl : ws.length = m
  sm : ∀ e ∈ ws, e.small
  wlt : w.heap.size ≤ gw ∧ gw < wr.heap.size
  mc : m ≤ q ∧ q ≤ maxLen
  cnt : m + l.length ≤ 100
  short : ∀ r ∈ l, r.es.length ≤ 100
theorem CInv.call {base cb : Nat} {bv : Value} {n : Nat} {w : World} {gw o m q : Nat} {ws : List Ent} {g cp : Nat} {l : List Rm} {wr w1 : World} (h : CInv base cb bv n w gw o m q ws g cp l wr) (hd : Drew base cb bv n wr w1) : CInv base cb bv n w gw o m q ws g cp l w1 := by
  have hl := h.lt
  have hw := h.wlt
  have hz := hd.2.size
  exact { h.toRInv.call hd with ents := h.ents.chg hd.2 hw.2 (by omega), wl := h.wl, sm := h.sm, wlt := ⟨hw.1, by omega⟩, mc := h.mc, cnt := h.cnt, short := h.short }

set_option maxHeartbeats 4000000 in
theorem l3Runs_core (base cb : Nat) (bv : Value) (n : Nat) (most : Nat) (w : World) (h : DrawAt base cb bv n w) (hm : most ≤ 100) :
    Calls Try.prog 25 #[.pointer (some ⟨cb, 0, none⟩), .int .i64 most] w fun x w' => ∃ (g cp : Nat) (l : List Rm), x = .returned (.slice (some ⟨g, 0, none⟩) l.length cp) ∧ l.length ≤ 100 ∧ (∀ r ∈ l, r.es.length ≤ 100) ∧ RInv base cb bv n w g cp l w' := by
  have HD : Hid (DrawAt base cb bv n w) := h
  have hlt := h.lt
  have hbase := h.base
  clear h
  go_enter Try.func25, Try.ntmps25
  go_wp2_with fail
  refine (writes_core base cb bv n most _ HD.out hm).mono ?_
  rintro e w1 ⟨gw, cw, ws, rfl, hwl, hL1⟩
  obtain ⟨W2, hW2⟩ : ∃ W2 : World, W2 = w1.alloc (Obj.cells #[] 30) := ⟨_, rfl⟩
  have H2 : Hid (CInv base cb bv n w gw 0 ws.length cw ws w1.heap.size 0 [] W2) := by
    have hb : Below w1.heap.size w1 W2 := by rw [hW2]; exact (Below.refl _ _).alloc (Nat.le_refl _) _
    have hg := hL1.row.lt
    have hcap : ws.length ≤ cw ∧ cw ≤ maxLen := by
      rcases hL1.row.2 with ⟨h0, _⟩ | ⟨g', cap', cur, hv, _, _, hn, hcap, _, _⟩
      · cases h0
      · simp only [Value.slice.injEq, Option.some.injEq, Addr.mk.injEq, and_true, true_and] at hv
        obtain ⟨rfl, rfl⟩ := hv
        exact ⟨hn, hcap⟩
    have hs := hb.size
    refine ⟨⟨?_, fun r hr => by simp at hr, hL1.d.below hb, hL1.c.trans (Chg.of_below hb), hlt.2, hbase⟩, hL1.row.at.below hb hg.2, rfl, hL1.ok, ⟨hg.1, by omega⟩, hcap, by simpa using hwl, fun r hr => by simp at hr⟩
    rw [hW2]
    exact World.ownsRow_made w1 #[] 0 hL1.c.size (Nat.zero_le _) (by simp)
  clear hL1
  go_wp2_with fail
  rw [← hW2]
  clear hW2
  go_loopw [5, 6] (fun s o6 wr => ∃ (o m q g cp : Nat) (vs : List Ent) (l : List Rm), s = .slice (some ⟨gw, o, none⟩) m q ∧ o6 = .slice (some ⟨g, 0, none⟩) l.length cp ∧ CInv base cb bv n w gw o m q vs g cp l wr) (fun s _ _ => lenOf s)
  case atStart => exact ⟨0, _, cw, _, 0, ws, [], rfl, rfl, H2.out⟩
  case round =>
    obtain ⟨o, m, q, g, cp, vs, l, rfl, rfl, hC⟩ := hrel
    have HC : Hid (CInv base cb bv n w gw o m q vs g cp l wr) := hC
    clear hC
    by_cases h0 : m = 0
    · have hz : ¬ (0 : Int) < (m : Int) := by omega
      go_wp2_with fail
      go_ret
      exact ⟨g, cp, l, rfl, by have := HC.out.cnt; omega, HC.out.short, HC.out.toRInv⟩
    · have hz : (0 : Int) < (m : Int) := by omega
      have hm1 : m ≤ 100 := by have := HC.out.cnt; omega
      go_wp2_with fail
      refine (below_core base cb bv n (m : Int) _ HC.out.d (by omega) (by omega)).mono ?_
      rintro e w3 ⟨y, rfl, hy0, hy1, hd3⟩
      have H3 : Hid (CInv base cb bv n w gw o m q vs g cp l w3) := HC.out.call hd3
      clear hd3
      obtain ⟨j, hj⟩ : ∃ j : Nat, (1 : Int) + y = (j : Int) := ⟨(1 + y).toNat, by omega⟩
      have hj1 : 1 ≤ j ∧ j ≤ m := by omega
      have hmc := HC.out.mc
      have hjq : j ≤ q := by omega
      go_wp2_with fail
      have ht : (vs.take j).length = j := by rw [List.length_take, HC.out.wl]; omega
      have hbld := specBuild_core gw o q (vs.take j) w3 (H3.out.ents.taken j) (fun e he => (H3.out.sm e (List.mem_of_mem_take he)).ok) H3.out.wlt.2 (by omega)
      rw [ht] at hbld
      refine hbld.mono ?_
      rintro e w4 ⟨g2, cp2, R, rfl, hO2, hb2, hRl, hK, hN⟩
      have hg2 := hO2.lt
      have hok : ∀ e ∈ R, e.small := by
        intro e he
        by_cases hg : GoodW (vs.take j)
        · obtain ⟨i, _, hi, _⟩ := ((hK hg).2 e).1 he
          exact H3.out.sm e (List.mem_of_mem_take (List.mem_of_getElem? hi))
        · rw [hN hg] at he; simp at he
      have hcap : R.length ≤ cp2 ∧ cp2 ≤ maxLen := by
        rcases hO2.2 with ⟨h0, _⟩ | ⟨g', cap', cur, hv, _, _, hn, hcap, _, _⟩
        · cases h0
        · simp only [Value.slice.injEq, Option.some.injEq, Addr.mk.injEq, and_true, true_and] at hv
          obtain ⟨rfl, rfl⟩ := hv
          exact ⟨hn, hcap⟩
      obtain ⟨r, hr⟩ : ∃ r : Rm, r = ⟨g2, 0, cp2, R⟩ := ⟨_, rfl⟩
      have HR : Hid (r.at w4 ∧ (∀ e ∈ r.es, e.small) ∧ r.es.length ≤ j ∧ w3.heap.size ≤ r.b) := by
        rw [hr]; exact ⟨⟨hO2.at, hO2.lt.2, hcap.1, hcap.2⟩, hok, by omega, hg2.1⟩
      have H4 : Hid (CInv base cb bv n w gw o m q vs g cp l w4) := H3.out.call ⟨H3.out.d.below hb2, Chg.of_below hb2⟩
      obtain ⟨W5, hW5⟩ : ∃ W5 : World, W5 = w4.alloc (Obj.cells #[.slice (some ⟨g2, 0, none⟩) R.length cp2] 30) := ⟨_, rfl⟩
      have hb5 : Below w4.heap.size w4 W5 := by rw [hW5]; exact (Below.refl _ _).alloc (Nat.le_refl _) _
      have hz5 : W5.heap.size = w4.heap.size + 1 := by rw [hW5]; simp
      have H5 : Hid (CInv base cb bv n w gw o m q vs g cp l W5) := H4.out.call ⟨H4.out.d.below hb5, Chg.of_below hb5⟩
      have HO5 : Hid (OwnW W5 w.heap.size w4.heap.size 1 [r]) := by
        show OwnW W5 w.heap.size w4.heap.size 1 [r]
        rw [hW5, hr]
        exact World.ownsRow_lit w4 #[.slice (some ⟨g2, 0, none⟩) R.length cp2] 1 H4.out.c.size (by decide) rfl
      clear hO2 hb2 hRl hK hN hok hcap ht hbld
      go_wp2_with (at_builtin; rw [← hW5]; refine wpList_append_runs _ rfl _ _ rfl w.heap.size w4.heap.size 1 1 g l.length cp [r] l rfl rfl rfl rfl ?hO ?hc ?hl ?hb ?_)
      case hO => exact HO5.out
      case hc => exact fun i r' hr' => H5.out.row.cell hr'
      case hl => have := H5.out.cnt; simp; omega
      case hb => exact H5.out.c.size
      intro g' cp' w6 hO' hgr hat
      rw [← hr] at hO'
      rw [← hW5] at hgr
      have H6 : Hid (∀ o', (o' = o + j * 6 ∨ m = j) → CInv base cb bv n w gw o' (m - j) (q - j) (vs.drop j) g' cp' (r :: l) w6) := by
        have hcg : Chg (fun k => k = w4.heap.size) W5 w6 := Chg.of_grown hgr (fun k hk => by cases hk; rfl)
        have hs4 := H4.out.c.size
        have hs5 := hb5.size
        have hcb := H4.out.lt
        have hbb := H4.out.hb
        have hw4 := H4.out.wlt
        have hs6 := hcg.size
        have hwl := H4.out.wl
        have hcnt := H4.out.cnt
        have hcm := H4.out.mc
        have h30 := H3.out.c.size
        intro o' ho'
        refine ⟨⟨hO', ?_, (H5.out.d.chg hcg (by omega) (fun k q => by omega)), ?_, H4.out.lt, H4.out.hb⟩, ?_, by simp [hwl], fun e he => H4.out.sm e (List.mem_of_mem_drop he), ⟨hw4.1, by omega⟩, ⟨by omega, by omega⟩, by simp; omega, ?_⟩
        · intro r' hr'
          rcases List.mem_cons.1 hr' with rfl | hr'
          · have h1 := HR.out.1
            have hl1 := h1.lt
            refine ⟨(h1.chg (Chg.of_below hb5) (S := fun _ => False) (fun q => q)).chg hcg (by show ¬ _ = _; omega), HR.out.2.1, by have := HR.out.2.2.1; omega, by omega, by have := HR.out.2.2.2; omega⟩
          · have h1 := H4.out.ats r' hr'
            have hl1 := h1.at_.lt
            refine ⟨(h1.at_.chg (Chg.of_below hb5) (S := fun _ => False) (fun q => q)).chg hcg (by show ¬ _ = _; omega), h1.ok, h1.len, by omega, h1.new⟩
        · exact Chg.grown_new H5.out.c hgr (fun k hk => by cases hk; omega)
        · rcases ho' with rfl | hmj
          · exact (H5.out.ents.chg hcg (by omega) (by show ¬ _ = _; omega)).dropped j
          · rw [List.drop_of_length_le (by omega)]
            intro i e he
            simp at he
        · intro r' hr'
          rcases List.mem_cons.1 hr' with rfl | hr'
          · have := HR.out.2.2.1; omega
          · exact H4.out.short r' hr'
      clear hO' hgr hat HO5 H5 hb5 hz5 hr H4 HR
      have hmj : (j : Int) ≤ (m : Int) := by omega
      by_cases hqj : q = j
      · have hmq : m = j := by omega
        subst hqj
        go_wp2_with fail
        exact ⟨⟨o, m - q, q - q, g', cp', vs.drop q, r :: l, by simp; omega, by simp [Nat.add_comm], H6.out o (.inr hmq)⟩, by simp [lenOf]; omega⟩
      · go_wp2_with fail
        exact ⟨⟨o + j * 6, m - j, q - j, g', cp', vs.drop j, r :: l, rfl, by simp [Nat.add_comm], H6.out _ (.inl rfl)⟩, by simp [lenOf]; omega⟩
end Go.Proofs.Ytjphalbjimggcae

/-
  The draws: the runs and the range of a merge.
-/
namespace Go.Proofs.Ytjphalbjimggcae
open Go.ChangeShapes Go.WideShapes Go.ChangeAt Go.RowKit Go.Deep
set_option linter.unusedVariables false
set_option linter.unusedSimpArgs false
set_option maxRecDepth 100000

theorem OwnW.mono {w : World} {base base' g cp : Nat} {l : List Rm} (h : OwnW w base g cp l) (hb : base' ≤ base) : OwnW w base' g cp l := by
  refine ⟨h.1, ?_⟩
  rcases h.2 with h0 | ⟨g', cap', cur, hv, h1, h2⟩
  · exact .inl h0
  · exact .inr ⟨g', cap', cur, hv, Nat.le_trans hb h1, h2⟩
theorem CodeAt.slice {w : World} {base : Nat} {bv : Value} {n : Nat} (h : CodeAt w base bv n) : ∃ a cap, bv = .slice a n cap := by
  rcases h.2 with ⟨a, cap, rfl, rfl⟩ | ⟨b, off, cap, rfl, _⟩
  · exact ⟨_, _, rfl⟩
  · exact ⟨_, _, rfl⟩
theorem CodeAt.up {w w' : World} {bv : Value} {n : Nat} (h : CodeAt w w.heap.size bv n) (hb : Below w.heap.size w w') : CodeAt w' w'.heap.size bv n := by
  refine ⟨h.1, ?_⟩
  rcases h.2 with h | ⟨b, off, cap, rfl, hlt, hc⟩
  · exact .inl h
  · refine .inr ⟨b, off, cap, rfl, by have := hb.size; omega, fun k hk => ?_⟩
    obtain ⟨x, h1, h2⟩ := hc k hk
    exact ⟨x, by rw [hb.cell (p := ⟨b, off + k, none⟩) hlt]; exact h1, h2⟩
/-- One run of the row is spoilt. -/
theorem RInv.spoil {base cb : Nat} {bv : Value} {n : Nat} {w : World} {g cp : Nat} {l : List Rm} {wr w1 : World} (h : RInv base cb bv n w g cp l wr) {r r' : Rm} (hr : l[0]? = some r) (hl : r.es.length ≤ 100) (hs : SpoilOf wr r.b r.es r' w1) (hd : Drew base cb bv n wr w1) : RInv base cb bv n w g cp (l.set 0 r') (w1.setCell ⟨g, 0, none⟩ r'.u) := by
  have h1 := h.call hd
  have hg := h.row.lt
  have hcb := h.lt
  have hbb := h.hb
  have hrb := h.ats r (List.mem_of_getElem? hr)
  have hz := hd.2.size
  have hcs := h.c.size
  have hcg : Chg (fun k => k = g) w1 (w1.setCell ⟨g, 0, none⟩ r'.u) := Chg.of_set _ _ _ _ rfl
  have hlr := hrb.at_.lt
  refine ⟨h1.row.set 0 r', ?_, h1.d.chg hcg (by omega) (fun k q => by omega), Chg.grown_new h1.c (grown_set w1 g 0 _) (fun k hk => by cases hk; omega), h.lt, h.hb⟩
  intro x hx
  rcases List.mem_or_eq_of_mem_set hx with q | rfl
  · exact (h1.ats x q).chg hcg (h1.ats x q).ne
  · have hne : ¬ x.b = g := by
      rcases hs.blk with q | q
      · rw [q]; exact hrb.ne
      · omega
    refine ⟨hs.at_.chg hcg hne, hs.ok, by have := hs.len; omega, hne, ?_⟩
    rcases hs.blk with q | q
    · rw [q]; exact hrb.new
    · omega
/-- One more run. -/
theorem RInv.push {base cb : Nat} {bv : Value} {n : Nat} {w : World} {g cp : Nat} {l : List Rm} {wr w1 w2 : World} {o : Obj} {g2 cp2 : Nat} {R : List Ent} (h : RInv base cb bv n w g cp l wr) (hL : LInv base cb bv n wr g2 cp2 R w1) (hR : R.length ≤ 100) {g' cp' : Nat}
    (hO : OwnW w2 w.heap.size g' cp' (l ++ [⟨g2, 0, cp2, R⟩])) (hgr : (w1.alloc o).grownBy w2 (some g)) (hat : g' = g ∨ g' = w1.heap.size + 1) : RInv base cb bv n w g' cp' (l ++ [⟨g2, 0, cp2, R⟩]) w2 := by
  have hb : Below w1.heap.size w1 (w1.alloc o) := (Below.refl _ _).alloc (Nat.le_refl _) _
  have h1 := (h.call ⟨hL.d, hL.c⟩).below hb
  have hg := h.row.lt
  have hcb := h.lt
  have hbb := h.hb
  have hz := hL.c.size
  have hzo : (w1.alloc o).heap.size = w1.heap.size + 1 := by simp
  have hcs := h.c.size
  have hg2 := hL.row.lt
  have hcg : Chg (fun k => k = g) (w1.alloc o) w2 := Chg.of_grown hgr (fun k hk => by cases hk; rfl)
  have hcap : R.length ≤ cp2 ∧ cp2 ≤ maxLen := by
    rcases hL.row.2 with ⟨h0, _⟩ | ⟨g', cap', cur, hv, _, _, hn, hcap, _, _⟩
    · cases h0
    · simp only [Value.slice.injEq, Option.some.injEq, Addr.mk.injEq, and_true, true_and] at hv
      obtain ⟨rfl, rfl⟩ := hv
      exact ⟨hn, hcap⟩
  refine ⟨hO, ?_, h1.d.chg hcg (by omega) (fun k q => by omega), Chg.grown_new h1.c hgr (fun k hk => by cases hk; omega), h.lt, h.hb⟩
  intro x hx
  rcases List.mem_append.1 hx with q | q
  · have h0 := h.ats x q
    have h2 := h1.ats x q
    have hl := h0.at_.lt
    refine ⟨h2.at_.chg hcg h2.ne, h2.ok, h2.len, ?_, h2.new⟩
    rcases hat with rfl | rfl
    · exact h2.ne
    · omega
  · simp at q
    subst q
    have ha : (⟨g2, 0, cp2, R⟩ : Rm).at w1 := ⟨hL.row.at, hL.row.lt.2, hcap.1, hcap.2⟩
    refine ⟨(ha.below hb).chg hcg (by show ¬ g2 = g; omega), hL.ok, by show R.length ≤ 101; omega, ?_, by show w.heap.size ≤ g2; omega⟩
    show ¬ g2 = g'
    omega

/-- The range's two variables, beside the runs and the drawing. -/
structure MX (bv : Value) (n : Nat) (w : World) (vb g cp : Nat) (l : List Rm) (vs zs : List Value) (wr : World) : Prop where
  row : OwnW wr (w.heap.size + 2) g cp l
  ats : ∀ r ∈ l, r.drawn (w.heap.size + 2) g wr
  gv : ¬ g = vb
  rv : ∀ r ∈ l, ¬ r.b = vb
  var : wr.ownsRow (w.heap.size + 2) 25 3 (.slice (some ⟨vb, 0, none⟩) 1 1) 1 vs
  res : wr.ownsRow w.heap.size 25 3 (.slice (some ⟨w.heap.size, 0, none⟩) 1 1) 1 zs
  below : Below w.heap.size w wr
theorem MX.chg {bv : Value} {n : Nat} {w : World} {vb g cp : Nat} {l : List Rm} {vs zs : List Value} {wr w1 : World} (h : MX bv n w vb g cp l vs zs wr) (hd : Drew (w.heap.size + 1) (w.heap.size + 1) bv n wr w1) : MX bv n w vb g cp l vs zs w1 := by
  have hg := h.row.lt
  have hv := World.ownsRow.lt h.var vb rfl
  have hs := h.below.size
  exact ⟨h.row.chg hd.2 (by omega), fun r hr => (h.ats r hr).chg hd.2 (by have := (h.ats r hr).new; omega), h.gv, h.rv, own_chg h.var hd.2 (fun k q => by simp [Value.ownBlock] at q; subst q; omega), own_chg h.res hd.2 (fun k q => by simp [Value.ownBlock] at q; subst q; omega), Chg.below h.below hd.2 hs (fun k q => by omega)⟩
theorem MX.drew {bv : Value} {n : Nat} {w : World} {vb g cp : Nat} {l : List Rm} {vs zs : List Value} {wr : World} (h : MX bv n w vb g cp l vs zs wr) : MX bv n w vb g cp l vs zs wr.drew := by
  have hb : Below wr.heap.size wr wr.drew := (Below.refl _ _).drew
  have hc : Chg (fun _ => False) wr wr.drew := Chg.of_below hb
  exact ⟨h.row.chg hc id, fun r hr => (h.ats r hr).chg hc id, h.gv, h.rv, own_chg h.var hc (fun k _ q => q), own_chg h.res hc (fun k _ q => q), h.below.trans (hb.mono h.below.size)⟩
theorem MX.set {bv : Value} {n : Nat} {w : World} {vb g cp : Nat} {l : List Rm} {vs zs : List Value} {wr : World} (h : MX bv n w vb g cp l vs zs wr) (j : Nat) (u : Value) : MX bv n w vb g cp l (vs.set j u) zs (wr.setCell ⟨vb, j, none⟩ u) := by
  have hg := h.row.lt
  have hv := World.ownsRow.lt h.var vb rfl
  have hs := h.below.size
  have hcg : Chg (fun k => k = vb) wr (wr.setCell ⟨vb, j, none⟩ u) := Chg.of_set _ _ _ _ rfl
  exact ⟨h.row.chg hcg h.gv, fun r hr => (h.ats r hr).chg hcg (h.rv r hr), h.gv, h.rv, (World.ownsRow.stored h.var j u).1, own_chg h.res hcg (fun k q => by simp [Value.ownBlock] at q; subst q; omega), Chg.below h.below hcg hs (fun k q => by omega)⟩
theorem MX.setRes {bv : Value} {n : Nat} {w : World} {vb g cp : Nat} {l : List Rm} {vs zs : List Value} {wr : World} (h : MX bv n w vb g cp l vs zs wr) (j : Nat) (u : Value) : MX bv n w vb g cp l vs (zs.set j u) (wr.setCell ⟨w.heap.size, j, none⟩ u) := by
  have hg := h.row.lt
  have hv := World.ownsRow.lt h.var vb rfl
  have hs := h.below.size
  have hcg : Chg (fun k => k = w.heap.size) wr (wr.setCell ⟨w.heap.size, j, none⟩ u) := Chg.of_set _ _ _ _ rfl
  exact ⟨h.row.chg hcg (by omega), fun r hr => (h.ats r hr).chg hcg (by have := (h.ats r hr).new; omega), h.gv, h.rv, own_chg h.var hcg (fun k q => by simp [Value.ownBlock] at q; subst q; omega), (World.ownsRow.stored h.res j u).1, Chg.below h.below hcg hs (fun k q => by omega)⟩
theorem MX.cell {bv : Value} {n : Nat} {w : World} {vb g cp : Nat} {l : List Rm} {vs zs : List Value} {wr : World} (h : MX bv n w vb g cp l vs zs wr) (j : Nat) (hj : j < 3) : wr.cell? ⟨vb, j, none⟩ = vs[j]? ∧ wr.frozen? ⟨vb, j, none⟩ = false :=
  ⟨World.ownsRow.cellAt h.var j (by omega), World.ownsRow.frozenAt h.var j⟩
theorem MX.cellRes {bv : Value} {n : Nat} {w : World} {vb g cp : Nat} {l : List Rm} {vs zs : List Value} {wr : World} (h : MX bv n w vb g cp l vs zs wr) (j : Nat) (hj : j < 3) : wr.cell? ⟨w.heap.size, j, none⟩ = zs[j]? ∧ wr.frozen? ⟨w.heap.size, j, none⟩ = false :=
  ⟨World.ownsRow.cellAt h.res j (by omega), World.ownsRow.frozenAt h.res j⟩

/-- What a drawing of a merge gives. -/
structure DrawnM (w : World) (g cp : Nat) (l : List Rm) (w' : World) : Prop where
  row : OwnW w' w.heap.size g cp l
  ats : ∀ r ∈ l, r.drawn w.heap.size g w'
  len : l.length ≤ 200
  below : Below w.heap.size w w'

theorem MX.drawn {bv : Value} {n : Nat} {w : World} {vb g cp : Nat} {l : List Rm} {vs zs : List Value} {wr : World} (h : MX bv n w vb g cp l vs zs wr) (hl : l.length ≤ 200) : DrawnM w g cp l wr :=
  ⟨OwnW.mono h.row (by omega), fun r hr => by have := h.ats r hr; exact ⟨this.at_, this.ok, this.len, this.ne, by have := this.new; omega⟩, hl, h.below⟩

set_option maxHeartbeats 8000000 in
theorem drawMerge_core (bv : Value) (n : Nat) (w : World) (h : CodeAt w w.heap.size bv n) :
    Calls Try.prog 6 #[bv] w fun x w' => ∃ (g cp : Nat) (l : List Rm) (lo hi : ByteArray) (hh : Bool), x = .returned (.tuple #[.slice (some ⟨g, 0, none⟩) l.length cp, .agg #[.string lo, .bool hh, .string hi]]) ∧ DrawnM w g cp l w' := by
  obtain ⟨a, cap, rfl⟩ := h.slice
  have hn := h.1
  obtain ⟨Wa, hWa⟩ : ∃ Wa : World, Wa = w.alloc (Obj.cells #[.string ⟨#[]⟩, .bool false, .string ⟨#[]⟩] 25) := ⟨_, rfl⟩
  have hba : Below w.heap.size w Wa := by rw [hWa]; exact (Below.refl _ _).alloc (Nat.le_refl _) _
  have hza : Wa.heap.size = w.heap.size + 1 := by rw [hWa]; simp
  have HC : Hid (CodeAt Wa Wa.heap.size (.slice a n cap) n) := h.up hba
  clear h
  go_enter Try.func6, Try.ntmps6
  go_wp2_with fail
  rw [← hWa]
  refine (new_core _ n Wa HC.out).mono ?_
  rintro e w1 ⟨rfl, hd1, hb1⟩
  have hz1 := hb1.size
  rw [hza] at hd1 hz1
  have HD1 : Hid (DrawAt (w.heap.size + 1) (w.heap.size + 1) (.slice a n cap) n w1) := hd1
  have hcb1 := hd1.lt
  clear hd1
  go_wp2_with fail
  refine (size_core a n cap w1 hn).mono ?_
  rintro e w1' ⟨k, rfl, hk, hw⟩
  rw [hw]
  clear hw w1'
  go_wp2_with fail
  refine (l3Runs_core (w.heap.size + 1) (w.heap.size + 1) (.slice a n cap) n k w1 HD1.out (Nat.le_trans hk (by decide))).mono ?_
  rintro e w2 ⟨g, cp, l, rfl, hl, hsh, hR2⟩
  have HSh : Hid (∀ r ∈ l, r.es.length ≤ 100) := hsh
  clear hsh
  have HR2 : Hid (RInv (w.heap.size + 1) (w.heap.size + 1) (.slice a n cap) n w1 g cp l w2) := hR2
  clear hR2
  go_upto_region 3 with fail
  go_cut [20] (fun s wx => ∃ b : Bool, s = .bool b ∧ (b = true → 0 < l.length) ∧ RInv (w.heap.size + 1) (w.heap.size + 1) (.slice a n cap) n w1 g cp l wx)
  case first =>
    go_wp2_with fail
    refine (once_core _ _ _ n 15 _ HR2.out.d (by omega) (by omega)).mono ?_
    rintro e w3 ⟨v, rfl, hv, hd3⟩
    have H3 : Hid (RInv (w.heap.size + 1) (w.heap.size + 1) (.slice a n cap) n w1 g cp l w3) := HR2.out.call hd3
    clear hd3
    rcases hv with rfl | rfl
    · go_wp2_with fail
      go_meet
      exact ⟨decide (0 < l.length), rfl, by simp, H3.out⟩
    · go_wp2_with fail
      go_meet
      exact ⟨false, rfl, (fun q => by cases q), H3.out⟩
  case rest =>
    obtain ⟨b, rfl, hb0, hR3⟩ := hcut
    have HR3 : Hid (RInv (w.heap.size + 1) (w.heap.size + 1) (.slice a n cap) n w1 g cp l wc) := hR3
    clear hR3
    go_upto_if 20 with fail
    go_cut [] (fun wx => ∃ l' : List Rm, l'.length = l.length ∧ RInv (w.heap.size + 1) (w.heap.size + 1) (.slice a n cap) n w1 g cp l' wx)
    case first =>
      cases b
      · go_wp2_with fail
        go_meet
        exact ⟨l, rfl, HR3.out⟩
      · obtain ⟨r, hr⟩ : ∃ r, l[0]? = some r := ⟨_, List.getElem?_eq_getElem (hb0 rfl)⟩
        have HA : Hid (l[0]? = some r ∧ r.drawn w1.heap.size g wc) := ⟨hr, HR3.out.ats r (List.mem_of_getElem? hr)⟩
        have c0 := HR3.out.row.cell hr
        have hl0 := hb0 rfl
        clear hr
        go_wp2_with fail
        refine (spoilR_core _ _ _ n r wc HR3.out.d HA.out.2.at_ HA.out.2.ok (by have := HSh.out r (List.mem_of_getElem? HA.out.1); omega) (by have := HA.out.2.new; have := HR3.out.lt; omega)).mono ?_
        rintro e w4 ⟨r', rfl, hs4, hd4⟩
        have H4 : Hid (RInv (w.heap.size + 1) (w.heap.size + 1) (.slice a n cap) n w1 g cp (l.set 0 r') (w4.setCell ⟨g, 0, none⟩ r'.u)) := HR3.out.spoil HA.out.1 (HSh.out r (List.mem_of_getElem? HA.out.1)) hs4 hd4
        have H4b := (HR3.out.call hd4).row
        have c4 := H4b.cell HA.out.1
        have f4 : w4.frozen? ⟨g, 0, none⟩ = false := World.ownsRow.frozenAt H4b 0
        clear hs4 hd4 H4b c0
        go_wp2_with fail
        go_meet
        exact ⟨l.set 0 r', by simp, H4.out⟩
    case rest =>
      obtain ⟨l', hll, hR5⟩ := hcut
      have HR5 : Hid (RInv (w.heap.size + 1) (w.heap.size + 1) (.slice a n cap) n w1 g cp l' wc) := hR5
      clear hR5 HR3 HSh
      rw [← hll]
      have hl' : l'.length ≤ 100 := by omega
      clear hll hl hb0
      go_upto_region 5 with fail
      go_cut [29] (fun s wx => ∃ b : Bool, s = .bool b ∧ RInv (w.heap.size + 1) (w.heap.size + 1) (.slice a n cap) n w1 g cp l' wx)
      case first =>
        go_wp2_with fail
        refine (once_core _ _ _ n 40 _ HR5.out.d (by omega) (by omega)).mono ?_
        rintro e w3 ⟨v, rfl, hv, hd3⟩
        have H3 : Hid (RInv (w.heap.size + 1) (w.heap.size + 1) (.slice a n cap) n w1 g cp l' w3) := HR5.out.call hd3
        clear hd3
        go_wp2_with fail
        go_meet
        rcases hv with rfl | rfl
        · exact ⟨true, rfl, H3.out⟩
        · exact ⟨false, rfl, H3.out⟩
      case rest =>
        obtain ⟨b, rfl, hR6⟩ := hcut
        have HR6 : Hid (RInv (w.heap.size + 1) (w.heap.size + 1) (.slice a n cap) n w1 g cp l' wc) := hR6
        clear hR6 HR5
        go_upto_if 29 with fail
        go_cut [5] (fun s wx => ∃ (g cp : Nat) (l : List Rm), s = .slice (some ⟨g, 0, none⟩) l.length cp ∧ l.length ≤ 200 ∧ RInv (w.heap.size + 1) (w.heap.size + 1) (.slice a n cap) n w1 g cp l wx)
        case first =>
          cases b
          · go_wp2_with fail
            go_meet
            exact ⟨g, cp, l', rfl, by omega, HR6.out⟩
          · go_wp2_with fail
            refine (below_core _ _ _ n 2 wc HR6.out.d (by omega) (by omega)).mono ?_
            rintro e w3 ⟨y, rfl, hy0, hy1, hd3⟩
            have H3 : Hid (RInv (w.heap.size + 1) (w.heap.size + 1) (.slice a n cap) n w1 g cp l' w3) := HR6.out.call hd3
            clear hd3
            obtain ⟨m, hm⟩ : ∃ m : Nat, (50 : Int) + y = (m : Int) := ⟨(50 + y).toNat, by omega⟩
            have hm1 : m ≤ 51 := by omega
            go_wp2_with fail
            go_loopw [5] (fun s wr => ∃ (g cp : Nat) (l : List Rm), s = .slice (some ⟨g, 0, none⟩) l.length cp ∧ l.length ≤ 100 ∧ RInv (w.heap.size + 1) (w.heap.size + 1) (.slice a n cap) n w1 g cp l wr) (fun s _ => 100 - lenOf s)
            case atStart => exact ⟨g, cp, l', rfl, hl', H3.out⟩
            case round =>
              obtain ⟨g5, cp5, l5, rfl, hl5, hR⟩ := hrel
              have HR : Hid (RInv (w.heap.size + 1) (w.heap.size + 1) (.slice a n cap) n w1 g5 cp5 l5 wr) := hR
              clear hR
              by_cases hlm : l5.length < m
              · have hz : (l5.length : Int) < (m : Int) := by omega
                have hzb := HR.out.c.size
                have hg5 := HR.out.row.lt
                go_wp2_with fail
                refine (run_core _ _ _ n 2 wr HR.out.d (by omega)).mono ?_
                rintro e w4 ⟨g2, cp2, R, rfl, hRl, hL4⟩
                have HL4 : Hid (LInv (w.heap.size + 1) (w.heap.size + 1) (.slice a n cap) n wr g2 cp2 R w4 ∧ R.length ≤ 100) := ⟨hL4, hRl⟩
                have hz4 := hL4.c.size
                clear hL4
                go_wp2_with (at_builtin; refine wpList_append_runs _ rfl _ _ rfl w1.heap.size g5 cp5 l5.length w4.heap.size 1 1 l5 [⟨g2, 0, cp2, R⟩] rfl rfl rfl rfl ?hO ?hc ?hl ?hb ?_)
                case hO => exact ((HR.out.call ⟨HL4.out.1.d, HL4.out.1.c⟩).below ((Below.refl _ _).alloc (Nat.le_refl _) _)).row
                case hc =>
                  intro i r hr
                  cases i with
                  | zero => simp at hr; subst hr; simp
                  | succ i => simp at hr
                case hl => simp; omega
                case hb => simp; omega
                intro g' cp' w6 hO' hgr hat
                have H6 : Hid (RInv (w.heap.size + 1) (w.heap.size + 1) (.slice a n cap) n w1 g' cp' (l5 ++ [⟨g2, 0, cp2, R⟩]) w6) := HR.out.push HL4.out.1 HL4.out.2 hO' hgr hat
                clear hO' hgr hat
                go_wp2_with fail
                go_roundw
                case rel => exact ⟨g', cp', l5 ++ [⟨g2, 0, cp2, R⟩], by simp, by simp; omega, H6.out⟩
                case measure => go_light; simp [lenOf]; omega
              · have hz : ¬ (l5.length : Int) < (m : Int) := by omega
                go_wp2_with fail
                go_meet
                exact ⟨g5, cp5, l5, rfl, by omega, HR.out⟩
        case rest =>
          obtain ⟨gl, cl, L, rfl, hL, hR7⟩ := hcut
          have HR7 : Hid (RInv (w.heap.size + 1) (w.heap.size + 1) (.slice a n cap) n w1 gl cl L wc) := hR7
          clear hR7 HR6
          have hs7 := HR7.out.c.size
          have hg7 := HR7.out.row.lt
          have hcb7 := HR7.out.lt
          obtain ⟨W8, hW8⟩ : ∃ W8 : World, W8 = wc.alloc (Obj.cells #[.string ⟨#[]⟩, .bool false, .string ⟨#[]⟩] 25) := ⟨_, rfl⟩
          have HD8 : Hid (DrawAt (w.heap.size + 1) (w.heap.size + 1) (.slice a n cap) n W8) := HR7.out.d.below (by rw [hW8]; exact (Below.refl _ _).alloc (Nat.le_refl _) _)
          have H8 : Hid (MX (.slice a n cap) n w wc.heap.size gl cl L (rgv ⟨#[]⟩ false ⟨#[]⟩) (rgv ⟨#[]⟩ false ⟨#[]⟩) W8) := by
            have hb8 : Below wc.heap.size wc W8 := by rw [hW8]; exact (Below.refl _ _).alloc (Nat.le_refl _) _
            have hr8 := HR7.out.below hb8
            have kb : Below w.heap.size w wc := Chg.below (hba.trans (hb1.mono (by omega))) HR7.out.c (by omega) (fun k q => by omega)
            refine ⟨OwnW.mono hr8.row (by omega), fun r hr => ?_, by omega, fun r hr => ?_, ?_, ?_, kb.trans (hb8.mono (by omega))⟩
            · have h0 := hr8.ats r hr
              exact ⟨h0.at_, h0.ok, h0.len, h0.ne, by have := h0.new; omega⟩
            · have := (HR7.out.ats r hr).at_.lt
              omega
            · rw [hW8]
              exact World.ownsRow_lit wc #[.string ⟨#[]⟩, .bool false, .string ⟨#[]⟩] 1 (by omega) (by decide) rfl
            · have h0 : Wa.ownsRow w.heap.size 25 3 (.slice (some ⟨w.heap.size, 0, none⟩) 1 1) 1 (rgv ⟨#[]⟩ false ⟨#[]⟩) := by
                rw [hWa]
                exact World.ownsRow_lit w #[.string ⟨#[]⟩, .bool false, .string ⟨#[]⟩] 1 (Nat.le_refl _) (by decide) rfl
              have h1 := own_chg h0 (Chg.of_below (S := fun _ => False) hb1) (fun k _ q => q)
              have h2 := own_chg h1 HR7.out.c (fun k q => by simp [Value.ownBlock] at q; subst q; omega)
              exact own_chg h2 (Chg.of_below (S := fun _ => False) hb8) (fun k _ q => q)
          have hv8 : w.heap.size + 2 ≤ wc.heap.size := by omega
          go_wp2_with fail
          rw [← hW8]
          clear hW8
          generalize wc.heap.size = vb at *
          refine (once_core _ _ _ n 2 W8 HD8.out (by omega) (by omega)).mono ?_
          rintro e w9 ⟨v, rfl, hv, hd9⟩
          have H9 : Hid (MX (.slice a n cap) n w vb gl cl L (rgv ⟨#[]⟩ false ⟨#[]⟩) (rgv ⟨#[]⟩ false ⟨#[]⟩) w9) := H8.out.chg hd9
          have HD9 : Hid (DrawAt (w.heap.size + 1) (w.heap.size + 1) (.slice a n cap) n w9) := hd9.1
          clear hd9 H8 HD8
          rcases hv with rfl | rfl
          · go_wp2_with fail
            refine (range_core _ _ _ n w9 HD9.out).mono ?_
            rintro e wA ⟨lo, hv, hi, rfl, hh, _, _, hdA⟩
            have HA : Hid (MX (.slice a n cap) n w vb gl cl L (rgv ⟨#[]⟩ false ⟨#[]⟩) (rgv ⟨#[]⟩ false ⟨#[]⟩) wA) := H9.out.chg hdA
            obtain ⟨b, rfl⟩ : ∃ b : Bool, hv = .bool b := by
              rcases hh with h | h
              · exact ⟨true, h⟩
              · exact ⟨false, h⟩
            clear hdA hh H9
            obtain ⟨c0, f0⟩ := HA.out.cell 0 (by decide)
            obtain ⟨c1, f1⟩ := HA.out.cell 1 (by decide)
            obtain ⟨c2, f2⟩ := HA.out.cell 2 (by decide)
            simp only [List.getElem?_cons_zero, List.getElem?_cons_succ] at c0 c1 c2
            obtain ⟨WB, hWB⟩ : ∃ WB : World, WB = ((wA.setCell ⟨vb, 0, none⟩ (.string lo)).setCell ⟨vb, 1, none⟩ (.bool b)).setCell ⟨vb, 2, none⟩ (.string hi) := ⟨_, rfl⟩
            have hB := ((HA.out.set 0 (.string lo)).set 1 (.bool b)).set 2 (.string hi)
            rw [← hWB] at hB
            have HB : Hid (MX (.slice a n cap) n w vb gl cl L (rgv lo b hi) (rgv ⟨#[]⟩ false ⟨#[]⟩) WB) := hB
            clear hB HA
            go_upto_region 12 with fail
            rw [← hWB]
            clear hWB c0 c1 c2 f0 f1 f2
            obtain ⟨k0, _⟩ := HB.out.cell 0 (by decide)
            obtain ⟨k1, _⟩ := HB.out.cell 1 (by decide)
            obtain ⟨k2, _⟩ := HB.out.cell 2 (by decide)
            obtain ⟨l0, lf0⟩ := HB.out.cellRes 0 (by decide)
            obtain ⟨l1, lf1⟩ := HB.out.cellRes 1 (by decide)
            obtain ⟨l2, lf2⟩ := HB.out.cellRes 2 (by decide)
            simp only [List.getElem?_cons_zero, List.getElem?_cons_succ] at k0 k1 k2 l0 l1 l2
            obtain ⟨WZ, hWZ⟩ : ∃ WZ : World, WZ = (((WB.setCell ⟨w.heap.size, 0, none⟩ (.string lo)).setCell ⟨w.heap.size, 1, none⟩ (.bool b)).setCell ⟨w.heap.size, 2, none⟩ (.string hi)).drew := ⟨_, rfl⟩
            have HZ := (((HB.out.setRes 0 (.string lo)).setRes 1 (.bool b)).setRes 2 (.string hi)).drew
            rw [← hWZ] at HZ
            have p0 := (HZ.cellRes 0 (by decide)).1
            have p1 := (HZ.cellRes 1 (by decide)).1
            have p2 := (HZ.cellRes 2 (by decide)).1
            simp only [rgv, List.set_cons_zero, List.set_cons_succ, List.getElem?_cons_zero, List.getElem?_cons_succ] at p0 p1 p2
            have HE : Hid (DrawnM w gl cl L WZ) := HZ.drawn hL
            clear HZ
            go_wp2_with fail
            go_region
            go_wp2_with fail
            rw [← hWZ]
            exact bodyPost_ret (v := .tuple #[.slice (some ⟨gl, 0, none⟩) L.length cl, .agg #[.string lo, .bool b, .string hi]]) (by simp [results, Try.results6, go_sem, p0, p1, p2]) rfl ⟨gl, cl, L, lo, hi, b, rfl, HE.out⟩
          · obtain ⟨k0, _⟩ := H9.out.cell 0 (by decide)
            obtain ⟨k1, _⟩ := H9.out.cell 1 (by decide)
            obtain ⟨k2, _⟩ := H9.out.cell 2 (by decide)
            obtain ⟨l0, lf0⟩ := H9.out.cellRes 0 (by decide)
            obtain ⟨l1, lf1⟩ := H9.out.cellRes 1 (by decide)
            obtain ⟨l2, lf2⟩ := H9.out.cellRes 2 (by decide)
            simp only [List.getElem?_cons_zero, List.getElem?_cons_succ] at k0 k1 k2 l0 l1 l2
            obtain ⟨WZ, hWZ⟩ : ∃ WZ : World, WZ = (((w9.setCell ⟨w.heap.size, 0, none⟩ (.string ⟨#[]⟩)).setCell ⟨w.heap.size, 1, none⟩ (.bool false)).setCell ⟨w.heap.size, 2, none⟩ (.string ⟨#[]⟩)).drew := ⟨_, rfl⟩
            have HZ := (((H9.out.setRes 0 (.string ⟨#[]⟩)).setRes 1 (.bool false)).setRes 2 (.string ⟨#[]⟩)).drew
            rw [← hWZ] at HZ
            have p0 := (HZ.cellRes 0 (by decide)).1
            have p1 := (HZ.cellRes 1 (by decide)).1
            have p2 := (HZ.cellRes 2 (by decide)).1
            simp only [rgv, List.set_cons_zero, List.set_cons_succ, List.getElem?_cons_zero, List.getElem?_cons_succ] at p0 p1 p2
            have HE : Hid (DrawnM w gl cl L WZ) := HZ.drawn hL
            clear HZ
            go_wp2_with fail
            go_region
            go_wp2_with fail
            rw [← hWZ]
            exact bodyPost_ret (v := .tuple #[.slice (some ⟨gl, 0, none⟩) L.length cl, .agg #[.string ⟨#[]⟩, .bool false, .string ⟨#[]⟩]]) (by simp [results, Try.results6, go_sem, p0, p1, p2]) rfl ⟨gl, cl, L, ⟨#[]⟩, ⟨#[]⟩, false, rfl, HE.out⟩
end Go.Proofs.Ytjphalbjimggcae

/-
  The drawing's bytes, as they came in; runs of a drawing as runs in memory.
-/
namespace Go.Proofs.Ytjphalbjimggcae
open Go.ChangeShapes Go.WideShapes Go.ChangeAt Go.RowKit Go.Deep
set_option linter.unusedVariables false
set_option linter.unusedSimpArgs false
set_option maxRecDepth 100000

def BytesIn (w : World) (v : Value) (n : Nat) : Prop :=
  n ≤ maxLen ∧ ((∃ a cap, v = .slice a 0 cap ∧ n = 0) ∨ ∃ b off cap, v = .slice (some ⟨b, off, none⟩) n cap ∧ b < w.heap.size ∧ ∀ k, k < n → ∃ x : Int, w.cell? ⟨b, off + k, none⟩ = some (.int .u8 x) ∧ 0 ≤ x ∧ x < 256)
theorem BytesIn.slice {w : World} {v : Value} {n : Nat} (h : BytesIn w v n) : ∃ a cap, v = .slice a n cap := by
  rcases h.2 with ⟨a, cap, rfl, rfl⟩ | ⟨b, off, cap, rfl, _⟩
  · exact ⟨_, _, rfl⟩
  · exact ⟨_, _, rfl⟩
theorem BytesIn.code {w : World} {v : Value} {n : Nat} (h : BytesIn w v n) (hn : n ≤ 1048576) : CodeAt w w.heap.size v n := ⟨hn, h.2⟩
theorem bytes_of_trod {H : Type} {enc : TypeId × Value → H} {w : World} {fuel : Nat} {v : Value} {x : DataW H × List MemPlace}
    (h : DataW.trod enc Try.prog w 0 (fun _ => true) true fuel 22 [v] = some x) (hlt : ∀ p ∈ x.2, p.block < w.heap.size) : ∃ n, BytesIn w v n := by
  have hc : Try.prog.cellsOf 5 = 1 := by kernel_rfl
  rcases open_ints Try.underlying22 Try.underlying5 hc h with ⟨hcs, hx⟩ | ⟨a, len, cap, zs, hcs, _, hl, hm, hz, hx, hcell, hwz⟩
  · simp only [List.cons.injEq, and_true] at hcs
    exact ⟨0, Nat.zero_le _, .inl ⟨none, 0, hcs, rfl⟩⟩
  · simp only [List.cons.injEq, and_true] at hcs
    simp only [if_true] at hz
    refine ⟨len, Nat.le_trans hl hm, ?_⟩
    by_cases h0 : len = 0
    · subst h0; exact .inl ⟨some a, cap, hcs, rfl⟩
    · obtain ⟨ab, ao, spot⟩ := a
      have hspot : spot = none := by simpa [Addr.add] using World.cell?_spot (hcell 0 (by omega))
      subst hspot
      refine .inr ⟨ab, ao, cap, hcs, ?_, fun k hk => ?_⟩
      · rw [hx] at hlt
        exact hlt (.cell ab (ao + 0)) (by simp only [MemPlace.row, List.mem_map, List.mem_range]; exact ⟨0, by omega, rfl⟩)
      · have h1 := hcell k (by omega)
        rw [Addr.add_lit] at h1
        have hb := range_u8 hwz k
        rw [List.getD_eq_getElem?_getD] at h1
        exact ⟨_, h1, hb.1, by omega⟩
theorem DrawnM.at {w : World} {g cp : Nat} {l : List Rm} {w' : World} (h : DrawnM w g cp l w') : RmsAt w' g 0 l := by
  intro i r hr
  rw [Nat.zero_add]
  exact ⟨h.row.cell hr, (h.ats r (List.mem_of_getElem? hr)).at_⟩
theorem DrawnM.ok {w : World} {g cp : Nat} {l : List Rm} {w' : World} (h : DrawnM w g cp l w') : okM l := fun r hr e he => ((h.ats r hr).ok e he).ok
theorem DrawnM.short {w : World} {g cp : Nat} {l : List Rm} {w' : World} (h : DrawnM w g cp l w') : ∀ es ∈ esM l, es.length ≤ 101 := by
  intro es he
  obtain ⟨r, hr, rfl⟩ := List.mem_map.1 he
  exact (h.ats r hr).len
end Go.Proofs.Ytjphalbjimggcae

