/-
  The draws: a run spoilt.
-/
import Derived.Test.YtjphalbjimggcaeQDraw7
import Derived.Test.YtjphalbjimggcaePkAG
import Derived.Maps.AppendAt
namespace Go.Proofs.Ytjphalbjimggcae
open Go.ChangeShapes Go.WideShapes Go.ChangeAt Go.RowKit Go.Deep
set_option linter.unusedVariables false
set_option linter.unusedSimpArgs false
set_option maxRecDepth 100000

theorem cells_of_ents {w : World} {b off : Nat} {es : List Ent} (h : EntsAt w b off es) : ∀ j u, (cellsE es)[j]? = some u → w.cell? ((⟨b, off, none⟩ : Addr).add j) = some u := by
  intro j u hu
  have hj : j < es.length * 6 := by rw [← length_cellsE]; exact (List.getElem?_eq_some_iff.1 hu).1
  obtain ⟨e, he⟩ : ∃ e, es[j / 6]? = some e := ⟨_, List.getElem?_eq_getElem (by omega)⟩
  have hg := cellsE_get es (j / 6) e he (j % 6) (Nat.mod_lt _ (by omega))
  rw [show j / 6 * 6 + j % 6 = j by omega, hu] at hg
  obtain ⟨c0, c1, c2, c3, c4, c5⟩ := h (j / 6) e he
  rw [Addr.add_mid, show off + j = off + j / 6 * 6 + j % 6 by omega]
  have hm : j % 6 < 6 := Nat.mod_lt _ (by omega)
  generalize j % 6 = m at *
  match m, hm, hg with
  | 0, _, hg => rw [Nat.add_zero, c0, hg]; rfl
  | 1, _, hg => rw [c1, hg]; rfl
  | 2, _, hg => rw [c2, hg]; rfl
  | 3, _, hg => rw [c3, hg]; rfl
  | 4, _, hg => rw [c4, hg]; rfl
  | 5, _, hg => rw [c5, hg]; rfl
theorem one_cells (es : List Ent) : ∀ u ∈ cellsE es, u.oneCell' = true := by
  intro u hu
  unfold cellsE at hu
  obtain ⟨e, _, he⟩ := List.mem_flatMap.1 hu
  simp at he
  rcases he with rfl | rfl | rfl | rfl | rfl | rfl <;> rfl
/-- Entries appended to a row of the call's own. -/
theorem wpList_append_ents {ops : Array Oper} {rest : List Oper} {o : Oper} {a : Act} {Q : Exit → Act → World → Prop} (w : World) (hgd : o.guard = none) (s x : Operand)
    (ho : o.op = .call { callee := .builtin .append, args := #[s, x], argTypes := #[28, 28] })
    (base g cp n b off m cx : Nat) (fs es : List Ent) (hs : a.eval s = .slice (some ⟨g, 0, none⟩) n cp) (hx : a.eval x = .slice (some ⟨b, off, none⟩) m cx) (hn : n = fs.length) (hm : m = es.length) (hO : OwnE w base g cp fs)
    (hc : EntsAt w b off es) (hlen : fs.length + es.length ≤ 2 ^ 30) (hbase : base ≤ w.heap.size)
    (h : ∀ g' cp' w', OwnE w' base g' cp' (fs ++ es) → w.grownBy w' (some g) → wpList Try.prog ops Q rest (a.put o.dst (.slice (some ⟨g', 0, none⟩) (n + m) cp')) w') : wpList Try.prog ops Q (o :: rest) a w := by
  subst hn hm
  obtain ⟨i, hi, hz0, hz1, hz2⟩ := info_parts Try.infoEnt
  refine wpList_append_own_at w hgd s x 28 ho base 73 i _ 6 80 Try.underlying28 hi hz0 hz1 hz2 rfl (by decide) (.slice (some ⟨g, 0, none⟩) fs.length cp) fs.length (cellsE fs) hs hO ⟨b, off, none⟩ es.length cx (cellsE es) hx (length_cellsE es) (cells_of_ents hc) (one_cells es) ?_ ?_ hbase ?_
  · unfold maxLen; omega
  · omega
  · intro v' w' hO' hgr hnil _
    rcases hO'.2 with ⟨h0, _⟩ | ⟨g', cap', cur, hv, _, _, hn, hcap, _, _⟩
    · have := (hnil.1 h0).1
      cases this
    · subst hv
      refine h g' cap' w' ?_ hgr
      unfold OwnE
      rw [List.length_append, cellsE_append]
      exact hO'

/-- What a spoilt run may be. -/
structure SpoilOf (w : World) (b : Nat) (es : List Ent) (r : Rm) (w' : World) : Prop where
  at_ : r.at w'
  ok : ∀ e ∈ r.es, e.small
  len : r.es.length ≤ es.length + 1
  blk : r.b = b ∨ w.heap.size ≤ r.b
theorem mem_set_small {fs : List Ent} {i : Nat} {e' : Ent} (h : ∀ e ∈ fs, e.small) (he : e'.small) : ∀ e ∈ fs.set i e', e.small := by
  intro e hm
  rcases List.mem_or_eq_of_mem_set hm with q | rfl
  · exact h e q
  · exact he
theorem LInv.turn {base cb : Nat} {bv : Value} {n : Nat} {w : World} {g cp : Nat} {es fs : List Ent} {wr w' : World} (h : LInv base cb bv n w g cp es wr) (hc : Chg (fun k => k = g) wr w') (hO : OwnE w' w.heap.size g cp fs) (hok : ∀ e ∈ fs, e.small) : LInv base cb bv n w g cp fs w' := by
  have hl := h.row.lt
  have hcb := h.lt
  have hbb := h.hb
  refine ⟨hO, hok, h.d.chg hc (by omega) (fun k q => by omega), ?_, h.lt, h.hb⟩
  exact ⟨hc.os.trans h.c.os, hc.tape.trans h.c.tape, hc.output.trans h.c.output, Nat.le_trans h.c.size hc.size, fun k hk hn => (hc.block k (Nat.lt_of_lt_of_le hk h.c.size) (by omega)).trans (h.c.block k hk hn)⟩
theorem LInv.put {base cb : Nat} {bv : Value} {n : Nat} {w : World} {g cp : Nat} {es : List Ent} {wr : World} (h : LInv base cb bv n w g cp es wr) (i : Nat) (x e : Ent) (hx : es[i]? = some x) (he : e.small) :
    LInv base cb bv n w g cp (es.set i e) ((((((wr.setCell ⟨g, i * 6, none⟩ (.string e.row)).setCell ⟨g, i * 6 + 1, none⟩ (.string e.fam)).setCell ⟨g, i * 6 + 2, none⟩ (.string e.qual)).setCell ⟨g, i * 6 + 3, none⟩ (.int .u64 e.ts)).setCell ⟨g, i * 6 + 4, none⟩ (.int .i64 e.kind)).setCell ⟨g, i * 6 + 5, none⟩ (.string e.val)) := by
  refine h.turn ?_ (h.row.put i x e hx) (mem_set_small h.ok he)
  exact (((((Chg.of_set (S := fun k => k = g) _ _ _ _ rfl).trans (Chg.of_set (S := fun k => k = g) _ _ _ _ rfl)).trans (Chg.of_set (S := fun k => k = g) _ _ _ _ rfl)).trans (Chg.of_set (S := fun k => k = g) _ _ _ _ rfl)).trans (Chg.of_set (S := fun k => k = g) _ _ _ _ rfl)).trans (Chg.of_set (S := fun k => k = g) _ _ _ _ rfl)
theorem LInv.at6 {base cb : Nat} {bv : Value} {n : Nat} {w : World} {g cp : Nat} {es : List Ent} {wr : World} (h : LInv base cb bv n w g cp es wr) (i : Nat) (x : Ent) (hx : es[i]? = some x) :
    (wr.cell? ⟨g, i * 6, none⟩ = some (.string x.row) ∧ wr.cell? ⟨g, i * 6 + 1, none⟩ = some (.string x.fam) ∧ wr.cell? ⟨g, i * 6 + 2, none⟩ = some (.string x.qual) ∧ wr.cell? ⟨g, i * 6 + 3, none⟩ = some (.int .u64 x.ts) ∧ wr.cell? ⟨g, i * 6 + 4, none⟩ = some (.int .i64 x.kind) ∧ wr.cell? ⟨g, i * 6 + 5, none⟩ = some (.string x.val)) ∧ ∀ j, wr.frozen? ⟨g, j, none⟩ = false := by
  have := h.row.at i x hx
  simp only [Nat.zero_add] at this
  exact ⟨this, fun j => World.ownsRow.frozenAt h.row j⟩

theorem YInv.put {base cb : Nat} {bv : Value} {n : Nat} {w : World} {g cp : Nat} {es : List Ent} {vb : Nat} {f : Ent} {wr : World} (h : YInv base cb bv n w g cp es vb f wr) (i : Nat) (x e : Ent) (hx : es[i]? = some x) (he : e.small) :
    YInv base cb bv n w g cp (es.set i e) vb f ((((((wr.setCell ⟨g, i * 6, none⟩ (.string e.row)).setCell ⟨g, i * 6 + 1, none⟩ (.string e.fam)).setCell ⟨g, i * 6 + 2, none⟩ (.string e.qual)).setCell ⟨g, i * 6 + 3, none⟩ (.int .u64 e.ts)).setCell ⟨g, i * 6 + 4, none⟩ (.int .i64 e.kind)).setCell ⟨g, i * 6 + 5, none⟩ (.string e.val)) := by
  refine { h.toLInv.put i x e hx he with
    var := own_chg h.var (S := fun k => k = g) ?_ (fun k q => by simp [Value.ownBlock] at q; subst q; exact fun q => h.ne q.symm)
    ne := h.ne }
  exact (((((Chg.of_set (S := fun k => k = g) _ _ _ _ rfl).trans (Chg.of_set (S := fun k => k = g) _ _ _ _ rfl)).trans (Chg.of_set (S := fun k => k = g) _ _ _ _ rfl)).trans (Chg.of_set (S := fun k => k = g) _ _ _ _ rfl)).trans (Chg.of_set (S := fun k => k = g) _ _ _ _ rfl)).trans (Chg.of_set (S := fun k => k = g) _ _ _ _ rfl)
theorem LInv.push {base cb : Nat} {bv : Value} {n : Nat} {w : World} {g cp : Nat} {es : List Ent} {f : Ent} {wr w' : World} {o : Obj} (h : LInv base cb bv n w g cp es wr) (hf : f.small) {g' cp' : Nat} (hO : OwnE w' w.heap.size g' cp' (es ++ [f])) (hgr : (wr.alloc o).grownBy w' (some g)) : LInv base cb bv n w g' cp' (es ++ [f]) w' := by
  have hb : Below wr.heap.size wr (wr.alloc o) := (Below.refl _ _).alloc (Nat.le_refl _) _
  have hl := h.row.lt
  have hcb := h.lt
  have hbb := h.hb
  refine ⟨hO, fun e he => ?_, ?_, ?_, h.lt, h.hb⟩
  · rcases List.mem_append.1 he with q | q
    · exact h.ok e q
    · simp at q; subst q; exact hf
  · exact (h.d.below hb).chg (Chg.of_grown (S := fun k => k = g) hgr (fun k hk => by cases hk; rfl)) (by omega) (fun k q => by omega)
  · exact Chg.grown_new (h.c.trans (Chg.of_below hb)) hgr (fun k hk => by cases hk; exact hl.1)
theorem LInv.set {base cb : Nat} {bv : Value} {n : Nat} {w : World} {g cp : Nat} {es : List Ent} {wr : World} (h : LInv base cb bv n w g cp es wr) (k j : Nat) (e e' : Ent) (u : Value) (hk : es[k]? = some e) (hj : j < 6) (hc : e'.cells = e.cells.set j u) (hs : e'.small) : LInv base cb bv n w g cp (es.set k e') (wr.setCell ⟨g, k * 6 + j, none⟩ u) :=
  h.turn (Chg.of_set (S := fun k => k = g) _ _ _ _ rfl) (h.row.set k j e e' u hk hj hc) (mem_set_small h.ok hs)

set_option maxHeartbeats 8000000 in
theorem spoilR_core (base cb : Nat) (bv : Value) (n : Nat) (r : Rm) (w : World) (h : DrawAt base cb bv n w) (hr : r.at w) (hok : ∀ e ∈ r.es, e.small) (hl : r.es.length ≤ 200) (hrb : ¬ r.b = cb) :
    Calls Try.prog 28 #[.pointer (some ⟨cb, 0, none⟩), .agg #[.slice (some ⟨r.b, r.off, none⟩) r.es.length r.cap]] w fun x w' => ∃ r' : Rm, x = .returned (.agg #[.slice (some ⟨r'.b, r'.off, none⟩) r'.es.length r'.cap]) ∧ SpoilOf w r.b r.es r' w' ∧ Drew base cb bv n w w' := by
  have hlt := h.lt
  have hbase := h.base
  obtain ⟨Wa, hWa⟩ : ∃ Wa : World, Wa = w.alloc (Obj.cells #[.slice (some ⟨r.b, r.off, none⟩) r.es.length r.cap] 30) := ⟨_, rfl⟩
  have hba : Below w.heap.size w Wa := by rw [hWa]; exact (Below.refl _ _).alloc (Nat.le_refl _) _
  have hza : Wa.heap.size = w.heap.size + 1 := by rw [hWa]; simp
  obtain ⟨Wb, hWb⟩ : ∃ Wb : World, Wb = Wa.alloc (Obj.cells #[.slice none 0 0] 30) := ⟨_, rfl⟩
  have hbb : Below Wa.heap.size Wa Wb := by rw [hWb]; exact (Below.refl _ _).alloc (Nat.le_refl _) _
  have hzb : Wb.heap.size = w.heap.size + 1 + 1 := by rw [hWb]; simp [hza]
  have kb : Below w.heap.size w Wb := hba.trans (hbb.mono (by omega))
  have HV : Hid (Wb.cell? ⟨w.heap.size, 0, none⟩ = some (.slice (some ⟨r.b, r.off, none⟩) r.es.length r.cap) ∧ Wb.cell? ⟨w.heap.size + 1, 0, none⟩ = some (.slice none 0 0) ∧ Wb.frozen? ⟨w.heap.size + 1, 0, none⟩ = false) := by
    refine ⟨?_, ?_, ?_⟩
    · rw [hbb.cell (p := ⟨w.heap.size, 0, none⟩) (by show w.heap.size < Wa.heap.size; omega), hWa]; simp
    · rw [hWb, ← hza]; simp
    · rw [hWb, ← hza]
      exact World.ownsRow.frozenAt (World.ownsRow_lit (base := 0) (e := 30) (size := 1) Wa #[.slice none 0 0] 1 (Nat.zero_le _) (by decide) rfl) 0
  obtain ⟨Wc, hWc⟩ : ∃ Wc : World, Wc = Wb.alloc (Obj.cells #[] 73) := ⟨_, rfl⟩
  have hbc : Below Wb.heap.size Wb Wc := by rw [hWc]; exact (Below.refl _ _).alloc (Nat.le_refl _) _
  have HL : Hid (LInv base cb bv n Wb (w.heap.size + 1 + 1) 0 [] Wc) := by
    refine ⟨?_, fun e he => by simp at he, (h.below kb).below hbc, Chg.of_below hbc, by omega, by omega⟩
    rw [hWc, ← hzb]
    exact World.ownsRow_made Wb #[] 0 (Nat.le_refl _) (Nat.zero_le _) (by simp)
  have HR : Hid (r.at Wc ∧ (∀ e ∈ r.es, e.small)) := ⟨(hr.below kb).below hbc, hok⟩
  have hrl := hr.lt
  have cv : Wc.cell? ⟨w.heap.size, 0, none⟩ = some (.slice (some ⟨r.b, r.off, none⟩) r.es.length r.cap) := by rw [hbc.cell (p := ⟨w.heap.size, 0, none⟩) (by show w.heap.size < Wb.heap.size; omega)]; exact HV.out.1
  clear h hok
  have HZ : Hid (Wb.heap.size = w.heap.size + 1 + 1) := hzb
  have fin : ∀ (g cp : Nat) (es : List Ent) (wr : World), LInv base cb bv n Wb g cp es wr → es.length ≤ r.es.length + 1 → ∃ r' : Rm, Ending.returned (Value.agg #[.slice (some ⟨g, 0, none⟩) es.length cp]) = .returned (.agg #[.slice (some ⟨r'.b, r'.off, none⟩) r'.es.length r'.cap]) ∧ SpoilOf w r.b r.es r' (wr.setCell ⟨w.heap.size + 1, 0, none⟩ (.slice (some ⟨g, 0, none⟩) es.length cp)) ∧ Drew base cb bv n w (wr.setCell ⟨w.heap.size + 1, 0, none⟩ (.slice (some ⟨g, 0, none⟩) es.length cp)) := by
    intro g cp es wr hL hn
    have hg := hL.row.lt
    have hcg : Chg (fun k => k = w.heap.size + 1) wr (wr.setCell ⟨w.heap.size + 1, 0, none⟩ (.slice (some ⟨g, 0, none⟩) es.length cp)) := Chg.of_set _ _ _ _ rfl
    have hO : OwnE (wr.setCell ⟨w.heap.size + 1, 0, none⟩ (.slice (some ⟨g, 0, none⟩) es.length cp)) Wb.heap.size g cp es := own_chg hL.row hcg (fun k q => by simp [Value.ownBlock] at q; subst q; omega)
    have hcap : es.length ≤ cp ∧ cp ≤ maxLen := by
      rcases hO.2 with ⟨h0, _⟩ | ⟨g', cap', cur, hv, _, _, hn, hcap, _, _⟩
      · cases h0
      · simp only [Value.slice.injEq, Option.some.injEq, Addr.mk.injEq, and_true, true_and] at hv
        obtain ⟨rfl, rfl⟩ := hv
        exact ⟨hn, hcap⟩
    refine ⟨⟨g, 0, cp, es⟩, rfl, ⟨⟨hO.at, hO.lt.2, hcap.1, hcap.2⟩, hL.ok, hn, .inr (by show w.heap.size ≤ g; omega)⟩, hL.d.chg hcg (by omega) (fun k q => by omega), ?_⟩
    exact Chg.grown_new ((Chg.of_below kb).trans hL.c) (grown_set wr (w.heap.size + 1) 0 _) (fun k hk => by cases hk; omega)
  have HFin : Hid (∀ (g cp : Nat) (es : List Ent) (wr : World), LInv base cb bv n Wb g cp es wr → es.length ≤ r.es.length + 1 → ∃ r' : Rm, Ending.returned (Value.agg #[.slice (some ⟨g, 0, none⟩) es.length cp]) = .returned (.agg #[.slice (some ⟨r'.b, r'.off, none⟩) r'.es.length r'.cap]) ∧ SpoilOf w r.b r.es r' (wr.setCell ⟨w.heap.size + 1, 0, none⟩ (.slice (some ⟨g, 0, none⟩) es.length cp)) ∧ Drew base cb bv n w (wr.setCell ⟨w.heap.size + 1, 0, none⟩ (.slice (some ⟨g, 0, none⟩) es.length cp))) := fin
  have hrs : ∀ wr, Chg (fun k => k = cb) Wb wr → wr.cell? ⟨w.heap.size + 1, 0, none⟩ = some (.slice none 0 0) ∧ wr.frozen? ⟨w.heap.size + 1, 0, none⟩ = false := fun wr hc => by
    rw [hc.cell (p := ⟨w.heap.size + 1, 0, none⟩) (by show w.heap.size + 1 < Wb.heap.size; omega) (by show ¬ w.heap.size + 1 = cb; omega), hc.frozen (p := ⟨w.heap.size + 1, 0, none⟩) (by show w.heap.size + 1 < Wb.heap.size; omega) (by show ¬ w.heap.size + 1 = cb; omega)]
    exact HV.out.2
  have HRs : Hid (∀ wr, Chg (fun k => k = cb) Wb wr → wr.cell? ⟨w.heap.size + 1, 0, none⟩ = some (.slice none 0 0) ∧ wr.frozen? ⟨w.heap.size + 1, 0, none⟩ = false) := hrs
  clear fin hrs
  go_enter Try.func28, Try.ntmps28
  have HWs : Hid (Wa = w.alloc (Obj.cells #[.slice (some ⟨r.b, r.off, none⟩) r.es.length r.cap] 30) ∧ Wb = Wa.alloc (Obj.cells #[.slice none 0 0] 30) ∧ Wc = Wb.alloc (Obj.cells #[] 73)) := ⟨hWa, hWb, hWc⟩
  clear hWa hWb hWc hza hzb
  go_wp2_with (at_builtin; refine wpList_append_ents _ rfl _ _ rfl Wb.heap.size (w.heap.size + 1 + 1) 0 0 r.b r.off r.es.length r.cap [] r.es rfl rfl rfl rfl ?hO ?hc ?hl ?hb ?_)
  case hO => rw [← HWs.out.1, ← HWs.out.2.1, ← HWs.out.2.2]; exact HL.out.row
  case hc => rw [← HWs.out.1, ← HWs.out.2.1, ← HWs.out.2.2]; exact HR.out.1.ents
  case hl => simp; omega
  case hb => rw [← HWs.out.1, ← HWs.out.2.1, ← HWs.out.2.2]; exact hbc.size
  rw [← HWs.out.1, ← HWs.out.2.1, ← HWs.out.2.2]
  clear HWs
  intro g cp w1 hO1 hgr1
  have H1 : Hid (LInv base cb bv n Wb g cp r.es w1) := by
    have hs := hbc.size
    have hz := HZ.out
    refine ⟨hO1, HR.out.2, HL.out.d.chg (Chg.of_grown (S := fun k => k = w.heap.size + 1 + 1) hgr1 (fun k hk => by cases hk; rfl)) (by omega) (fun k q => by omega), Chg.grown_new HL.out.c hgr1 (fun k hk => by cases hk; omega), HL.out.lt, HL.out.hb⟩
  clear hO1 hgr1 HL
  by_cases h0 : r.es.length = 0
  · have zl : (r.es.length : Int) = 0 := by omega
    have hc1 := H1.out.c
    have HS : Hid (w1.cell? ⟨w.heap.size + 1, 0, none⟩ = some (.slice none 0 0) ∧ w1.frozen? ⟨w.heap.size + 1, 0, none⟩ = false ∧ w1.cell? ⟨w.heap.size, 0, none⟩ = some (.slice (some ⟨r.b, r.off, none⟩) r.es.length r.cap)) := by
      have hz := HZ.out
      refine ⟨(HRs.out w1 hc1).1, (HRs.out w1 hc1).2, ?_⟩
      rw [hc1.cell (p := ⟨w.heap.size, 0, none⟩) (by show w.heap.size < Wb.heap.size; omega) (by show ¬ w.heap.size = cb; omega)]; exact HV.out.1
    obtain ⟨s1, s2, s3⟩ := HS.out
    obtain ⟨W9, hW9⟩ : ∃ W9 : World, W9 = w1.setCell ⟨w.heap.size + 1, 0, none⟩ (.slice (some ⟨r.b, r.off, none⟩) r.es.length r.cap) := ⟨_, rfl⟩
    have HE : Hid (SpoilOf w r.b r.es r W9 ∧ Drew base cb bv n w W9) := by
      have hcg : Chg (fun k => k = w.heap.size + 1) w1 W9 := by rw [hW9]; exact Chg.of_set _ _ _ _ rfl
      refine ⟨⟨⟨?_, ?_, hr.len, hr.cap⟩, HR.out.2, by omega, .inl rfl⟩, H1.out.d.chg hcg (by omega) (fun k q => by omega), ?_⟩
      · refine EntsAt.chg (EntsAt.chg ((hr.below kb).ents) hc1 ?_ ?_) hcg ?_ ?_
        · have := kb.size; omega
        · exact hrb
        · have := kb.size; have := hc1.size; omega
        · show ¬ r.b = w.heap.size + 1; omega
      · have := hcg.size; have := hc1.size; have := kb.size; omega
      · rw [hW9]; exact Chg.grown_new ((Chg.of_below kb).trans hc1) (grown_set w1 (w.heap.size + 1) 0 _) (fun k hk => by cases hk; omega)
    have p9 : W9.cell? ⟨w.heap.size + 1, 0, none⟩ = some (.slice (some ⟨r.b, r.off, none⟩) r.es.length r.cap) := by rw [hW9]; exact World.cell?_setCell_same _ _ _ s1
    clear hr h0 hrl hba hbb kb hbc hlt hbase hrb HRs HV HR HZ H1 hc1 HFin
    go_wp2_with fail
    rw [← hW9]
    exact bodyPost_ret (v := .agg #[.slice (some ⟨r.b, r.off, none⟩) r.es.length r.cap]) (by simp [results, Try.results28, go_sem, p9]) rfl ⟨r, rfl, HE.out⟩
  · clear cv
    have zl : ¬ (r.es.length : Int) = 0 := by omega
    go_wp2_with fail
    refine (below_core base cb bv n r.es.length w1 H1.out.d (by omega) (by omega)).mono ?_
    rintro e w2 ⟨i, rfl, hi0, hi1, hd2⟩
    obtain ⟨i, rfl⟩ := Int.eq_ofNat_of_zero_le hi0
    have hi : i < r.es.length := by omega
    clear hi0
    have H2 : Hid (LInv base cb bv n Wb g cp r.es w2) := H1.out.call hd2
    clear hd2 H1
    go_wp2_with fail
    refine (below_core base cb bv n 4 w2 H2.out.d (by omega) (by omega)).mono ?_
    rintro e w3 ⟨k, rfl, hk0, hk1, hd3⟩
    have H3 : Hid (LInv base cb bv n Wb g cp r.es w3) := H2.out.call hd3
    clear hd3 H2
    have hk : k = 0 ∨ k = 1 ∨ k = 2 ∨ k = 3 := by omega
    clear hk0 hk1
    obtain ⟨x, hx⟩ : ∃ x, r.es[i]? = some x := ⟨_, List.getElem?_eq_getElem hi⟩
    have HX : Hid (r.es[i]? = some x ∧ x.small) := ⟨hx, HR.out.2 x (List.mem_of_getElem? hx)⟩
    clear hx
    have hcp : r.es.length ≤ cp ∧ r.es.length ≤ maxLen := by
      rcases H3.out.row.2 with ⟨h0, _⟩ | ⟨g', cap', cur, hv, _, _, hn, hcap, _, _⟩
      · cases h0
      · simp only [Value.slice.injEq, Option.some.injEq, Addr.mk.injEq, and_true, true_and] at hv
        obtain ⟨rfl, rfl⟩ := hv
        exact ⟨hn, by omega⟩
    have HN : Hid (base ≤ cb ∧ cb < w.heap.size ∧ base ≤ w.heap.size ∧ r.b < w.heap.size ∧ i < r.es.length ∧ r.es.length ≤ 200 ∧ r.es.length ≤ cp ∧ r.es.length ≤ maxLen ∧ ¬ r.b = cb) := ⟨hlt.1, hlt.2, hbase, hrl, hi, hl, hcp.1, hcp.2, hrb⟩
    clear hl hr h0 hrl hba hbb kb hbc hlt hbase zl hi hcp hrb
    generalize hmm : r.es.length = m at *
    have HM : Hid (r.es.length = m) := hmm
    clear hmm
    have HFn : Hid (∀ (g cp : Nat) (es : List Ent) (m' : Nat) (wr : World), m' = es.length → LInv base cb bv n Wb g cp es wr → m' ≤ m + 1 → ∃ r' : Rm, Ending.returned (Value.agg #[.slice (some ⟨g, 0, none⟩) m' cp]) = .returned (.agg #[.slice (some ⟨r'.b, r'.off, none⟩) r'.es.length r'.cap]) ∧ SpoilOf w r.b r.es r' (wr.setCell ⟨w.heap.size + 1, 0, none⟩ (.slice (some ⟨g, 0, none⟩) m' cp)) ∧ Drew base cb bv n w (wr.setCell ⟨w.heap.size + 1, 0, none⟩ (.slice (some ⟨g, 0, none⟩) m' cp))) := by
      rintro g cp es m' wr rfl hL h1; exact HFin.out g cp es wr hL h1
    clear HFin
    rcases hk with rfl | rfl | rfl | rfl
    · obtain ⟨⟨c0, c1, c2, c3, c4, c5⟩, _⟩ := H3.out.at6 i x HX.out.1
      go_wp2_with fail
      refine (spoilE_core base cb bv n x w3 H3.out.d HX.out.2).mono ?_
      rintro e w4 ⟨y, rfl, hy, hd4⟩
      have H4 : Hid (LInv base cb bv n Wb g cp r.es w4 ∧ y.small) := ⟨H3.out.call hd4, hy⟩
      clear hd4 hy c0 c1 c2 c3 c4 c5
      obtain ⟨⟨c0, c1, c2, c3, c4, c5⟩, f1⟩ := H4.out.1.at6 i x HX.out.1
      have f00 := f1 (i * 6)
      have f01 := f1 (i * 6 + 1)
      have f02 := f1 (i * 6 + 2)
      have f03 := f1 (i * 6 + 3)
      have f04 := f1 (i * 6 + 4)
      have f05 := f1 (i * 6 + 5)
      obtain ⟨W5, hW5⟩ : ∃ W5 : World, W5 = ((((((w4.setCell ⟨g, i * 6, none⟩ (.string y.row)).setCell ⟨g, i * 6 + 1, none⟩ (.string y.fam)).setCell ⟨g, i * 6 + 2, none⟩ (.string y.qual)).setCell ⟨g, i * 6 + 3, none⟩ (.int .u64 y.ts)).setCell ⟨g, i * 6 + 4, none⟩ (.int .i64 y.kind)).setCell ⟨g, i * 6 + 5, none⟩ (.string y.val)) := ⟨_, rfl⟩
      have H5 : Hid (LInv base cb bv n Wb g cp (r.es.set i y) W5) := by show LInv base cb bv n Wb g cp (r.es.set i y) W5; rw [hW5]; exact H4.out.1.put i x y HX.out.1 H4.out.2
      clear f1
      go_upto_region 9 with fail
      rw [← hW5]
      clear hW5 c0 c1 c2 c3 c4 c5 f00 f01 f02 f03 f04 f05 H4
      obtain ⟨rc, rf⟩ := HRs.out W5 H5.out.c
      obtain ⟨W9, hW9⟩ : ∃ W9 : World, W9 = W5.setCell ⟨w.heap.size + 1, 0, none⟩ (.slice (some ⟨g, 0, none⟩) m cp) := ⟨_, rfl⟩
      have HE : Hid (∃ r' : Rm, Ending.returned (Value.agg #[.slice (some ⟨g, 0, none⟩) m cp]) = .returned (.agg #[.slice (some ⟨r'.b, r'.off, none⟩) r'.es.length r'.cap]) ∧ SpoilOf w r.b r.es r' W9 ∧ Drew base cb bv n w W9) := by rw [hW9]; exact HFn.out _ _ (r.es.set i y) _ _ (by rw [List.length_set, HM.out]) H5.out (by omega)
      have p9 : W9.cell? ⟨w.heap.size + 1, 0, none⟩ = some (.slice (some ⟨g, 0, none⟩) m cp) := by rw [hW9]; exact World.cell?_setCell_same _ _ _ rc
      clear HFn HRs HV HR HX HZ H3
      go_wp2_with fail
      rw [← hW9]
      exact bodyPost_ret (v := .agg #[.slice (some ⟨g, 0, none⟩) m cp]) (by simp [results, Try.results28, go_sem, p9]) rfl HE.out
    · obtain ⟨z, hz⟩ : ∃ z, r.es[0]? = some z := ⟨_, List.getElem?_eq_getElem (by have := HM.out; omega)⟩
      have HZ0 : Hid (r.es[0]? = some z ∧ z.small) := ⟨hz, HR.out.2 z (List.mem_of_getElem? hz)⟩
      clear hz
      obtain ⟨W4, hW4⟩ : ∃ W4 : World, W4 = w3.alloc (Obj.cells #[.string z.row, .string z.fam, .string z.qual, .int .u64 z.ts, .int .i64 z.kind, .string z.val] 73) := ⟨_, rfl⟩
      obtain ⟨⟨k0, k1, k2, k3, k4, k5⟩, _⟩ := H3.out.at6 0 z HZ0.out.1
      simp only [Nat.zero_mul, Nat.zero_add] at k0 k1 k2 k3 k4 k5
      have H4 : Hid (YInv base cb bv n Wb g cp r.es w3.heap.size z W4) := by show YInv base cb bv n Wb g cp r.es w3.heap.size z W4; rw [hW4]; exact H3.out.make z
      go_upto_region 11 with fail
      rw [← hW4]
      clear hW4 k0 k1 k2 k3 k4 k5
      generalize w3.heap.size = vb at *
      obtain ⟨⟨c0, c1, c2, c3, c4, c5⟩, f1⟩ := H4.out.at6 i x HX.out.1
      obtain ⟨⟨k0, k1, k2, k3, k4, k5⟩, _⟩ := H4.out.at6 0 z HZ0.out.1
      simp only [Nat.zero_mul, Nat.zero_add] at k0 k1 k2 k3 k4 k5
      have f00 := f1 0
      have f01 := f1 1
      have f02 := f1 2
      have f03 := f1 3
      have f04 := f1 4
      have f05 := f1 5
      obtain ⟨W5, hW5⟩ : ∃ W5 : World, W5 = ((((((W4.setCell ⟨g, 0, none⟩ (.string x.row)).setCell ⟨g, 1, none⟩ (.string x.fam)).setCell ⟨g, 2, none⟩ (.string x.qual)).setCell ⟨g, 3, none⟩ (.int .u64 x.ts)).setCell ⟨g, 4, none⟩ (.int .i64 x.kind)).setCell ⟨g, 5, none⟩ (.string x.val)) := ⟨_, rfl⟩
      have H5 : Hid (YInv base cb bv n Wb g cp (r.es.set 0 x) vb z W5) := by
        have := H4.out.put 0 z x HZ0.out.1 HX.out.2
        simp only [Nat.zero_mul, Nat.zero_add] at this
        rw [← hW5] at this
        exact this
      clear f1
      go_upto_region 12 with fail
      rw [← hW5]
      clear hW5 c0 c1 c2 c3 c4 c5 k0 k1 k2 k3 k4 k5 f00 f01 f02 f03 f04 f05 H4
      obtain ⟨x2, hx2⟩ : ∃ x2, (r.es.set 0 x)[i]? = some x2 := ⟨_, List.getElem?_eq_getElem (by rw [List.length_set, HM.out]; omega)⟩
      have HX2 : Hid ((r.es.set 0 x)[i]? = some x2) := hx2
      clear hx2
      obtain ⟨⟨c0, c1, c2, c3, c4, c5⟩, f1⟩ := H5.out.at6 i x2 HX2.out
      obtain ⟨⟨k0, k1, k2, k3, k4, k5⟩, _⟩ := H5.out.cells
      have f00 := f1 (i * 6)
      have f01 := f1 (i * 6 + 1)
      have f02 := f1 (i * 6 + 2)
      have f03 := f1 (i * 6 + 3)
      have f04 := f1 (i * 6 + 4)
      have f05 := f1 (i * 6 + 5)
      obtain ⟨W6, hW6⟩ : ∃ W6 : World, W6 = ((((((W5.setCell ⟨g, i * 6, none⟩ (.string z.row)).setCell ⟨g, i * 6 + 1, none⟩ (.string z.fam)).setCell ⟨g, i * 6 + 2, none⟩ (.string z.qual)).setCell ⟨g, i * 6 + 3, none⟩ (.int .u64 z.ts)).setCell ⟨g, i * 6 + 4, none⟩ (.int .i64 z.kind)).setCell ⟨g, i * 6 + 5, none⟩ (.string z.val)) := ⟨_, rfl⟩
      have H6 : Hid (LInv base cb bv n Wb g cp ((r.es.set 0 x).set i z) W6) := by show LInv base cb bv n Wb g cp ((r.es.set 0 x).set i z) W6; rw [hW6]; exact H5.out.toLInv.put i x2 z HX2.out HZ0.out.2
      clear f1
      go_upto_region 13 with fail
      rw [← hW6]
      clear hW6 c0 c1 c2 c3 c4 c5 k0 k1 k2 k3 k4 k5 f00 f01 f02 f03 f04 f05 H5 HX2 HZ0
      obtain ⟨rc, rf⟩ := HRs.out W6 H6.out.c
      obtain ⟨W9, hW9⟩ : ∃ W9 : World, W9 = W6.setCell ⟨w.heap.size + 1, 0, none⟩ (.slice (some ⟨g, 0, none⟩) m cp) := ⟨_, rfl⟩
      have HE : Hid (∃ r' : Rm, Ending.returned (Value.agg #[.slice (some ⟨g, 0, none⟩) m cp]) = .returned (.agg #[.slice (some ⟨r'.b, r'.off, none⟩) r'.es.length r'.cap]) ∧ SpoilOf w r.b r.es r' W9 ∧ Drew base cb bv n w W9) := by rw [hW9]; exact HFn.out _ _ ((r.es.set 0 x).set i z) _ _ (by rw [List.length_set, List.length_set, HM.out]) H6.out (by omega)
      have p9 : W9.cell? ⟨w.heap.size + 1, 0, none⟩ = some (.slice (some ⟨g, 0, none⟩) m cp) := by rw [hW9]; exact World.cell?_setCell_same _ _ _ rc
      clear HFn HRs HV HR HX HZ H3
      go_wp2_with fail
      rw [← hW9]
      exact bodyPost_ret (v := .agg #[.slice (some ⟨g, 0, none⟩) m cp]) (by simp [results, Try.results28, go_sem, p9]) rfl HE.out
    · obtain ⟨⟨c0, c1, c2, c3, c4, c5⟩, _⟩ := H3.out.at6 i x HX.out.1
      have hgX := H3.out.row.lt
      have hsX := H3.out.c.size
      have HKl : Hid (m = r.es.length) := HM.out.symm
      have HN2 : Hid (m ≤ 200) := HN.out.2.2.2.2.2.1
      go_wp2_with (at_builtin; refine wpList_append_ent _ rfl _ _ rfl Wb.heap.size g cp _ _ r.es x rfl rfl HKl.out ?hO ?hc ?hl ?hb ?_)
      case hO => exact H3.out.row.below ((Below.refl _ _).alloc (Nat.le_refl _) _) (by omega)
      case hc => exact ent_new w3 x
      case hl => rw [← HKl.out]; have := HN2.out; omega
      case hb => first | (simp; omega) | omega
      intro g' cp' w4 hO' hgr
      have H6 : Hid (LInv base cb bv n Wb g' cp' (r.es ++ [x]) w4) := H3.out.push HX.out.2 hO' hgr
      clear hO' hgr c0 c1 c2 c3 c4 c5 hgX hsX HKl
      obtain ⟨rc, rf⟩ := HRs.out w4 H6.out.c
      obtain ⟨W9, hW9⟩ : ∃ W9 : World, W9 = w4.setCell ⟨w.heap.size + 1, 0, none⟩ (.slice (some ⟨g', 0, none⟩) (m + 1) cp') := ⟨_, rfl⟩
      have HE : Hid (∃ r' : Rm, Ending.returned (Value.agg #[.slice (some ⟨g', 0, none⟩) (m + 1) cp']) = .returned (.agg #[.slice (some ⟨r'.b, r'.off, none⟩) r'.es.length r'.cap]) ∧ SpoilOf w r.b r.es r' W9 ∧ Drew base cb bv n w W9) := by rw [hW9]; exact HFn.out _ _ (r.es ++ [x]) _ _ (by simp [HM.out]) H6.out (by omega)
      have p9 : W9.cell? ⟨w.heap.size + 1, 0, none⟩ = some (.slice (some ⟨g', 0, none⟩) (m + 1) cp') := by rw [hW9]; exact World.cell?_setCell_same _ _ _ rc
      clear HFn HRs HV HR HX HZ H3
      go_wp2_with fail
      rw [← hW9]
      exact bodyPost_ret (v := .agg #[.slice (some ⟨g', 0, none⟩) (m + 1) cp']) (by simp [results, Try.results28, go_sem, p9]) rfl HE.out
    · go_wp2_with fail
      refine (below_core base cb bv n 3 w3 H3.out.d (by omega) (by omega)).mono ?_
      rintro e w4 ⟨q, rfl, hq0, hq1, hd4⟩
      have H4 : Hid (LInv base cb bv n Wb g cp r.es w4 ∧ 0 ≤ q ∧ q < 3) := ⟨H3.out.call hd4, hq0, hq1⟩
      clear hd4 hq0 hq1
      have H5 : Hid (LInv base cb bv n Wb g cp (r.es.set i { x with kind := q }) (w4.setCell ⟨g, i * 6 + 4, none⟩ (.int .i64 q))) := H4.out.1.set i 4 x { x with kind := q } (.int .i64 q) HX.out.1 (by omega) rfl ⟨HX.out.2.row, HX.out.2.fam, HX.out.2.qual, HX.out.2.val, HX.out.2.ts, by have := H4.out.2; show 0 ≤ q ∧ q ≤ 3; omega⟩
      have HX2 : Hid ((r.es.set i { x with kind := q })[i]? = some { x with kind := q }) := by show (r.es.set i { x with kind := q })[i]? = some { x with kind := q }; rw [List.getElem?_set_self (by have := HM.out; omega)]
      obtain ⟨⟨c0, c1, c2, c3, c4, c5⟩, f1⟩ := H4.out.1.at6 i x HX.out.1
      have f04 := f1 (i * 6 + 4)
      obtain ⟨W5, hW5⟩ : ∃ W5 : World, W5 = w4.setCell ⟨g, i * 6 + 4, none⟩ (.int .i64 q) := ⟨_, rfl⟩
      rw [← hW5] at H5
      clear f1
      go_upto_region 17 with fail
      rw [← hW5]
      clear hW5 c0 c1 c2 c3 c4 c5 f04
      obtain ⟨⟨c0, c1, c2, c3, c4, c5⟩, f1⟩ := H5.out.at6 i _ HX2.out
      have f05 := f1 (i * 6 + 5)
      obtain ⟨W6, hW6⟩ : ∃ W6 : World, W6 = W5.setCell ⟨g, i * 6 + 5, none⟩ (.string ⟨#[]⟩) := ⟨_, rfl⟩
      have H6 : Hid (LInv base cb bv n Wb g cp ((r.es.set i { x with kind := q }).set i { x with kind := q, val := ⟨#[]⟩ }) W6) := by
        show LInv base cb bv n Wb g cp ((r.es.set i { x with kind := q }).set i { x with kind := q, val := ⟨#[]⟩ }) W6
        rw [hW6]
        exact H5.out.set i 5 _ { x with kind := q, val := ⟨#[]⟩ } (.string ⟨#[]⟩) HX2.out (by omega) rfl ⟨HX.out.2.row, HX.out.2.fam, HX.out.2.qual, by show (0 : Nat) ≤ 1000; omega, HX.out.2.ts, by have := H4.out.2; show 0 ≤ q ∧ q ≤ 3; omega⟩
      clear f1
      go_upto_region 18 with fail
      rw [← hW6]
      clear hW6 c0 c1 c2 c3 c4 c5 f05 H5 HX2 H4
      obtain ⟨rc, rf⟩ := HRs.out W6 H6.out.c
      obtain ⟨W9, hW9⟩ : ∃ W9 : World, W9 = W6.setCell ⟨w.heap.size + 1, 0, none⟩ (.slice (some ⟨g, 0, none⟩) m cp) := ⟨_, rfl⟩
      have HE : Hid (∃ r' : Rm, Ending.returned (Value.agg #[.slice (some ⟨g, 0, none⟩) m cp]) = .returned (.agg #[.slice (some ⟨r'.b, r'.off, none⟩) r'.es.length r'.cap]) ∧ SpoilOf w r.b r.es r' W9 ∧ Drew base cb bv n w W9) := by rw [hW9]; exact HFn.out _ _ ((r.es.set i { x with kind := q }).set i { x with kind := q, val := ⟨#[]⟩ }) _ _ (by rw [List.length_set, List.length_set, HM.out]) H6.out (by omega)
      have p9 : W9.cell? ⟨w.heap.size + 1, 0, none⟩ = some (.slice (some ⟨g, 0, none⟩) m cp) := by rw [hW9]; exact World.cell?_setCell_same _ _ _ rc
      clear HFn HRs HV HR HX HZ H3
      go_wp2_with fail
      rw [← hW9]
      exact bodyPost_ret (v := .agg #[.slice (some ⟨g, 0, none⟩) m cp]) (by simp [results, Try.results28, go_sem, p9]) rfl HE.out
end Go.Proofs.Ytjphalbjimggcae
