import Derived.Maps.AppendAt
import Derived.Deep.RegionWith
import Derived.Test.YtlgeffinhbodeacDoorPkAF
import Derived.Test.YtlgeffinhbodeacDoorPkAE
import Derived.Test.YtlgeffinhbodeacDoorPkAC
import Derived.Test.YtlgeffinhbodeacDoorPkAD
/-
  The draws: a run spoilt.
-/
namespace Go.Proofs.YtlgeffinhbodeacDoor
open Go.ChangeShapes Go.WideShapes Go.ChangeAt Go.RowKit Go.Deep
set_option linter.unusedVariables false
set_option linter.unusedSimpArgs false
set_option maxRecDepth 100000

theorem cells_of_ents {w : World} {b off : Nat} {es : List Ent} (h : EntsAt w b off es) : ∀ j u, (cellsE es)[j]? = some u → w.cell? ((⟨b, off, none⟩ : Addr).add j) = some u := by
  intro j u hu
  have hj : j < es.length * 6 := by rw [← length_cellsE]; exact (List.getElem?_eq_some_iff.1 hu).1
  obtain ⟨e, he⟩ : ∃ e, es[j / 6]? = some e := ⟨_, List.getElem?_eq_getElem (by omega)⟩
  have hg := cellsE_get es (j / 6) e he (j % 6) (Nat.mod_lt _ (by omega))
  rw [show j / 6 * 6 + j % 6 = j by omega, hu] at hg
  obtain ⟨c0, c1, c2, c3, c4, c5⟩ := h (j / 6) e he
  rw [Addr.add_mid, show off + j = off + j / 6 * 6 + j % 6 by omega]
  have hm : j % 6 < 6 := Nat.mod_lt _ (by omega)
  generalize j % 6 = m at *
  match m, hm, hg with
  | 0, _, hg => rw [Nat.add_zero, c0, hg]; rfl
  | 1, _, hg => rw [c1, hg]; rfl
  | 2, _, hg => rw [c2, hg]; rfl
  | 3, _, hg => rw [c3, hg]; rfl
  | 4, _, hg => rw [c4, hg]; rfl
  | 5, _, hg => rw [c5, hg]; rfl
theorem one_cells (es : List Ent) : ∀ u ∈ cellsE es, u.oneCell' = true := by
  intro u hu
  unfold cellsE at hu
  obtain ⟨e, _, he⟩ := List.mem_flatMap.1 hu
  simp at he
  rcases he with rfl | rfl | rfl | rfl | rfl | rfl <;> rfl
/-- Entries appended to a row of the call's own. -/
theorem wpList_append_ents {ops : Array Oper} {rest : List Oper} {o : Oper} {a : Act} {Q : Exit → Act → World → Prop} (w : World) (hgd : o.guard = none) (s x : Operand)
    (ho : o.op = .call { callee := .builtin .append, args := #[s, x], argTypes := #[23, 23] })
    (base g cp n b off m cx : Nat) (fs es : List Ent) (hs : a.eval s = .slice (some ⟨g, 0, none⟩) n cp) (hx : a.eval x = .slice (some ⟨b, off, none⟩) m cx) (hn : n = fs.length) (hm : m = es.length) (hO : OwnE w base g cp fs)
    (hc : EntsAt w b off es) (hlen : fs.length + es.length ≤ 2 ^ 30) (hbase : base ≤ w.heap.size)
    (h : ∀ g' cp' w', OwnE w' base g' cp' (fs ++ es) → w.grownBy w' (some g) → wpList Tryd.prog ops Q rest (a.put o.dst (.slice (some ⟨g', 0, none⟩) (n + m) cp')) w') : wpList Tryd.prog ops Q (o :: rest) a w := by
  subst hn hm
  obtain ⟨i, hi, hz0, hz1, hz2⟩ := info_parts Tryd.infoEnt
  refine wpList_append_own_at w hgd s x 23 ho base 73 i _ 6 80 Tryd.underlying23 hi hz0 hz1 hz2 rfl (by decide) (.slice (some ⟨g, 0, none⟩) fs.length cp) fs.length (cellsE fs) hs hO ⟨b, off, none⟩ es.length cx (cellsE es) hx (length_cellsE es) (cells_of_ents hc) (one_cells es) ?_ ?_ hbase ?_
  · unfold maxLen; omega
  · omega
  · intro v' w' hO' hgr hnil _
    rcases hO'.2 with ⟨h0, _⟩ | ⟨g', cap', cur, hv, _, _, hn, hcap, _, _⟩
    · have := (hnil.1 h0).1
      cases this
    · subst hv
      refine h g' cap' w' ?_ hgr
      unfold OwnE
      rw [List.length_append, cellsE_append]
      exact hO'

/-- What a spoilt run may be. -/
structure SpoilOf (w : World) (b : Nat) (es : List Ent) (r : Rm) (w' : World) : Prop where
  at_ : r.at w'
  ok : ∀ e ∈ r.es, e.small
  len : r.es.length ≤ es.length + 1
  blk : r.b = b ∨ w.heap.size ≤ r.b
theorem mem_set_small {fs : List Ent} {i : Nat} {e' : Ent} (h : ∀ e ∈ fs, e.small) (he : e'.small) : ∀ e ∈ fs.set i e', e.small := by
  intro e hm
  rcases List.mem_or_eq_of_mem_set hm with q | rfl
  · exact h e q
  · exact he
theorem LInv.turn {base cb : Nat} {bv : Value} {n : Nat} {w : World} {g cp : Nat} {es fs : List Ent} {wr w' : World} (h : LInv base cb bv n w g cp es wr) (hc : Chg (fun k => k = g) wr w') (hO : OwnE w' w.heap.size g cp fs) (hok : ∀ e ∈ fs, e.small) : LInv base cb bv n w g cp fs w' := by
  have hl := h.row.lt
  have hcb := h.lt
  have hbb := h.hb
  refine ⟨hO, hok, h.d.chg hc (by omega) (fun k q => by omega), ?_, h.lt, h.hb⟩
  exact ⟨hc.os.trans h.c.os, hc.tape.trans h.c.tape, hc.output.trans h.c.output, Nat.le_trans h.c.size hc.size, fun k hk hn => (hc.block k (Nat.lt_of_lt_of_le hk h.c.size) (by omega)).trans (h.c.block k hk hn)⟩
theorem LInv.put {base cb : Nat} {bv : Value} {n : Nat} {w : World} {g cp : Nat} {es : List Ent} {wr : World} (h : LInv base cb bv n w g cp es wr) (i : Nat) (x e : Ent) (hx : es[i]? = some x) (he : e.small) :
    LInv base cb bv n w g cp (es.set i e) ((((((wr.setCell ⟨g, i * 6, none⟩ (.string e.row)).setCell ⟨g, i * 6 + 1, none⟩ (.string e.fam)).setCell ⟨g, i * 6 + 2, none⟩ (.string e.qual)).setCell ⟨g, i * 6 + 3, none⟩ (.int .u64 e.ts)).setCell ⟨g, i * 6 + 4, none⟩ (.int .i64 e.kind)).setCell ⟨g, i * 6 + 5, none⟩ (.string e.val)) := by
  refine h.turn ?_ (h.row.put i x e hx) (mem_set_small h.ok he)
  exact (((((Chg.of_set (S := fun k => k = g) _ _ _ _ rfl).trans (Chg.of_set (S := fun k => k = g) _ _ _ _ rfl)).trans (Chg.of_set (S := fun k => k = g) _ _ _ _ rfl)).trans (Chg.of_set (S := fun k => k = g) _ _ _ _ rfl)).trans (Chg.of_set (S := fun k => k = g) _ _ _ _ rfl)).trans (Chg.of_set (S := fun k => k = g) _ _ _ _ rfl)
theorem LInv.at6 {base cb : Nat} {bv : Value} {n : Nat} {w : World} {g cp : Nat} {es : List Ent} {wr : World} (h : LInv base cb bv n w g cp es wr) (i : Nat) (x : Ent) (hx : es[i]? = some x) :
    (wr.cell? ⟨g, i * 6, none⟩ = some (.string x.row) ∧ wr.cell? ⟨g, i * 6 + 1, none⟩ = some (.string x.fam) ∧ wr.cell? ⟨g, i * 6 + 2, none⟩ = some (.string x.qual) ∧ wr.cell? ⟨g, i * 6 + 3, none⟩ = some (.int .u64 x.ts) ∧ wr.cell? ⟨g, i * 6 + 4, none⟩ = some (.int .i64 x.kind) ∧ wr.cell? ⟨g, i * 6 + 5, none⟩ = some (.string x.val)) ∧ ∀ j, wr.frozen? ⟨g, j, none⟩ = false := by
  have := h.row.at i x hx
  simp only [Nat.zero_add] at this
  exact ⟨this, fun j => World.ownsRow.frozenAt h.row j⟩

theorem YInv.put {base cb : Nat} {bv : Value} {n : Nat} {w : World} {g cp : Nat} {es : List Ent} {vb : Nat} {f : Ent} {wr : World} (h : YInv base cb bv n w g cp es vb f wr) (i : Nat) (x e : Ent) (hx : es[i]? = some x) (he : e.small) :
    YInv base cb bv n w g cp (es.set i e) vb f ((((((wr.setCell ⟨g, i * 6, none⟩ (.string e.row)).setCell ⟨g, i * 6 + 1, none⟩ (.string e.fam)).setCell ⟨g, i * 6 + 2, none⟩ (.string e.qual)).setCell ⟨g, i * 6 + 3, none⟩ (.int .u64 e.ts)).setCell ⟨g, i * 6 + 4, none⟩ (.int .i64 e.kind)).setCell ⟨g, i * 6 + 5, none⟩ (.string e.val)) := by
  refine { h.toLInv.put i x e hx he with
    var := own_chg h.var (S := fun k => k = g) ?_ (fun k q => by simp [Value.ownBlock] at q; subst q; exact fun q => h.ne q.symm)
    ne := h.ne }
  exact (((((Chg.of_set (S := fun k => k = g) _ _ _ _ rfl).trans (Chg.of_set (S := fun k => k = g) _ _ _ _ rfl)).trans (Chg.of_set (S := fun k => k = g) _ _ _ _ rfl)).trans (Chg.of_set (S := fun k => k = g) _ _ _ _ rfl)).trans (Chg.of_set (S := fun k => k = g) _ _ _ _ rfl)).trans (Chg.of_set (S := fun k => k = g) _ _ _ _ rfl)
theorem LInv.push {base cb : Nat} {bv : Value} {n : Nat} {w : World} {g cp : Nat} {es : List Ent} {f : Ent} {wr w' : World} {o : Obj} (h : LInv base cb bv n w g cp es wr) (hf : f.small) {g' cp' : Nat} (hO : OwnE w' w.heap.size g' cp' (es ++ [f])) (hgr : (wr.alloc o).grownBy w' (some g)) : LInv base cb bv n w g' cp' (es ++ [f]) w' := by
  have hb : Below wr.heap.size wr (wr.alloc o) := (Below.refl _ _).alloc (Nat.le_refl _) _
  have hl := h.row.lt
  have hcb := h.lt
  have hbb := h.hb
  refine ⟨hO, fun e he => ?_, ?_, ?_, h.lt, h.hb⟩
  · rcases List.mem_append.1 he with q | q
    · exact h.ok e q
    · simp at q; subst q; exact hf
  · exact (h.d.below hb).chg (Chg.of_grown (S := fun k => k = g) hgr (fun k hk => by cases hk; rfl)) (by omega) (fun k q => by omega)
  · exact Chg.grown_new (h.c.trans (Chg.of_below hb)) hgr (fun k hk => by cases hk; exact hl.1)
theorem LInv.set {base cb : Nat} {bv : Value} {n : Nat} {w : World} {g cp : Nat} {es : List Ent} {wr : World} (h : LInv base cb bv n w g cp es wr) (k j : Nat) (e e' : Ent) (u : Value) (hk : es[k]? = some e) (hj : j < 6) (hc : e'.cells = e.cells.set j u) (hs : e'.small) : LInv base cb bv n w g cp (es.set k e') (wr.setCell ⟨g, k * 6 + j, none⟩ u) :=
  h.turn (Chg.of_set (S := fun k => k = g) _ _ _ _ rfl) (h.row.set k j e e' u hk hj hc) (mem_set_small h.ok hs)

set_option maxHeartbeats 8000000 in
theorem spoilR_core (base cb : Nat) (bv : Value) (n : Nat) (r : Rm) (w : World) (h : DrawAt base cb bv n w) (hr : r.at w) (hok : ∀ e ∈ r.es, e.small) (hl : r.es.length ≤ 200) (hrb : ¬ r.b = cb) :
    Calls Tryd.prog 32 #[.pointer (some ⟨cb, 0, none⟩), .agg #[.slice (some ⟨r.b, r.off, none⟩) r.es.length r.cap]] w fun x w' => ∃ r' : Rm, x = .returned (.agg #[.slice (some ⟨r'.b, r'.off, none⟩) r'.es.length r'.cap]) ∧ SpoilOf w r.b r.es r' w' ∧ Drew base cb bv n w w' := by
  have hlt := h.lt
  have hbase := h.base
  obtain ⟨Wa, hWa⟩ : ∃ Wa : World, Wa = w.alloc (Obj.cells #[.slice (some ⟨r.b, r.off, none⟩) r.es.length r.cap] 25) := ⟨_, rfl⟩
  have hba : Below w.heap.size w Wa := by rw [hWa]; exact (Below.refl _ _).alloc (Nat.le_refl _) _
  have hza : Wa.heap.size = w.heap.size + 1 := by rw [hWa]; simp
  obtain ⟨Wb, hWb⟩ : ∃ Wb : World, Wb = Wa.alloc (Obj.cells #[.slice none 0 0] 25) := ⟨_, rfl⟩
  have hbb : Below Wa.heap.size Wa Wb := by rw [hWb]; exact (Below.refl _ _).alloc (Nat.le_refl _) _
  have hzb : Wb.heap.size = w.heap.size + 1 + 1 := by rw [hWb]; simp [hza]
  have kb : Below w.heap.size w Wb := hba.trans (hbb.mono (by omega))
  have HV : Hid (Wb.cell? ⟨w.heap.size, 0, none⟩ = some (.slice (some ⟨r.b, r.off, none⟩) r.es.length r.cap) ∧ Wb.cell? ⟨w.heap.size + 1, 0, none⟩ = some (.slice none 0 0) ∧ Wb.frozen? ⟨w.heap.size + 1, 0, none⟩ = false) := by
    refine ⟨?_, ?_, ?_⟩
    · rw [hbb.cell (p := ⟨w.heap.size, 0, none⟩) (by show w.heap.size < Wa.heap.size; omega), hWa]; simp
    · rw [hWb, ← hza]; simp
    · rw [hWb, ← hza]
      exact World.ownsRow.frozenAt (World.ownsRow_lit (base := 0) (e := 25) (size := 1) Wa #[.slice none 0 0] 1 (Nat.zero_le _) (by decide) rfl) 0
  obtain ⟨Wc, hWc⟩ : ∃ Wc : World, Wc = Wb.alloc (Obj.cells #[] 73) := ⟨_, rfl⟩
  have hbc : Below Wb.heap.size Wb Wc := by rw [hWc]; exact (Below.refl _ _).alloc (Nat.le_refl _) _
  have HL : Hid (LInv base cb bv n Wb (w.heap.size + 1 + 1) 0 [] Wc) := by
    refine ⟨?_, fun e he => by simp at he, (h.below kb).below hbc, Chg.of_below hbc, by omega, by omega⟩
    rw [hWc, ← hzb]
    exact World.ownsRow_made Wb #[] 0 (Nat.le_refl _) (Nat.zero_le _) (by simp)
  have HR : Hid (r.at Wc ∧ (∀ e ∈ r.es, e.small)) := ⟨(hr.below kb).below hbc, hok⟩
  have hrl := hr.lt
  have cv : Wc.cell? ⟨w.heap.size, 0, none⟩ = some (.slice (some ⟨r.b, r.off, none⟩) r.es.length r.cap) := by rw [hbc.cell (p := ⟨w.heap.size, 0, none⟩) (by show w.heap.size < Wb.heap.size; omega)]; exact HV.out.1
  clear h hok
  have HZ : Hid (Wb.heap.size = w.heap.size + 1 + 1) := hzb
  have fin : ∀ (g cp : Nat) (es : List Ent) (wr : World), LInv base cb bv n Wb g cp es wr → es.length ≤ r.es.length + 1 → ∃ r' : Rm, Ending.returned (Value.agg #[.slice (some ⟨g, 0, none⟩) es.length cp]) = .returned (.agg #[.slice (some ⟨r'.b, r'.off, none⟩) r'.es.length r'.cap]) ∧ SpoilOf w r.b r.es r' (wr.setCell ⟨w.heap.size + 1, 0, none⟩ (.slice (some ⟨g, 0, none⟩) es.length cp)) ∧ Drew base cb bv n w (wr.setCell ⟨w.heap.size + 1, 0, none⟩ (.slice (some ⟨g, 0, none⟩) es.length cp)) := by
    intro g cp es wr hL hn
    have hg := hL.row.lt
    have hcg : Chg (fun k => k = w.heap.size + 1) wr (wr.setCell ⟨w.heap.size + 1, 0, none⟩ (.slice (some ⟨g, 0, none⟩) es.length cp)) := Chg.of_set _ _ _ _ rfl
    have hO : OwnE (wr.setCell ⟨w.heap.size + 1, 0, none⟩ (.slice (some ⟨g, 0, none⟩) es.length cp)) Wb.heap.size g cp es := own_chg hL.row hcg (fun k q => by simp [Value.ownBlock] at q; subst q; omega)
    have hcap : es.length ≤ cp ∧ cp ≤ maxLen := by
      rcases hO.2 with ⟨h0, _⟩ | ⟨g', cap', cur, hv, _, _, hn, hcap, _, _⟩
      · cases h0
      · simp only [Value.slice.injEq, Option.some.injEq, Addr.mk.injEq, and_true, true_and] at hv
        obtain ⟨rfl, rfl⟩ := hv
        exact ⟨hn, hcap⟩
    refine ⟨⟨g, 0, cp, es⟩, rfl, ⟨⟨hO.at, hO.lt.2, hcap.1, hcap.2⟩, hL.ok, hn, .inr (by show w.heap.size ≤ g; omega)⟩, hL.d.chg hcg (by omega) (fun k q => by omega), ?_⟩
    exact Chg.grown_new ((Chg.of_below kb).trans hL.c) (grown_set wr (w.heap.size + 1) 0 _) (fun k hk => by cases hk; omega)
  have HFin : Hid (∀ (g cp : Nat) (es : List Ent) (wr : World), LInv base cb bv n Wb g cp es wr → es.length ≤ r.es.length + 1 → ∃ r' : Rm, Ending.returned (Value.agg #[.slice (some ⟨g, 0, none⟩) es.length cp]) = .returned (.agg #[.slice (some ⟨r'.b, r'.off, none⟩) r'.es.length r'.cap]) ∧ SpoilOf w r.b r.es r' (wr.setCell ⟨w.heap.size + 1, 0, none⟩ (.slice (some ⟨g, 0, none⟩) es.length cp)) ∧ Drew base cb bv n w (wr.setCell ⟨w.heap.size + 1, 0, none⟩ (.slice (some ⟨g, 0, none⟩) es.length cp))) := fin
  have hrs : ∀ wr, Chg (fun k => k = cb) Wb wr → wr.cell? ⟨w.heap.size + 1, 0, none⟩ = some (.slice none 0 0) ∧ wr.frozen? ⟨w.heap.size + 1, 0, none⟩ = false := fun wr hc => by
    rw [hc.cell (p := ⟨w.heap.size + 1, 0, none⟩) (by show w.heap.size + 1 < Wb.heap.size; omega) (by show ¬ w.heap.size + 1 = cb; omega), hc.frozen (p := ⟨w.heap.size + 1, 0, none⟩) (by show w.heap.size + 1 < Wb.heap.size; omega) (by show ¬ w.heap.size + 1 = cb; omega)]
    exact HV.out.2
  have HRs : Hid (∀ wr, Chg (fun k => k = cb) Wb wr → wr.cell? ⟨w.heap.size + 1, 0, none⟩ = some (.slice none 0 0) ∧ wr.frozen? ⟨w.heap.size + 1, 0, none⟩ = false) := hrs
  clear fin hrs
  go_enter Tryd.func32, Tryd.ntmps32
  have HWs : Hid (Wa = w.alloc (Obj.cells #[.slice (some ⟨r.b, r.off, none⟩) r.es.length r.cap] 25) ∧ Wb = Wa.alloc (Obj.cells #[.slice none 0 0] 25) ∧ Wc = Wb.alloc (Obj.cells #[] 73)) := ⟨hWa, hWb, hWc⟩
  clear hWa hWb hWc hza hzb
  go_wp2_with (at_builtin; refine wpList_append_ents _ rfl _ _ rfl Wb.heap.size (w.heap.size + 1 + 1) 0 0 r.b r.off r.es.length r.cap [] r.es rfl rfl rfl rfl ?hO ?hc ?hl ?hb ?_)
  case hO => rw [← HWs.out.1, ← HWs.out.2.1, ← HWs.out.2.2]; exact HL.out.row
  case hc => rw [← HWs.out.1, ← HWs.out.2.1, ← HWs.out.2.2]; exact HR.out.1.ents
  case hl => simp; omega
  case hb => rw [← HWs.out.1, ← HWs.out.2.1, ← HWs.out.2.2]; exact hbc.size
  rw [← HWs.out.1, ← HWs.out.2.1, ← HWs.out.2.2]
  clear HWs
  intro g cp w1 hO1 hgr1
  have H1 : Hid (LInv base cb bv n Wb g cp r.es w1) := by
    have hs := hbc.size
    have hz := HZ.out
    refine ⟨hO1, HR.out.2, HL.out.d.chg (Chg.of_grown (S := fun k => k = w.heap.size + 1 + 1) hgr1 (fun k hk => by cases hk; rfl)) (by omega) (fun k q => by omega), Chg.grown_new HL.out.c hgr1 (fun k hk => by cases hk; omega), HL.out.lt, HL.out.hb⟩
  clear hO1 hgr1 HL
  by_cases h0 : r.es.length = 0
  · have zl : (r.es.length : Int) = 0 := by omega
    have hc1 := H1.out.c
    have HS : Hid (w1.cell? ⟨w.heap.size + 1, 0, none⟩ = some (.slice none 0 0) ∧ w1.frozen? ⟨w.heap.size + 1, 0, none⟩ = false ∧ w1.cell? ⟨w.heap.size, 0, none⟩ = some (.slice (some ⟨r.b, r.off, none⟩) r.es.length r.cap)) := by
      have hz := HZ.out
      refine ⟨(HRs.out w1 hc1).1, (HRs.out w1 hc1).2, ?_⟩
      rw [hc1.cell (p := ⟨w.heap.size, 0, none⟩) (by show w.heap.size < Wb.heap.size; omega) (by show ¬ w.heap.size = cb; omega)]; exact HV.out.1
    obtain ⟨s1, s2, s3⟩ := HS.out
    obtain ⟨W9, hW9⟩ : ∃ W9 : World, W9 = w1.setCell ⟨w.heap.size + 1, 0, none⟩ (.slice (some ⟨r.b, r.off, none⟩) r.es.length r.cap) := ⟨_, rfl⟩
    have HE : Hid (SpoilOf w r.b r.es r W9 ∧ Drew base cb bv n w W9) := by
      have hcg : Chg (fun k => k = w.heap.size + 1) w1 W9 := by rw [hW9]; exact Chg.of_set _ _ _ _ rfl
      refine ⟨⟨⟨?_, ?_, hr.len, hr.cap⟩, HR.out.2, by omega, .inl rfl⟩, H1.out.d.chg hcg (by omega) (fun k q => by omega), ?_⟩
      · refine EntsAt.chg (EntsAt.chg ((hr.below kb).ents) hc1 ?_ ?_) hcg ?_ ?_
        · have := kb.size; omega
        · exact hrb
        · have := kb.size; have := hc1.size; omega
        · show ¬ r.b = w.heap.size + 1; omega
      · have := hcg.size; have := hc1.size; have := kb.size; omega
      · rw [hW9]; exact Chg.grown_new ((Chg.of_below kb).trans hc1) (grown_set w1 (w.heap.size + 1) 0 _) (fun k hk => by cases hk; omega)
    have p9 : W9.cell? ⟨w.heap.size + 1, 0, none⟩ = some (.slice (some ⟨r.b, r.off, none⟩) r.es.length r.cap) := by rw [hW9]; exact World.cell?_setCell_same _ _ _ s1
    clear hr h0 hrl hba hbb kb hbc hlt hbase hrb HRs HV HR HZ H1 hc1 HFin
    go_wp2_with fail
    rw [← hW9]
    exact bodyPost_ret (v := .agg #[.slice (some ⟨r.b, r.off, none⟩) r.es.length r.cap]) (by simp [results, Tryd.results32, go_sem, p9]) rfl ⟨r, rfl, HE.out⟩
  · clear cv
    have zl : ¬ (r.es.length : Int) = 0 := by omega
    go_wp2_with fail
    refine (below_core base cb bv n r.es.length w1 H1.out.d (by omega) (by omega)).mono ?_
    rintro e w2 ⟨i, rfl, hi0, hi1, hd2⟩
    obtain ⟨i, rfl⟩ := Int.eq_ofNat_of_zero_le hi0
    have hi : i < r.es.length := by omega
    clear hi0
    have H2 : Hid (LInv base cb bv n Wb g cp r.es w2) := H1.out.call hd2
    clear hd2 H1
    go_wp2_with fail
    refine (below_core base cb bv n 4 w2 H2.out.d (by omega) (by omega)).mono ?_
    rintro e w3 ⟨k, rfl, hk0, hk1, hd3⟩
    have H3 : Hid (LInv base cb bv n Wb g cp r.es w3) := H2.out.call hd3
    clear hd3 H2
    have hk : k = 0 ∨ k = 1 ∨ k = 2 ∨ k = 3 := by omega
    clear hk0 hk1
    obtain ⟨x, hx⟩ : ∃ x, r.es[i]? = some x := ⟨_, List.getElem?_eq_getElem hi⟩
    have HX : Hid (r.es[i]? = some x ∧ x.small) := ⟨hx, HR.out.2 x (List.mem_of_getElem? hx)⟩
    clear hx
    have hcp : r.es.length ≤ cp ∧ r.es.length ≤ maxLen := by
      rcases H3.out.row.2 with ⟨h0, _⟩ | ⟨g', cap', cur, hv, _, _, hn, hcap, _, _⟩
      · cases h0
      · simp only [Value.slice.injEq, Option.some.injEq, Addr.mk.injEq, and_true, true_and] at hv
        obtain ⟨rfl, rfl⟩ := hv
        exact ⟨hn, by omega⟩
    have HN : Hid (base ≤ cb ∧ cb < w.heap.size ∧ base ≤ w.heap.size ∧ r.b < w.heap.size ∧ i < r.es.length ∧ r.es.length ≤ 200 ∧ r.es.length ≤ cp ∧ r.es.length ≤ maxLen ∧ ¬ r.b = cb) := ⟨hlt.1, hlt.2, hbase, hrl, hi, hl, hcp.1, hcp.2, hrb⟩
    clear hl hr h0 hrl hba hbb kb hbc hlt hbase zl hi hcp hrb
    generalize hmm : r.es.length = m at *
    have HM : Hid (r.es.length = m) := hmm
    clear hmm
    have HFn : Hid (∀ (g cp : Nat) (es : List Ent) (m' : Nat) (wr : World), m' = es.length → LInv base cb bv n Wb g cp es wr → m' ≤ m + 1 → ∃ r' : Rm, Ending.returned (Value.agg #[.slice (some ⟨g, 0, none⟩) m' cp]) = .returned (.agg #[.slice (some ⟨r'.b, r'.off, none⟩) r'.es.length r'.cap]) ∧ SpoilOf w r.b r.es r' (wr.setCell ⟨w.heap.size + 1, 0, none⟩ (.slice (some ⟨g, 0, none⟩) m' cp)) ∧ Drew base cb bv n w (wr.setCell ⟨w.heap.size + 1, 0, none⟩ (.slice (some ⟨g, 0, none⟩) m' cp))) := by
      rintro g cp es m' wr rfl hL h1; exact HFin.out g cp es wr hL h1
    clear HFin
    rcases hk with rfl | rfl | rfl | rfl
    · obtain ⟨⟨c0, c1, c2, c3, c4, c5⟩, _⟩ := H3.out.at6 i x HX.out.1
      go_wp2_with fail
      refine (spoilE_core base cb bv n x w3 H3.out.d HX.out.2).mono ?_
      rintro e w4 ⟨y, rfl, hy, hd4⟩
      have H4 : Hid (LInv base cb bv n Wb g cp r.es w4 ∧ y.small) := ⟨H3.out.call hd4, hy⟩
      clear hd4 hy c0 c1 c2 c3 c4 c5
      obtain ⟨⟨c0, c1, c2, c3, c4, c5⟩, f1⟩ := H4.out.1.at6 i x HX.out.1
      have f00 := f1 (i * 6)
      have f01 := f1 (i * 6 + 1)
      have f02 := f1 (i * 6 + 2)
      have f03 := f1 (i * 6 + 3)
      have f04 := f1 (i * 6 + 4)
      have f05 := f1 (i * 6 + 5)
      obtain ⟨W5, hW5⟩ : ∃ W5 : World, W5 = ((((((w4.setCell ⟨g, i * 6, none⟩ (.string y.row)).setCell ⟨g, i * 6 + 1, none⟩ (.string y.fam)).setCell ⟨g, i * 6 + 2, none⟩ (.string y.qual)).setCell ⟨g, i * 6 + 3, none⟩ (.int .u64 y.ts)).setCell ⟨g, i * 6 + 4, none⟩ (.int .i64 y.kind)).setCell ⟨g, i * 6 + 5, none⟩ (.string y.val)) := ⟨_, rfl⟩
      have H5 : Hid (LInv base cb bv n Wb g cp (r.es.set i y) W5) := by show LInv base cb bv n Wb g cp (r.es.set i y) W5; rw [hW5]; exact H4.out.1.put i x y HX.out.1 H4.out.2
      clear f1
      go_upto_region 9 with fail
      rw [← hW5]
      clear hW5 c0 c1 c2 c3 c4 c5 f00 f01 f02 f03 f04 f05 H4
      obtain ⟨rc, rf⟩ := HRs.out W5 H5.out.c
      obtain ⟨W9, hW9⟩ : ∃ W9 : World, W9 = W5.setCell ⟨w.heap.size + 1, 0, none⟩ (.slice (some ⟨g, 0, none⟩) m cp) := ⟨_, rfl⟩
      have HE : Hid (∃ r' : Rm, Ending.returned (Value.agg #[.slice (some ⟨g, 0, none⟩) m cp]) = .returned (.agg #[.slice (some ⟨r'.b, r'.off, none⟩) r'.es.length r'.cap]) ∧ SpoilOf w r.b r.es r' W9 ∧ Drew base cb bv n w W9) := by rw [hW9]; exact HFn.out _ _ (r.es.set i y) _ _ (by rw [List.length_set, HM.out]) H5.out (by omega)
      have p9 : W9.cell? ⟨w.heap.size + 1, 0, none⟩ = some (.slice (some ⟨g, 0, none⟩) m cp) := by rw [hW9]; exact World.cell?_setCell_same _ _ _ rc
      clear HFn HRs HV HR HX HZ H3
      go_wp2_with fail
      rw [← hW9]
      exact bodyPost_ret (v := .agg #[.slice (some ⟨g, 0, none⟩) m cp]) (by simp [results, Tryd.results32, go_sem, p9]) rfl HE.out
    · obtain ⟨z, hz⟩ : ∃ z, r.es[0]? = some z := ⟨_, List.getElem?_eq_getElem (by have := HM.out; omega)⟩
      have HZ0 : Hid (r.es[0]? = some z ∧ z.small) := ⟨hz, HR.out.2 z (List.mem_of_getElem? hz)⟩
      clear hz
      obtain ⟨W4, hW4⟩ : ∃ W4 : World, W4 = w3.alloc (Obj.cells #[.string z.row, .string z.fam, .string z.qual, .int .u64 z.ts, .int .i64 z.kind, .string z.val] 73) := ⟨_, rfl⟩
      obtain ⟨⟨k0, k1, k2, k3, k4, k5⟩, _⟩ := H3.out.at6 0 z HZ0.out.1
      simp only [Nat.zero_mul, Nat.zero_add] at k0 k1 k2 k3 k4 k5
      have H4 : Hid (YInv base cb bv n Wb g cp r.es w3.heap.size z W4) := by show YInv base cb bv n Wb g cp r.es w3.heap.size z W4; rw [hW4]; exact H3.out.make z
      go_upto_region 11 with fail
      rw [← hW4]
      clear hW4 k0 k1 k2 k3 k4 k5
      generalize w3.heap.size = vb at *
      obtain ⟨⟨c0, c1, c2, c3, c4, c5⟩, f1⟩ := H4.out.at6 i x HX.out.1
      obtain ⟨⟨k0, k1, k2, k3, k4, k5⟩, _⟩ := H4.out.at6 0 z HZ0.out.1
      simp only [Nat.zero_mul, Nat.zero_add] at k0 k1 k2 k3 k4 k5
      have f00 := f1 0
      have f01 := f1 1
      have f02 := f1 2
      have f03 := f1 3
      have f04 := f1 4
      have f05 := f1 5
      obtain ⟨W5, hW5⟩ : ∃ W5 : World, W5 = ((((((W4.setCell ⟨g, 0, none⟩ (.string x.row)).setCell ⟨g, 1, none⟩ (.string x.fam)).setCell ⟨g, 2, none⟩ (.string x.qual)).setCell ⟨g, 3, none⟩ (.int .u64 x.ts)).setCell ⟨g, 4, none⟩ (.int .i64 x.kind)).setCell ⟨g, 5, none⟩ (.string x.val)) := ⟨_, rfl⟩
      have H5 : Hid (YInv base cb bv n Wb g cp (r.es.set 0 x) vb z W5) := by
        have := H4.out.put 0 z x HZ0.out.1 HX.out.2
        simp only [Nat.zero_mul, Nat.zero_add] at this
        rw [← hW5] at this
        exact this
      clear f1
      go_upto_region 12 with fail
      rw [← hW5]
      clear hW5 c0 c1 c2 c3 c4 c5 k0 k1 k2 k3 k4 k5 f00 f01 f02 f03 f04 f05 H4
      obtain ⟨x2, hx2⟩ : ∃ x2, (r.es.set 0 x)[i]? = some x2 := ⟨_, List.getElem?_eq_getElem (by rw [List.length_set, HM.out]; omega)⟩
      have HX2 : Hid ((r.es.set 0 x)[i]? = some x2) := hx2
      clear hx2
      obtain ⟨⟨c0, c1, c2, c3, c4, c5⟩, f1⟩ := H5.out.at6 i x2 HX2.out
      obtain ⟨⟨k0, k1, k2, k3, k4, k5⟩, _⟩ := H5.out.cells
      have f00 := f1 (i * 6)
      have f01 := f1 (i * 6 + 1)
      have f02 := f1 (i * 6 + 2)
      have f03 := f1 (i * 6 + 3)
      have f04 := f1 (i * 6 + 4)
      have f05 := f1 (i * 6 + 5)
      obtain ⟨W6, hW6⟩ : ∃ W6 : World, W6 = ((((((W5.setCell ⟨g, i * 6, none⟩ (.string z.row)).setCell ⟨g, i * 6 + 1, none⟩ (.string z.fam)).setCell ⟨g, i * 6 + 2, none⟩ (.string z.qual)).setCell ⟨g, i * 6 + 3, none⟩ (.int .u64 z.ts)).setCell ⟨g, i * 6 + 4, none⟩ (.int .i64 z.kind)).setCell ⟨g, i * 6 + 5, none⟩ (.string z.val)) := ⟨_, rfl⟩
      have H6 : Hid (LInv base cb bv n Wb g cp ((r.es.set 0 x).set i z) W6) := by show LInv base cb bv n Wb g cp ((r.es.set 0 x).set i z) W6; rw [hW6]; exact H5.out.toLInv.put i x2 z HX2.out HZ0.out.2
      clear f1
      go_upto_region 13 with fail
      rw [← hW6]
      clear hW6 c0 c1 c2 c3 c4 c5 k0 k1 k2 k3 k4 k5 f00 f01 f02 f03 f04 f05 H5 HX2 HZ0
      obtain ⟨rc, rf⟩ := HRs.out W6 H6.out.c
      obtain ⟨W9, hW9⟩ : ∃ W9 : World, W9 = W6.setCell ⟨w.heap.size + 1, 0, none⟩ (.slice (some ⟨g, 0, none⟩) m cp) := ⟨_, rfl⟩
      have HE : Hid (∃ r' : Rm, Ending.returned (Value.agg #[.slice (some ⟨g, 0, none⟩) m cp]) = .returned (.agg #[.slice (some ⟨r'.b, r'.off, none⟩) r'.es.length r'.cap]) ∧ SpoilOf w r.b r.es r' W9 ∧ Drew base cb bv n w W9) := by rw [hW9]; exact HFn.out _ _ ((r.es.set 0 x).set i z) _ _ (by rw [List.length_set, List.length_set, HM.out]) H6.out (by omega)
      have p9 : W9.cell? ⟨w.heap.size + 1, 0, none⟩ = some (.slice (some ⟨g, 0, none⟩) m cp) := by rw [hW9]; exact World.cell?_setCell_same _ _ _ rc
      clear HFn HRs HV HR HX HZ H3
      go_wp2_with fail
      rw [← hW9]
      exact bodyPost_ret (v := .agg #[.slice (some ⟨g, 0, none⟩) m cp]) (by simp [results, Tryd.results32, go_sem, p9]) rfl HE.out
    · obtain ⟨⟨c0, c1, c2, c3, c4, c5⟩, _⟩ := H3.out.at6 i x HX.out.1
      have hgX := H3.out.row.lt
      have hsX := H3.out.c.size
      have HKl : Hid (m = r.es.length) := HM.out.symm
      have HN2 : Hid (m ≤ 200) := HN.out.2.2.2.2.2.1
      go_wp2_with (at_builtin; refine wpList_append_ent _ rfl _ _ rfl Wb.heap.size g cp _ _ r.es x rfl rfl HKl.out ?hO ?hc ?hl ?hb ?_)
      case hO => exact H3.out.row.below ((Below.refl _ _).alloc (Nat.le_refl _) _) (by omega)
      case hc => exact ent_new w3 x
      case hl => rw [← HKl.out]; have := HN2.out; omega
      case hb => first | (simp; omega) | omega
      intro g' cp' w4 hO' hgr
      have H6 : Hid (LInv base cb bv n Wb g' cp' (r.es ++ [x]) w4) := H3.out.push HX.out.2 hO' hgr
      clear hO' hgr c0 c1 c2 c3 c4 c5 hgX hsX HKl
      obtain ⟨rc, rf⟩ := HRs.out w4 H6.out.c
      obtain ⟨W9, hW9⟩ : ∃ W9 : World, W9 = w4.setCell ⟨w.heap.size + 1, 0, none⟩ (.slice (some ⟨g', 0, none⟩) (m + 1) cp') := ⟨_, rfl⟩
      have HE : Hid (∃ r' : Rm, Ending.returned (Value.agg #[.slice (some ⟨g', 0, none⟩) (m + 1) cp']) = .returned (.agg #[.slice (some ⟨r'.b, r'.off, none⟩) r'.es.length r'.cap]) ∧ SpoilOf w r.b r.es r' W9 ∧ Drew base cb bv n w W9) := by rw [hW9]; exact HFn.out _ _ (r.es ++ [x]) _ _ (by simp [HM.out]) H6.out (by omega)
      have p9 : W9.cell? ⟨w.heap.size + 1, 0, none⟩ = some (.slice (some ⟨g', 0, none⟩) (m + 1) cp') := by rw [hW9]; exact World.cell?_setCell_same _ _ _ rc
      clear HFn HRs HV HR HX HZ H3
      go_wp2_with fail
      rw [← hW9]
      exact bodyPost_ret (v := .agg #[.slice (some ⟨g', 0, none⟩) (m + 1) cp']) (by simp [results, Tryd.results32, go_sem, p9]) rfl HE.out
    · go_wp2_with fail
      refine (below_core base cb bv n 3 w3 H3.out.d (by omega) (by omega)).mono ?_
      rintro e w4 ⟨q, rfl, hq0, hq1, hd4⟩
      have H4 : Hid (LInv base cb bv n Wb g cp r.es w4 ∧ 0 ≤ q ∧ q < 3) := ⟨H3.out.call hd4, hq0, hq1⟩
      clear hd4 hq0 hq1
      have H5 : Hid (LInv base cb bv n Wb g cp (r.es.set i { x with kind := q }) (w4.setCell ⟨g, i * 6 + 4, none⟩ (.int .i64 q))) := H4.out.1.set i 4 x { x with kind := q } (.int .i64 q) HX.out.1 (by omega) rfl ⟨HX.out.2.row, HX.out.2.fam, HX.out.2.qual, HX.out.2.val, HX.out.2.ts, by have := H4.out.2; show 0 ≤ q ∧ q ≤ 3; omega⟩
      have HX2 : Hid ((r.es.set i { x with kind := q })[i]? = some { x with kind := q }) := by show (r.es.set i { x with kind := q })[i]? = some { x with kind := q }; rw [List.getElem?_set_self (by have := HM.out; omega)]
      obtain ⟨⟨c0, c1, c2, c3, c4, c5⟩, f1⟩ := H4.out.1.at6 i x HX.out.1
      have f04 := f1 (i * 6 + 4)
      obtain ⟨W5, hW5⟩ : ∃ W5 : World, W5 = w4.setCell ⟨g, i * 6 + 4, none⟩ (.int .i64 q) := ⟨_, rfl⟩
      rw [← hW5] at H5
      clear f1
      go_upto_region 17 with fail
      rw [← hW5]
      clear hW5 c0 c1 c2 c3 c4 c5 f04
      obtain ⟨⟨c0, c1, c2, c3, c4, c5⟩, f1⟩ := H5.out.at6 i _ HX2.out
      have f05 := f1 (i * 6 + 5)
      obtain ⟨W6, hW6⟩ : ∃ W6 : World, W6 = W5.setCell ⟨g, i * 6 + 5, none⟩ (.string ⟨#[]⟩) := ⟨_, rfl⟩
      have H6 : Hid (LInv base cb bv n Wb g cp ((r.es.set i { x with kind := q }).set i { x with kind := q, val := ⟨#[]⟩ }) W6) := by
        show LInv base cb bv n Wb g cp ((r.es.set i { x with kind := q }).set i { x with kind := q, val := ⟨#[]⟩ }) W6
        rw [hW6]
        exact H5.out.set i 5 _ { x with kind := q, val := ⟨#[]⟩ } (.string ⟨#[]⟩) HX2.out (by omega) rfl ⟨HX.out.2.row, HX.out.2.fam, HX.out.2.qual, by show (0 : Nat) ≤ 1000; omega, HX.out.2.ts, by have := H4.out.2; show 0 ≤ q ∧ q ≤ 3; omega⟩
      clear f1
      go_upto_region 18 with fail
      rw [← hW6]
      clear hW6 c0 c1 c2 c3 c4 c5 f05 H5 HX2 H4
      obtain ⟨rc, rf⟩ := HRs.out W6 H6.out.c
      obtain ⟨W9, hW9⟩ : ∃ W9 : World, W9 = W6.setCell ⟨w.heap.size + 1, 0, none⟩ (.slice (some ⟨g, 0, none⟩) m cp) := ⟨_, rfl⟩
      have HE : Hid (∃ r' : Rm, Ending.returned (Value.agg #[.slice (some ⟨g, 0, none⟩) m cp]) = .returned (.agg #[.slice (some ⟨r'.b, r'.off, none⟩) r'.es.length r'.cap]) ∧ SpoilOf w r.b r.es r' W9 ∧ Drew base cb bv n w W9) := by rw [hW9]; exact HFn.out _ _ ((r.es.set i { x with kind := q }).set i { x with kind := q, val := ⟨#[]⟩ }) _ _ (by rw [List.length_set, List.length_set, HM.out]) H6.out (by omega)
      have p9 : W9.cell? ⟨w.heap.size + 1, 0, none⟩ = some (.slice (some ⟨g, 0, none⟩) m cp) := by rw [hW9]; exact World.cell?_setCell_same _ _ _ rc
      clear HFn HRs HV HR HX HZ H3
      go_wp2_with fail
      rw [← hW9]
      exact bodyPost_ret (v := .agg #[.slice (some ⟨g, 0, none⟩) m cp]) (by simp [results, Tryd.results32, go_sem, p9]) rfl HE.out
end Go.Proofs.YtlgeffinhbodeacDoor

/-
  spec.l2Entries: the walk.
-/
namespace Go.Proofs.YtlgeffinhbodeacDoor
open Go.ChangeShapes Go.WideShapes Go.ChangeAt Go.RowKit Go.Deep
set_option linter.unusedVariables false
set_option linter.unusedSimpArgs false
set_option maxRecDepth 100000

abbrev Blk.v (k : Blk) : Value := .agg #[.int .i64 (k.fr : Int), .int .i64 (k.til : Int), .int .i64 (k.count : Int), .string k.row]
/-- What l2Entries hands back. -/
def EntPost (w : World) (xs : List UInt8) (k : Blk) (r : Ending) (w' : World) : Prop :=
  ∃ (g cp : Nat) (err : Int) (l : List Ent), r = .returned (.tuple #[.int .i64 err, .slice (some ⟨g, 0, none⟩) l.length cp]) ∧ (err, l) = blkM xs k ∧ OwnE w' w.heap.size g cp l ∧ (∀ e ∈ l, e.ok) ∧ Below w.heap.size w w'

/-- The reader's box and the row of entries. -/
structure JS (w0 : World) (R : Nat) (vs : List Value) (g cp : Nat) (l : List Ent) (wr : World) : Prop where
  box : BoxAt wr w0.heap.size 84 3 R vs
  row : OwnE wr w0.heap.size g cp l
  ne : ¬ R = g
  below : Below w0.heap.size w0 wr
theorem JS.call {w0 : World} {R : Nat} {vs : List Value} {g cp : Nat} {l : List Ent} {wr w1 : World} (h : JS w0 R vs g cp l wr) (hb : Below wr.heap.size wr w1) : JS w0 R vs g cp l w1 :=
  ⟨h.box.below hb, h.row.below hb h.row.lt.2, h.ne, h.below.trans (hb.mono h.below.size)⟩
theorem OwnE.chg' {S : Nat → Prop} {w w' : World} {base g cp : Nat} {l : List Ent} (h : OwnE w base g cp l) (hc : Chg S w w') (hn : ¬ S g) : OwnE w' base g cp l := own_chg h hc (fun k q => by simp [Value.ownBlock] at q; subst q; exact hn)
theorem JS.set3 {w0 : World} {R : Nat} {vs : List Value} {g cp : Nat} {l : List Ent} {wr : World} (h : JS w0 R vs g cp l wr) (x y z : Value) : JS w0 R [x, y, z] g cp l (set3 wr R x y z) := by
  have hc : Chg (fun k => k = R) wr (Go.Proofs.YtlgeffinhbodeacDoor.set3 wr R x y z) := ((Chg.of_set wr R 0 x (S := fun q => q = R) rfl).trans (Chg.of_set _ R 1 y (S := fun q => q = R) rfl)).trans (Chg.of_set _ R 2 z (S := fun q => q = R) rfl)
  exact ⟨h.box.set3 x y z, h.row.chg' hc (fun q => h.ne q.symm), h.ne, below_set3 h.below h.box.lt.1 x y z⟩
/-- .. beside a variable of the round's. -/
theorem JS.beside {w0 : World} {R : Nat} {vs : List Value} {g cp : Nat} {l : List Ent} {wr : World} (h : JS w0 R vs g cp l wr) {E : Nat} (h1 : ¬ R = E) (h2 : ¬ g = E) (h3 : w0.heap.size ≤ E) (j : Nat) (u : Value) : JS w0 R vs g cp l (wr.setCell ⟨E, j, none⟩ u) :=
  ⟨h.box.beside h1 j u, h.row.chg' (Chg.of_set wr E j u (S := fun q => q = E) rfl) h2, h.ne, below_set h.below h3 j u⟩
theorem JS.app {w0 : World} {R : Nat} {vs : List Value} {g cp g' cp' : Nat} {l l' : List Ent} {wr w1 : World} (h : JS w0 R vs g cp l wr) (hO : OwnE w1 w0.heap.size g' cp' l') (hgr : wr.grownBy w1 (some g)) (hat : g' = g ∨ g' = wr.heap.size) : JS w0 R vs g' cp' l' w1 := by
  have hi := h.box.lt
  have hn := h.ne
  exact ⟨h.box.chg (Chg.of_grown hgr (S := fun k => k = g) (fun k hk => by cases hk; rfl)) hn, hO, by omega, h.below.grown hgr h.below.size (fun k hk => by cases hk; exact h.row.lt.1)⟩

theorem wpList_append_entA {ops : Array Oper} {rest : List Oper} {o : Oper} {a : Act} {Q : Exit → Act → World → Prop} (w : World) (hgd : o.guard = none) (s x : Operand)
    (ho : o.op = .call { callee := .builtin .append, args := #[s, x], argTypes := #[23, 23] })
    (base g cp n b m cx : Nat) (fs es : List Ent) (hs : a.eval s = .slice (some ⟨g, 0, none⟩) n cp) (hx : a.eval x = .slice (some ⟨b, 0, none⟩) m cx) (hn : n = fs.length) (hm : m = es.length) (hO : OwnE w base g cp fs)
    (hc : EntsAt w b 0 es) (hlen : fs.length + es.length ≤ 2 ^ 30) (hbase : base ≤ w.heap.size)
    (h : ∀ g' cp' w', OwnE w' base g' cp' (fs ++ es) → w.grownBy w' (some g) → (g' = g ∨ g' = w.heap.size) → wpList Tryd.prog ops Q rest (a.put o.dst (.slice (some ⟨g', 0, none⟩) (n + m) cp')) w') : wpList Tryd.prog ops Q (o :: rest) a w := by
  subst hn hm
  obtain ⟨i, hi, hz0, hz1, hz2⟩ := info_parts Tryd.infoEnt
  refine wpList_append_own_at w hgd s x 23 ho base 73 i _ 6 80 Tryd.underlying23 hi hz0 hz1 hz2 rfl (by decide) (.slice (some ⟨g, 0, none⟩) fs.length cp) fs.length (cellsE fs) hs hO ⟨b, 0, none⟩ es.length cx (cellsE es) hx (length_cellsE es) (cells_of_ents hc) (one_cells es) ?_ ?_ hbase ?_
  · unfold maxLen; omega
  · omega
  · intro v' w' hO' hgr hnil hat
    rcases hO'.2 with ⟨h0, _⟩ | ⟨g', cap', cur, hv, _, _, hn, hcap, _, _⟩
    · have := (hnil.1 h0).1
      cases this
    · subst hv
      refine h g' cap' w' ?_ hgr ?_
      · unfold OwnE
        rw [List.length_append, cellsE_append]
        exact hO'
      · simp [Value.ownBlock] at hat
        exact hat
theorem ok_of_read {e : Ent} (hv : e.vld = true) (h0 : 0 ≤ e.ts) (h1 : e.ts < 18446744073709551616) : e.ok := by
  obtain ⟨v1, v2, v3, v4, v5, v6, v7, v8⟩ := vld_parts hv
  refine ⟨by unfold maxLen; omega, by unfold maxLen; omega, by unfold maxLen; omega, by unfold maxLen; omega, ?_, ?_⟩
  · simp only [Lit.wf, Bool.and_eq_true, decide_eq_true_eq]
    have h1 : IntKind.u64.min = 0 := rfl
    have h2 : IntKind.u64.max = 18446744073709551615 := rfl
    omega
  · simp only [Lit.wf, Bool.and_eq_true, decide_eq_true_eq]
    have h1 : IntKind.i64.min = -9223372036854775808 := rfl
    have h2 : IntKind.i64.max = 9223372036854775807 := rfl
    omega
/-- The first two fields of an entry, read. -/
theorem entRead1 {xs before : List UInt8} {i i1 i2 n : Nat} {b1 b2 : Bool} {rest : ByteArray} (h1 : GotNum xs i false i1 b1 n) (h2 : GotStr xs i1 b1 i2 b2 rest) (h : b2 = true ∨ before.length < n) : getEnt before (xs.drop i) = none := by
  unfold getEnt
  cases b1 with
  | true => rw [gotNum_none h1]
  | false =>
    rw [(gotNum_bad h1).2]
    simp only []
    cases b2 with
    | true => rw [gotStr_none h2]
    | false =>
      rw [(gotStr_good h2).2]
      simp only []
      rw [if_pos (by rcases h with h | h; cases h; exact h)]
/-- .. and the others. -/
theorem entRead2 {xs before : List UInt8} {i i1 i2 i3 i4 i5 i6 i7 n ts kind : Nat} {b1 b3 b4 b5 b6 b7 : Bool} {rest fam qual val : ByteArray} (h1 : GotNum xs i false i1 b1 n) (h2 : GotStr xs i1 b1 i2 false rest) (hn : ¬ before.length < n)
    (h3 : GotStr xs i2 false i3 b3 fam) (h4 : GotStr xs i3 b3 i4 b4 qual) (h5 : GotNum xs i4 b4 i5 b5 ts) (h6 : GotNum xs i5 b5 i6 b6 kind) (h7 : GotStr xs i6 b6 i7 b7 val) :
    (b7 = true → getEnt before (xs.drop i) = none) ∧ (b7 = false → getEnt before (xs.drop i) =
      if 2 < kind ∨ ¬ shared before (before.take n ++ bl rest) = n ∨ (⟨ba (before.take n ++ bl rest), fam, qual, (ts : Int), (kind : Int), val⟩ : Ent).vld = false then none
      else some (⟨ba (before.take n ++ bl rest), fam, qual, (ts : Int), (kind : Int), val⟩, xs.drop i7)) := by
  obtain ⟨rfl, q2⟩ := gotStr_good h2
  obtain ⟨_, q1⟩ := gotNum_bad h1
  constructor
  · rintro rfl
    unfold getEnt
    rw [q1]
    simp only []
    rw [q2]
    simp only []
    rw [if_neg hn]
    cases b3 with
    | true => rw [gotStr_none h3]
    | false =>
      rw [(gotStr_good h3).2]
      simp only []
      cases b4 with
      | true => rw [gotStr_none h4]
      | false =>
        rw [(gotStr_good h4).2]
        simp only []
        cases b5 with
        | true => rw [gotNum_none h5]
        | false =>
          rw [(gotNum_bad h5).2]
          simp only []
          cases b6 with
          | true => rw [gotNum_none h6]
          | false =>
            rw [(gotNum_bad h6).2]
            simp only []
            rw [gotStr_none h7]
  · rintro rfl
    obtain ⟨rfl, q7⟩ := gotStr_good h7
    obtain ⟨rfl, q6⟩ := gotNum_bad h6
    obtain ⟨rfl, q5⟩ := gotNum_bad h5
    obtain ⟨rfl, q4⟩ := gotStr_good h4
    obtain ⟨_, q3⟩ := gotStr_good h3
    unfold getEnt
    rw [q1]
    simp only []
    rw [q2]
    simp only []
    rw [if_neg hn, q3]
    simp only []
    rw [q4]
    simp only []
    rw [q5]
    simp only []
    rw [q6]
    simp only []
    rw [q7]
    simp only [ba_bl]
set_option maxHeartbeats 5000000 in
theorem l2Entries_core (b off cap : Nat) (xs : List UInt8) (k : Blk) (w : World) (hx : BysAt w b off xs) (hb : b < w.heap.size) (hlen : xs.length ≤ 2 ^ 30) (hcap : xs.length ≤ cap) (hcm : cap ≤ maxLen) (hk : k.in xs.length) :
    Calls Tryd.prog 18 #[.slice (some ⟨b, off, none⟩) xs.length cap, k.v] w fun r w' => EntPost w xs k r w' := by
  obtain ⟨fr, til, count, row⟩ := k
  obtain ⟨h1, h2, h3, h4, h5⟩ := hk
  simp only [] at h1 h2 h3 h4 h5
  obtain ⟨W1, hW1⟩ : ∃ W1 : World, W1 = w.alloc (Obj.cells #[.int .i64 (fr : Int), .int .i64 (til : Int), .int .i64 (count : Int), .string row] 46) := ⟨_, rfl⟩
  have hb1 : Below w.heap.size w W1 := by rw [hW1]; exact (Below.refl _ _).alloc (Nat.le_refl _) _
  have z1 : W1.heap.size = w.heap.size + 1 := by rw [hW1]; simp
  have HK : Hid (W1.cell? ⟨w.heap.size, 0, none⟩ = some (.int .i64 (fr : Int)) ∧ W1.cell? ⟨w.heap.size, 1, none⟩ = some (.int .i64 (til : Int)) ∧ W1.cell? ⟨w.heap.size, 2, none⟩ = some (.int .i64 (count : Int)) ∧ W1.cell? ⟨w.heap.size, 3, none⟩ = some (.string row)) := by
    rw [hW1]; refine ⟨?_, ?_, ?_, ?_⟩ <;> simp
  have HX1 : Hid (BysAt W1 b off xs) := hx.below hb1 hb
  obtain ⟨N, hN⟩ : ∃ N : Nat, xs.length = N := ⟨_, rfl⟩
  have HN : Hid (xs.length = N) := hN
  have HCm : Hid (cap ≤ maxLen) := hcm
  rw [hN] at hlen hcap h3 ⊢
  clear hx hN hcm
  obtain ⟨m, hm⟩ : ∃ m : Nat, m = til - fr := ⟨_, rfl⟩
  have hmi : fr + m = til := by omega
  obtain ⟨bd, hbd⟩ : ∃ bd, bd = (xs.drop fr).take m := ⟨_, rfl⟩
  have hbdl : bd.length = m := by rw [hbd, List.length_take, List.length_drop, HN.out]; omega
  have HBd : Hid (bd = (xs.drop fr).take m ∧ bd.length = m ∧ m = til - fr) := ⟨hbd, hbdl, hm⟩
  have HXw : Hid (∀ w' : World, Below W1.heap.size W1 w' → BysAt w' b (off + fr) bd ∧ BysAt w' b off xs) := fun w' h => ⟨by rw [hbd]; exact bys_sub (HX1.out.below h (by omega)) fr m, HX1.out.below h (by omega)⟩
  have HKw : Hid (∀ w' : World, Below W1.heap.size W1 w' → w'.cell? ⟨w.heap.size, 1, none⟩ = some (.int .i64 (til : Int)) ∧ w'.cell? ⟨w.heap.size, 2, none⟩ = some (.int .i64 (count : Int)) ∧ w'.cell? ⟨w.heap.size, 3, none⟩ = some (.string row)) := by
    intro w' h
    have hlt : w.heap.size < W1.heap.size := by omega
    rw [h.cell (p := ⟨w.heap.size, 1, none⟩) hlt, h.cell (p := ⟨w.heap.size, 2, none⟩) hlt, h.cell (p := ⟨w.heap.size, 3, none⟩) hlt]
    exact HK.out.2
  clear hbd hm hbdl
  have y1 : (fr : Int) ≤ (til : Int) := by omega
  have y2 : (til : Int) ≤ (cap : Int) := by omega
  have y3 : ¬ fr = cap := by omega
  obtain ⟨W2, hW2⟩ : ∃ W2 : World, W2 = W1.alloc (Obj.cells #[] 73) := ⟨_, rfl⟩
  have hb2 : Below W1.heap.size W1 W2 := by rw [hW2]; exact (Below.refl _ _).alloc (Nat.le_refl _) _
  have z2 : W2.heap.size = W1.heap.size + 1 := by rw [hW2]; simp
  have HO2 : Hid (OwnE W2 W1.heap.size W1.heap.size 0 []) := by
    rw [hW2]; exact World.ownsRow_made W1 #[] 0 (Nat.le_refl _) (Nat.zero_le _) (by simp)
  go_enter Tryd.func18, Tryd.ntmps18
  go_upto_region 1 with fail
  rw [← hW1]
  clear hW1
  obtain ⟨q0, q1, _⟩ := HK.out
  go_upto_region 3 with fail
  rw [← hW2]
  clear hW2 q0 q1
  rw [← HBd.out.2.2]
  obtain ⟨g0, hg0⟩ : ∃ g0 : Nat, g0 = w.heap.size + 1 := ⟨_, rfl⟩
  rw [← hg0]
  rw [z1, ← hg0] at HO2
  have HG0 : Hid (g0 = w.heap.size + 1) := hg0
  clear hg0
  obtain ⟨c2, hc2⟩ : ∃ c2 : Nat, c2 = cap - fr := ⟨_, rfl⟩
  have hc2m : m ≤ c2 := by omega
  rw [← hc2]
  clear hc2 y1 y2 y3
  obtain ⟨cx, hcx⟩ : ∃ c : Nat, (crc bd).toNat = c := ⟨_, rfl⟩
  have hcx2 : cx < 4294967296 := by rw [← hcx]; exact (crc bd).isLt
  have HCx : Hid ((crc bd).toNat = cx) := hcx
  obtain ⟨fx, hfxd⟩ : ∃ c : Nat, fixAt xs til = c := ⟨_, rfl⟩
  have hfx2 : fx < 4294967296 := by rw [← hfxd]; exact fixAt_lt _ _
  have HFx : Hid (fixAt xs til = fx) := hfxd
  have HCrc : Hid (∀ w' : World, Below W1.heap.size W1 w' → Calls Tryd.prog 45 #[.slice (some ⟨b, off + fr, none⟩) m c2] w' fun e w'' => e = .returned (.int .u32 (cx : Int)) ∧ w'' = w') := by
    intro w' h
    have := specCrc_core b (off + fr) c2 bd w' (HXw.out w' h).1 (by rw [HBd.out.2.1]; unfold maxLen; omega)
    rw [HBd.out.2.1, hcx] at this
    exact this
  have HFix : Hid (∀ w' : World, Below W1.heap.size W1 w' → Calls Tryd.prog 44 #[.slice (some ⟨b, off, none⟩) N cap, .int .i64 (til : Int)] w' fun e w'' => e = .returned (.int .u32 (fx : Int)) ∧ Below w'.heap.size w' w'') := by
    intro w' h
    have := l2GetFixed_core b off cap xs til w' (HXw.out w' h).2 (by rw [HN.out]; exact hlen) (by rw [HN.out]; omega)
    rw [HN.out, hfxd] at this
    exact this
  clear hcx hfxd
  have sz2 := hb2.size
  go_cut [33] (fun s wx => ∃ c : Bool, s = .bool c ∧ (c = true ↔ ¬ cx = fx) ∧ Below W2.heap.size W2 wx)
  case first =>
    have k1 : W2.cell? ⟨w.heap.size, 1, none⟩ = some (.int .i64 (til : Int)) := (HKw.out W2 hb2).1
    have kb : Below W1.heap.size W1 W2 := hb2
    have kc : Below W2.heap.size W2 W2 := Below.refl _ _
    go_region_with (first
      | (go_at_call 45; refine (HCrc.out _ ?hB).mono ?_; (case hB => (repeat (first | assumption | refine Below.drew ?_))); rintro e1 w1' ⟨rfl, hw1'⟩; rw [hw1']; clear hw1' w1')
      | (go_at_call 44; refine (HFix.out _ ?hB).mono ?_; (case hB => (repeat (first | assumption | refine Below.drew ?_))); rintro e2 w2' ⟨rfl, hw2'⟩; have hz2' : Below W2.heap.size W2 w2' := (Below.drew kc).trans hw2'; clear hw2'))
    all_goals go_wp2_with fail
    all_goals go_meet
    all_goals exact ⟨_, rfl, by rw [bne_iff_ne]; omega, hz2'⟩
  case rest =>
  obtain ⟨c, rfl, hc, hbc⟩ := hcut
  have sc := hbc.size
  have kw : Below w.heap.size w wc := (hb1.trans (hb2.mono (by omega))).trans (hbc.mono (by omega))
  have k1 : Below W1.heap.size W1 wc := hb2.trans (hbc.mono sz2)
  have HOc : Hid (OwnE wc W1.heap.size g0 0 []) := by
    have h := HO2.out.below hbc (by have := HG0.out; omega)
    rw [HG0.out, ← z1] at h
    rw [HG0.out, ← z1]
    exact h
  clear HO2 hbc HCrc HFix
  cases c with
  | true =>
    have HI : Hid (blkM xs ⟨fr, til, count, row⟩ = (2, [])) := by
      show blkM xs ⟨fr, til, count, row⟩ = (2, [])
      unfold blkM
      simp only []
      rw [← HBd.out.2.2, ← HBd.out.1, HCx.out, HFx.out, if_pos (hc.1 rfl)]
    clear hc
    go_wp2_with fail
    go_ret2
    exact ⟨g0, 0, 2, [], rfl, HI.out.symm, OwnE.mono HOc.out (by omega), fun e he => by simp at he, kw⟩
  | false =>
  have hsum : cx = fx := Decidable.not_not.1 (fun q => by have := hc.2 q; cases this)
  have HI0 : Hid (blkM xs ⟨fr, til, count, row⟩ = entEnd (bl row) (getEnts count [] bd)) := by
    show blkM xs ⟨fr, til, count, row⟩ = _
    unfold blkM
    simp only []
    rw [← HBd.out.2.2, ← HBd.out.1, HCx.out, HFx.out, if_neg (fun q => q hsum)]
  clear hc hsum HCx HFx
  obtain ⟨W4, hW4⟩ : ∃ W4 : World, W4 = wc.alloc (Obj.cells #[.slice (some ⟨b, off + fr, none⟩) m c2, .int .i64 0, .bool false] 84) := ⟨_, rfl⟩
  have hb4 : Below wc.heap.size wc W4 := by rw [hW4]; exact (Below.refl _ _).alloc (Nat.le_refl _) _
  obtain ⟨R, hR⟩ : ∃ R : Nat, R = wc.heap.size := ⟨_, rfl⟩
  have HS4 : Hid (JS W1 R [.slice (some ⟨b, off + fr, none⟩) m c2, .int .i64 0, .bool false] g0 0 [] W4) := by
    refine ⟨?_, HOc.out.below hb4 (by have := HOc.out.lt; omega), by have := HOc.out.lt; omega, k1.trans (hb4.mono (by omega))⟩
    rw [hW4, hR]; exact boxAt_new wc _ (by omega) rfl
  go_upto_region 8 with fail
  rw [← hW4, ← hR]
  clear hW4 hR hb4 HOc kw k1 sc
  have HX : Hid (bd.length = m) := HBd.out.2.1
  go_loopw [7, 9, 10] (fun o s kk wr => ∃ (k i g cp : Nat) (bf : ByteArray) (l : List Ent), o = .slice (some ⟨g, 0, none⟩) l.length cp ∧ s = .string bf ∧ kk = .int .i64 (k : Int) ∧ EntsTo count bd k l (bl bf) (bd.drop i) ∧ i ≤ m ∧ bf.size ≤ 64 ∧ (∀ e ∈ l, e.ok) ∧ JS W1 R [.slice (some ⟨b, off + fr, none⟩) m c2, .int .i64 (i : Int), .bool false] g cp l wr) (fun _ _ kk _ => count - (intOf kk).toNat)
  case atStart => exact ⟨0, 0, g0, 0, ⟨#[]⟩, [], rfl, rfl, rfl, entsTo_zero _ _, Nat.zero_le _, by decide, fun e he => by simp at he, HS4.out⟩
  case round =>
    clear HS4
    obtain ⟨k, i0, g, cp, bf, l, rfl, rfl, rfl, hET, hi0, hbf, hokl, hJS⟩ := hrel
    have hkK : k ≤ count := hET.1
    have hlk : l.length ≤ 1000 := by have := hET.2.1; omega
    have HET : Hid (EntsTo count bd k l (bl bf) (bd.drop i0) ∧ ∀ e ∈ l, e.ok) := ⟨hET, hokl⟩
    have HJ : Hid (JS W1 R [.slice (some ⟨b, off + fr, none⟩) m c2, .int .i64 (i0 : Int), .bool false] g cp l wr) := hJS
    have kcnt := (HKw.out wr hJS.below).2.1
    clear hET hokl hJS
    by_cases hlt : k < count
    · have zk : (k : Int) < (count : Int) := by omega
      obtain ⟨V0, hV0⟩ : ∃ V : World, V = wr.alloc (Obj.cells #[.string ⟨#[]⟩, .string ⟨#[]⟩, .string ⟨#[]⟩, .int .u64 0, .int .i64 0, .string ⟨#[]⟩] 73) := ⟨_, rfl⟩
      obtain ⟨E, hE⟩ : ∃ E : Nat, E = wr.heap.size := ⟨_, rfl⟩
      have hRl := HJ.out.box.lt
      have hgl := HJ.out.row.lt
      have hER : ¬ E = R := by omega
      have hEg : ¬ E = g := by omega
      have hE1 : W1.heap.size ≤ E := by have := HJ.out.below.size; omega
      have HS0 : Hid (JS W1 R [.slice (some ⟨b, off + fr, none⟩) m c2, .int .i64 (i0 : Int), .bool false] g cp l V0 ∧ BoxAt V0 W1.heap.size 73 6 E [.string ⟨#[]⟩, .string ⟨#[]⟩, .string ⟨#[]⟩, .int .u64 0, .int .i64 0, .string ⟨#[]⟩]) := by
        have hbv : Below wr.heap.size wr V0 := by rw [hV0]; exact (Below.refl _ _).alloc (Nat.le_refl _) _
        refine ⟨HJ.out.call hbv, ?_⟩
        rw [hV0, hE]; exact boxAt_new wr _ (by rw [← hE]; exact hE1) rfl
      go_upto_region 14 with fail
      rw [← hV0, ← hE]
      clear hV0 hE hRl HJ kcnt
      -- n
      have r0 := HS0.out.1.box.cell (j := 0) rfl
      have r1 := HS0.out.1.box.cell (j := 1) rfl
      have r2 := HS0.out.1.box.cell (j := 2) rfl
      have sA := HS0.out.1.below.size
      have hgn := l2GetNum_core b (off + fr) c2 bd i0 false V0 (HXw.out V0 HS0.out.1.below).1 (by omega) (by rw [HX.out]; omega) (by rw [HX.out]; exact hi0)
      rw [HX.out] at hgn
      go_wp2_with fail
      clear r0 r1 r2
      refine hgn.mono ?_
      rintro r u1 ⟨i1, b1, n, rfl, hG1, hb1⟩
      rw [HX.out]
      have hi1 := hG1.1
      rw [HX.out] at hi1
      have hsz1 := hG1.2.1
      have HG1 : Hid (GotNum bd i0 false i1 b1 n) := hG1
      have HT1 : Hid (JS W1 R [.slice (some ⟨b, off + fr, none⟩) m c2, .int .i64 (i0 : Int), .bool false] g cp l u1 ∧ BoxAt u1 W1.heap.size 73 6 E [.string ⟨#[]⟩, .string ⟨#[]⟩, .string ⟨#[]⟩, .int .u64 0, .int .i64 0, .string ⟨#[]⟩]) := ⟨HS0.out.1.call hb1, HS0.out.2.below hb1⟩
      clear hG1 hb1 hgn HS0 sA
      have f0 := HT1.out.1.box.frozen 0
      have f1 := HT1.out.1.box.frozen 1
      have f2 := HT1.out.1.box.frozen 2
      have r0 := HT1.out.1.box.cell (j := 0) rfl
      have r1 := HT1.out.1.box.cell (j := 1) rfl
      have r2 := HT1.out.1.box.cell (j := 2) rfl
      obtain ⟨V1, hV1⟩ : ∃ V : World, V = set3 u1 R (.slice (some ⟨b, off + fr, none⟩) m c2) (.int .i64 (i1 : Int)) (.bool b1) := ⟨_, rfl⟩
      have HS1 : Hid (JS W1 R [.slice (some ⟨b, off + fr, none⟩) m c2, .int .i64 (i1 : Int), .bool b1] g cp l V1 ∧ BoxAt V1 W1.heap.size 73 6 E [.string ⟨#[]⟩, .string ⟨#[]⟩, .string ⟨#[]⟩, .int .u64 0, .int .i64 0, .string ⟨#[]⟩]) := by rw [hV1]; exact ⟨HT1.out.1.set3 _ _ _, HT1.out.2.beside3 hER _ _ _⟩
      unfold set3 at hV1
      go_upto_region 15 with fail
      rw [← hV1]
      clear hV1 f0 f1 f2 r0 r1 r2 HT1
      -- rest
      have r0 := HS1.out.1.box.cell (j := 0) rfl
      have r1 := HS1.out.1.box.cell (j := 1) rfl
      have r2 := HS1.out.1.box.cell (j := 2) rfl
      have sA := HS1.out.1.below.size
      have hgn := l2GetStr_core b (off + fr) c2 bd i1 b1 V1 (HXw.out V1 HS1.out.1.below).1 (by omega) (by rw [HX.out]; omega) (by rw [HX.out]; exact hc2m) (by rw [HX.out]; exact hi1)
      rw [HX.out] at hgn
      go_wp2_with fail
      clear r0 r1 r2
      refine hgn.mono ?_
      rintro r u2 ⟨i2, b2, rest, rfl, hG2, hb2⟩
      rw [HX.out]
      have hi2 := hG2.1
      rw [HX.out] at hi2
      have hsz2 := hG2.2.1
      rw [HX.out] at hsz2
      have HG2 : Hid (GotStr bd i1 b1 i2 b2 rest) := hG2
      have HT2 : Hid (JS W1 R [.slice (some ⟨b, off + fr, none⟩) m c2, .int .i64 (i1 : Int), .bool b1] g cp l u2 ∧ BoxAt u2 W1.heap.size 73 6 E [.string ⟨#[]⟩, .string ⟨#[]⟩, .string ⟨#[]⟩, .int .u64 0, .int .i64 0, .string ⟨#[]⟩]) := ⟨HS1.out.1.call hb2, HS1.out.2.below hb2⟩
      clear hG2 hb2 hgn HS1 sA
      have f0 := HT2.out.1.box.frozen 0
      have f1 := HT2.out.1.box.frozen 1
      have f2 := HT2.out.1.box.frozen 2
      have r0 := HT2.out.1.box.cell (j := 0) rfl
      have r1 := HT2.out.1.box.cell (j := 1) rfl
      have r2 := HT2.out.1.box.cell (j := 2) rfl
      obtain ⟨V2, hV2⟩ : ∃ V : World, V = set3 u2 R (.slice (some ⟨b, off + fr, none⟩) m c2) (.int .i64 (i2 : Int)) (.bool b2) := ⟨_, rfl⟩
      have HS2 : Hid (JS W1 R [.slice (some ⟨b, off + fr, none⟩) m c2, .int .i64 (i2 : Int), .bool b2] g cp l V2 ∧ BoxAt V2 W1.heap.size 73 6 E [.string ⟨#[]⟩, .string ⟨#[]⟩, .string ⟨#[]⟩, .int .u64 0, .int .i64 0, .string ⟨#[]⟩]) := by rw [hV2]; exact ⟨HT2.out.1.set3 _ _ _, HT2.out.2.beside3 hER _ _ _⟩
      unfold set3 at hV2
      go_upto_region 16 with fail
      rw [← hV2]
      clear hV2 f0 f1 f2 r0 r1 r2 HT2
      have r2 := HS2.out.1.box.cell (j := 2) rfl
      have hbf2 : (bf.size : Int) ≤ 64 := by omega
      go_cut [62] (fun s wx => ∃ c : Bool, s = .bool c ∧ (c = true ↔ b2 = true ∨ bf.size < n) ∧ wx = V2)
      case first =>
        cases b2 with
        | true =>
          go_wp2_with fail
          go_meet
          exact ⟨true, rfl, by simp, rfl⟩
        | false =>
          by_cases c1 : bf.size < n
          · have y1 : (bf.size : Int) < (n : Int) := by omega
            go_wp2_with fail
            go_meet
            exact ⟨true, rfl, by simp [c1], rfl⟩
          · have y1 : ¬ (bf.size : Int) < (n : Int) := by omega
            go_wp2_with fail
            go_meet
            exact ⟨false, rfl, by simp; omega, rfl⟩
      case rest =>
      obtain ⟨c, rfl, hc, hwc⟩ := hcut
      rw [hwc]
      clear hwc wc r2
      cases c with
      | true =>
        have HI : Hid (blkM xs ⟨fr, til, count, row⟩ = (3, [])) := by
          show blkM xs ⟨fr, til, count, row⟩ = (3, [])
          rw [HI0.out, HET.out.1.stop hlt (entRead1 HG1.out HG2.out (by rw [bl_len]; exact hc.1 rfl))]; rfl
        have sV := HS2.out.1.below.size
        have HW : Hid (OwnE (V2.alloc (Obj.cells #[] 73)) w.heap.size V2.heap.size 0 [] ∧ Below w.heap.size w (V2.alloc (Obj.cells #[] 73))) := ⟨World.ownsRow_made V2 #[] 0 (by omega) (Nat.zero_le _) (by simp), (hb1.trans (HS2.out.1.below.mono (by omega))).alloc (by omega) _⟩
        clear hc
        go_wp2_with fail
        go_ret2
        exact ⟨V2.heap.size, 0, 3, [], rfl, HI.out.symm, HW.out.1, fun e he => by simp at he, HW.out.2⟩
      | false =>
      have hcf : ¬ (b2 = true ∨ bf.size < n) := fun q => by have := hc.2 q; cases this
      have hb2f : b2 = false := by
        cases b2 with
        | true => exact absurd (.inl rfl) hcf
        | false => rfl
      subst hb2f
      have hnb : n ≤ bf.size := Nat.not_lt.1 (fun q => hcf (.inr q))
      clear hc hcf
      go_upto_region 23 with fail
      obtain ⟨rw', hrw⟩ : ∃ s : ByteArray, s = bf.extract 0 n ++ rest := ⟨_, rfl⟩
      have HRow : Hid (bl rw' = (bl bf).take n ++ bl rest) := by
        show bl rw' = _
        rw [hrw]
        show (bf.extract 0 n ++ rest).data.toList = _
        rw [ByteArray.data_append, Array.toList_append, Lib.extract_data]
        simp
      have hrsz : rw'.size ≤ 64 + m := by
        rw [← bl_len, HRow.out, List.length_append, bl_len, List.length_take]
        omega
      have HBa : Hid (ba ((bl bf).take n ++ bl rest) = rw') := by rw [← HRow.out]; exact ba_bl _
      rw [← hrw]
      clear hrw
      -- fam
      have r0 := HS2.out.1.box.cell (j := 0) rfl
      have r1 := HS2.out.1.box.cell (j := 1) rfl
      have r2 := HS2.out.1.box.cell (j := 2) rfl
      have sA := HS2.out.1.below.size
      have hgn := l2GetStr_core b (off + fr) c2 bd i2 false V2 (HXw.out V2 HS2.out.1.below).1 (by omega) (by rw [HX.out]; omega) (by rw [HX.out]; exact hc2m) (by rw [HX.out]; exact hi2)
      rw [HX.out] at hgn
      go_wp2_with fail
      clear r0 r1 r2
      refine hgn.mono ?_
      rintro r u3 ⟨i3, b3, fam, rfl, hG3, hb3⟩
      rw [HX.out]
      have hi3 := hG3.1
      rw [HX.out] at hi3
      have hsz3 := hG3.2.1
      rw [HX.out] at hsz3
      have HG3 : Hid (GotStr bd i2 false i3 b3 fam) := hG3
      have HT3 : Hid (JS W1 R [.slice (some ⟨b, off + fr, none⟩) m c2, .int .i64 (i2 : Int), .bool false] g cp l u3 ∧ BoxAt u3 W1.heap.size 73 6 E [.string ⟨#[]⟩, .string ⟨#[]⟩, .string ⟨#[]⟩, .int .u64 0, .int .i64 0, .string ⟨#[]⟩]) := ⟨HS2.out.1.call hb3, HS2.out.2.below hb3⟩
      clear hG3 hb3 hgn HS2 sA
      have f0 := HT3.out.1.box.frozen 0
      have f1 := HT3.out.1.box.frozen 1
      have f2 := HT3.out.1.box.frozen 2
      have r0 := HT3.out.1.box.cell (j := 0) rfl
      have r1 := HT3.out.1.box.cell (j := 1) rfl
      have r2 := HT3.out.1.box.cell (j := 2) rfl
      obtain ⟨V3, hV3⟩ : ∃ V : World, V = set3 u3 R (.slice (some ⟨b, off + fr, none⟩) m c2) (.int .i64 (i3 : Int)) (.bool b3) := ⟨_, rfl⟩
      have HS3 : Hid (JS W1 R [.slice (some ⟨b, off + fr, none⟩) m c2, .int .i64 (i3 : Int), .bool b3] g cp l V3 ∧ BoxAt V3 W1.heap.size 73 6 E [.string ⟨#[]⟩, .string ⟨#[]⟩, .string ⟨#[]⟩, .int .u64 0, .int .i64 0, .string ⟨#[]⟩]) := by rw [hV3]; exact ⟨HT3.out.1.set3 _ _ _, HT3.out.2.beside3 hER _ _ _⟩
      unfold set3 at hV3
      go_upto_region 24 with fail
      rw [← hV3]
      clear hV3 f0 f1 f2 r0 r1 r2 HT3
      -- qual
      have r0 := HS3.out.1.box.cell (j := 0) rfl
      have r1 := HS3.out.1.box.cell (j := 1) rfl
      have r2 := HS3.out.1.box.cell (j := 2) rfl
      have sA := HS3.out.1.below.size
      have hgn := l2GetStr_core b (off + fr) c2 bd i3 b3 V3 (HXw.out V3 HS3.out.1.below).1 (by omega) (by rw [HX.out]; omega) (by rw [HX.out]; exact hc2m) (by rw [HX.out]; exact hi3)
      rw [HX.out] at hgn
      go_wp2_with fail
      clear r0 r1 r2
      refine hgn.mono ?_
      rintro r u4 ⟨i4, b4, qual, rfl, hG4, hb4⟩
      rw [HX.out]
      have hi4 := hG4.1
      rw [HX.out] at hi4
      have hsz4 := hG4.2.1
      rw [HX.out] at hsz4
      have HG4 : Hid (GotStr bd i3 b3 i4 b4 qual) := hG4
      have HT4 : Hid (JS W1 R [.slice (some ⟨b, off + fr, none⟩) m c2, .int .i64 (i3 : Int), .bool b3] g cp l u4 ∧ BoxAt u4 W1.heap.size 73 6 E [.string ⟨#[]⟩, .string ⟨#[]⟩, .string ⟨#[]⟩, .int .u64 0, .int .i64 0, .string ⟨#[]⟩]) := ⟨HS3.out.1.call hb4, HS3.out.2.below hb4⟩
      clear hG4 hb4 hgn HS3 sA
      have f0 := HT4.out.1.box.frozen 0
      have f1 := HT4.out.1.box.frozen 1
      have f2 := HT4.out.1.box.frozen 2
      have r0 := HT4.out.1.box.cell (j := 0) rfl
      have r1 := HT4.out.1.box.cell (j := 1) rfl
      have r2 := HT4.out.1.box.cell (j := 2) rfl
      obtain ⟨V4, hV4⟩ : ∃ V : World, V = set3 u4 R (.slice (some ⟨b, off + fr, none⟩) m c2) (.int .i64 (i4 : Int)) (.bool b4) := ⟨_, rfl⟩
      have HS4 : Hid (JS W1 R [.slice (some ⟨b, off + fr, none⟩) m c2, .int .i64 (i4 : Int), .bool b4] g cp l V4 ∧ BoxAt V4 W1.heap.size 73 6 E [.string ⟨#[]⟩, .string ⟨#[]⟩, .string ⟨#[]⟩, .int .u64 0, .int .i64 0, .string ⟨#[]⟩]) := by rw [hV4]; exact ⟨HT4.out.1.set3 _ _ _, HT4.out.2.beside3 hER _ _ _⟩
      unfold set3 at hV4
      go_upto_region 25 with fail
      rw [← hV4]
      clear hV4 f0 f1 f2 r0 r1 r2 HT4
      -- ts
      have r0 := HS4.out.1.box.cell (j := 0) rfl
      have r1 := HS4.out.1.box.cell (j := 1) rfl
      have r2 := HS4.out.1.box.cell (j := 2) rfl
      have sA := HS4.out.1.below.size
      have hgn := l2GetNum_core b (off + fr) c2 bd i4 b4 V4 (HXw.out V4 HS4.out.1.below).1 (by omega) (by rw [HX.out]; omega) (by rw [HX.out]; exact hi4)
      rw [HX.out] at hgn
      go_wp2_with fail
      clear r0 r1 r2
      refine hgn.mono ?_
      rintro r u5 ⟨i5, b5, ts, rfl, hG5, hb5⟩
      rw [HX.out]
      have hi5 := hG5.1
      rw [HX.out] at hi5
      have hsz5 := hG5.2.1
      have HG5 : Hid (GotNum bd i4 b4 i5 b5 ts) := hG5
      have HT5 : Hid (JS W1 R [.slice (some ⟨b, off + fr, none⟩) m c2, .int .i64 (i4 : Int), .bool b4] g cp l u5 ∧ BoxAt u5 W1.heap.size 73 6 E [.string ⟨#[]⟩, .string ⟨#[]⟩, .string ⟨#[]⟩, .int .u64 0, .int .i64 0, .string ⟨#[]⟩]) := ⟨HS4.out.1.call hb5, HS4.out.2.below hb5⟩
      clear hG5 hb5 hgn HS4 sA
      have f0 := HT5.out.1.box.frozen 0
      have f1 := HT5.out.1.box.frozen 1
      have f2 := HT5.out.1.box.frozen 2
      have r0 := HT5.out.1.box.cell (j := 0) rfl
      have r1 := HT5.out.1.box.cell (j := 1) rfl
      have r2 := HT5.out.1.box.cell (j := 2) rfl
      obtain ⟨V5, hV5⟩ : ∃ V : World, V = set3 u5 R (.slice (some ⟨b, off + fr, none⟩) m c2) (.int .i64 (i5 : Int)) (.bool b5) := ⟨_, rfl⟩
      have HS5 : Hid (JS W1 R [.slice (some ⟨b, off + fr, none⟩) m c2, .int .i64 (i5 : Int), .bool b5] g cp l V5 ∧ BoxAt V5 W1.heap.size 73 6 E [.string ⟨#[]⟩, .string ⟨#[]⟩, .string ⟨#[]⟩, .int .u64 0, .int .i64 0, .string ⟨#[]⟩]) := by rw [hV5]; exact ⟨HT5.out.1.set3 _ _ _, HT5.out.2.beside3 hER _ _ _⟩
      unfold set3 at hV5
      go_upto_region 26 with fail
      rw [← hV5]
      clear hV5 f0 f1 f2 r0 r1 r2 HT5
      -- kind
      have r0 := HS5.out.1.box.cell (j := 0) rfl
      have r1 := HS5.out.1.box.cell (j := 1) rfl
      have r2 := HS5.out.1.box.cell (j := 2) rfl
      have sA := HS5.out.1.below.size
      have hgn := l2GetNum_core b (off + fr) c2 bd i5 b5 V5 (HXw.out V5 HS5.out.1.below).1 (by omega) (by rw [HX.out]; omega) (by rw [HX.out]; exact hi5)
      rw [HX.out] at hgn
      go_wp2_with fail
      clear r0 r1 r2
      refine hgn.mono ?_
      rintro r u6 ⟨i6, b6, kind, rfl, hG6, hb6⟩
      rw [HX.out]
      have hi6 := hG6.1
      rw [HX.out] at hi6
      have hsz6 := hG6.2.1
      have HG6 : Hid (GotNum bd i5 b5 i6 b6 kind) := hG6
      have HT6 : Hid (JS W1 R [.slice (some ⟨b, off + fr, none⟩) m c2, .int .i64 (i5 : Int), .bool b5] g cp l u6 ∧ BoxAt u6 W1.heap.size 73 6 E [.string ⟨#[]⟩, .string ⟨#[]⟩, .string ⟨#[]⟩, .int .u64 0, .int .i64 0, .string ⟨#[]⟩]) := ⟨HS5.out.1.call hb6, HS5.out.2.below hb6⟩
      clear hG6 hb6 hgn HS5 sA
      have f0 := HT6.out.1.box.frozen 0
      have f1 := HT6.out.1.box.frozen 1
      have f2 := HT6.out.1.box.frozen 2
      have r0 := HT6.out.1.box.cell (j := 0) rfl
      have r1 := HT6.out.1.box.cell (j := 1) rfl
      have r2 := HT6.out.1.box.cell (j := 2) rfl
      obtain ⟨V6, hV6⟩ : ∃ V : World, V = set3 u6 R (.slice (some ⟨b, off + fr, none⟩) m c2) (.int .i64 (i6 : Int)) (.bool b6) := ⟨_, rfl⟩
      have HS6 : Hid (JS W1 R [.slice (some ⟨b, off + fr, none⟩) m c2, .int .i64 (i6 : Int), .bool b6] g cp l V6 ∧ BoxAt V6 W1.heap.size 73 6 E [.string ⟨#[]⟩, .string ⟨#[]⟩, .string ⟨#[]⟩, .int .u64 0, .int .i64 0, .string ⟨#[]⟩]) := by rw [hV6]; exact ⟨HT6.out.1.set3 _ _ _, HT6.out.2.beside3 hER _ _ _⟩
      unfold set3 at hV6
      go_upto_region 27 with fail
      rw [← hV6]
      clear hV6 f0 f1 f2 r0 r1 r2 HT6
      -- val
      have r0 := HS6.out.1.box.cell (j := 0) rfl
      have r1 := HS6.out.1.box.cell (j := 1) rfl
      have r2 := HS6.out.1.box.cell (j := 2) rfl
      have sA := HS6.out.1.below.size
      have hgn := l2GetStr_core b (off + fr) c2 bd i6 b6 V6 (HXw.out V6 HS6.out.1.below).1 (by omega) (by rw [HX.out]; omega) (by rw [HX.out]; exact hc2m) (by rw [HX.out]; exact hi6)
      rw [HX.out] at hgn
      go_wp2_with fail
      clear r0 r1 r2
      refine hgn.mono ?_
      rintro r u7 ⟨i7, b7, val, rfl, hG7, hb7⟩
      rw [HX.out]
      have hi7 := hG7.1
      rw [HX.out] at hi7
      have hsz7 := hG7.2.1
      rw [HX.out] at hsz7
      have HG7 : Hid (GotStr bd i6 b6 i7 b7 val) := hG7
      have HT7 : Hid (JS W1 R [.slice (some ⟨b, off + fr, none⟩) m c2, .int .i64 (i6 : Int), .bool b6] g cp l u7 ∧ BoxAt u7 W1.heap.size 73 6 E [.string ⟨#[]⟩, .string ⟨#[]⟩, .string ⟨#[]⟩, .int .u64 0, .int .i64 0, .string ⟨#[]⟩]) := ⟨HS6.out.1.call hb7, HS6.out.2.below hb7⟩
      clear hG7 hb7 hgn HS6 sA
      have f0 := HT7.out.1.box.frozen 0
      have f1 := HT7.out.1.box.frozen 1
      have f2 := HT7.out.1.box.frozen 2
      have r0 := HT7.out.1.box.cell (j := 0) rfl
      have r1 := HT7.out.1.box.cell (j := 1) rfl
      have r2 := HT7.out.1.box.cell (j := 2) rfl
      obtain ⟨V7, hV7⟩ : ∃ V : World, V = set3 u7 R (.slice (some ⟨b, off + fr, none⟩) m c2) (.int .i64 (i7 : Int)) (.bool b7) := ⟨_, rfl⟩
      have HS7 : Hid (JS W1 R [.slice (some ⟨b, off + fr, none⟩) m c2, .int .i64 (i7 : Int), .bool b7] g cp l V7 ∧ BoxAt V7 W1.heap.size 73 6 E [.string ⟨#[]⟩, .string ⟨#[]⟩, .string ⟨#[]⟩, .int .u64 0, .int .i64 0, .string ⟨#[]⟩]) := by rw [hV7]; exact ⟨HT7.out.1.set3 _ _ _, HT7.out.2.beside3 hER _ _ _⟩
      unfold set3 at hV7
      go_upto_region 28 with fail
      rw [← hV7]
      clear hV7 f0 f1 f2 r0 r1 r2 HT7
      have HRd : Hid ((b7 = true → getEnt (bl bf) (bd.drop i0) = none) ∧ (b7 = false → getEnt (bl bf) (bd.drop i0) =
          if 2 < kind ∨ ¬ shared (bl bf) (bl rw') = n ∨ (⟨rw', fam, qual, (ts : Int), (kind : Int), val⟩ : Ent).vld = false then none else some (⟨rw', fam, qual, (ts : Int), (kind : Int), val⟩, bd.drop i7))) := by
        have h := entRead2 (before := bl bf) HG1.out HG2.out (by rw [bl_len]; omega) HG3.out HG4.out HG5.out HG6.out HG7.out
        rw [HBa.out, ← HRow.out] at h
        exact h
      clear HG1 HG2 HG3 HG4 HG5 HG6 HG7 HBa HRow
      have f0 := HS7.out.2.frozen 0
      have f1 := HS7.out.2.frozen 1
      have f2 := HS7.out.2.frozen 2
      have f3 := HS7.out.2.frozen 3
      have f5 := HS7.out.2.frozen 5
      have r0 := HS7.out.2.cell (j := 0) rfl
      have r1 := HS7.out.2.cell (j := 1) rfl
      have r2 := HS7.out.2.cell (j := 2) rfl
      have r3 := HS7.out.2.cell (j := 3) rfl
      have r5 := HS7.out.2.cell (j := 5) rfl
      obtain ⟨V8, hV8⟩ : ∃ V : World, V = ((((V7.setCell ⟨E, 0, none⟩ (.string rw')).setCell ⟨E, 1, none⟩ (.string fam)).setCell ⟨E, 2, none⟩ (.string qual)).setCell ⟨E, 3, none⟩ (.int .u64 (ts : Int))).setCell ⟨E, 5, none⟩ (.string val) := ⟨_, rfl⟩
      have HS8 : Hid (JS W1 R [.slice (some ⟨b, off + fr, none⟩) m c2, .int .i64 (i7 : Int), .bool b7] g cp l V8 ∧ BoxAt V8 W1.heap.size 73 6 E [.string rw', .string fam, .string qual, .int .u64 (ts : Int), .int .i64 0, .string val]) := by
        rw [hV8]
        refine ⟨?_, ?_⟩
        · have hR' : ¬ R = E := fun q => hER q.symm
          have hg' : ¬ g = E := fun q => hEg q.symm
          exact ((((HS7.out.1.beside hR' hg' hE1 0 _).beside hR' hg' hE1 1 _).beside hR' hg' hE1 2 _).beside hR' hg' hE1 3 _).beside hR' hg' hE1 5 _
        · exact ((((HS7.out.2.set 0 _).set 1 _).set 2 _).set 3 _).set 5 _
      go_upto_region 33 with fail
      rw [← hV8]
      clear hV8 f0 f1 f2 f3 f5 r0 r1 r2 r3 r5 HS7
      have r2 := HS8.out.1.box.cell (j := 2) rfl
      go_cut [117] (fun s wx => ∃ c : Bool, s = .bool c ∧ (c = true ↔ b7 = true ∨ 2 < kind ∨ ¬ shared (bl bf) (bl rw') = n) ∧ Below V8.heap.size V8 wx)
      case first =>
        cases b7 with
        | true =>
          go_wp2_with fail
          go_meet
          exact ⟨true, rfl, by simp, Below.refl _ _⟩
        | false =>
          by_cases c1 : 2 < kind
          · have y1 : (2 : Int) < (kind : Int) := by omega
            go_wp2_with fail
            go_meet
            exact ⟨true, rfl, by simp [c1], Below.refl _ _⟩
          · have y1 : ¬ (2 : Int) < (kind : Int) := by omega
            obtain ⟨sh', hsh⟩ : ∃ q : Nat, q = shared (bl bf) (bl rw') := ⟨_, rfl⟩
            have hsl : sh' ≤ 64 := by rw [hsh]; have := (shared_le (bl bf) (bl rw')).1; rw [bl_len] at this; omega
            have hcs := l2Shared_core bf rw' V8 (by unfold maxLen; omega) (by unfold maxLen; omega)
            rw [← hsh] at hcs
            have HSh : Hid (sh' = shared (bl bf) (bl rw')) := hsh
            clear hsh
            go_wp2_with fail
            refine hcs.mono ?_
            rintro e v9 ⟨rfl, hb9⟩
            clear hcs
            by_cases c2 : sh' = n
            · subst c2
              go_wp2_with fail
              go_meet
              exact ⟨false, by simp, by rw [← HSh.out]; simp; omega, hb9⟩
            · have y2 : ¬ (sh' : Int) = (n : Int) := by omega
              go_wp2_with fail
              go_meet
              exact ⟨true, by first | rfl | (simp [c2]; omega) | simp [c2], by rw [← HSh.out]; simp [c2], hb9⟩
      case rest =>
      obtain ⟨c, rfl, hc, hbc⟩ := hcut
      have HSc : Hid (JS W1 R [.slice (some ⟨b, off + fr, none⟩) m c2, .int .i64 (i7 : Int), .bool b7] g cp l wc ∧ BoxAt wc W1.heap.size 73 6 E [.string rw', .string fam, .string qual, .int .u64 (ts : Int), .int .i64 0, .string val]) := ⟨HS8.out.1.call hbc, HS8.out.2.below hbc⟩
      clear hbc HS8 r2
      have sC := HSc.out.1.below.size
      have BC := HSc.out.1.below
      cases c with
      | true =>
        have HNone : Hid (getEnt (bl bf) (bd.drop i0) = none) := by
          show getEnt (bl bf) (bd.drop i0) = none
          cases b7 with
          | true => exact HRd.out.1 rfl
          | false =>
            rw [HRd.out.2 rfl, if_pos]
            rcases hc.1 rfl with h | h | h
            · cases h
            · exact .inl h
            · exact .inr (.inl h)
        clear hc
        have HI : Hid (blkM xs ⟨fr, til, count, row⟩ = (3, [])) := by
          show blkM xs ⟨fr, til, count, row⟩ = (3, [])
          rw [HI0.out, HET.out.1.stop hlt HNone.out]; rfl
        have HW : Hid (OwnE (wc.alloc (Obj.cells #[] 73)) w.heap.size wc.heap.size 0 [] ∧ Below w.heap.size w (wc.alloc (Obj.cells #[] 73))) := ⟨World.ownsRow_made wc #[] 0 (by omega) (Nat.zero_le _) (by simp), (hb1.trans (BC.mono (by omega))).alloc (by omega) _⟩
        go_wp2_with fail
        go_ret2
        exact ⟨wc.heap.size, 0, 3, [], rfl, HI.out.symm, HW.out.1, fun e he => by simp at he, HW.out.2⟩
      | false =>
      have hcf : ¬ (b7 = true ∨ 2 < kind ∨ ¬ shared (bl bf) (bl rw') = n) := fun q => by have := hc.2 q; cases this
      have hb7f : b7 = false := by
        cases b7 with
        | true => exact absurd (.inl rfl) hcf
        | false => rfl
      subst hb7f
      have hkd : kind ≤ 2 := Nat.not_lt.1 (fun q => hcf (.inr (.inl q)))
      have hsn : shared (bl bf) (bl rw') = n := Decidable.not_not.1 (fun q => hcf (.inr (.inr q)))
      obtain ⟨en, hen⟩ : ∃ e : Ent, e = ⟨rw', fam, qual, (ts : Int), (kind : Int), val⟩ := ⟨_, rfl⟩
      have HRd2 : Hid (getEnt (bl bf) (bd.drop i0) = if en.vld = false then none else some (en, bd.drop i7)) := by
        show getEnt (bl bf) (bd.drop i0) = _
        rw [HRd.out.2 rfl, ← hen]
        by_cases q : en.vld = false
        · rw [if_pos (.inr (.inr q)), if_pos q]
        · rw [if_neg (by rintro (h | h | h); omega; exact h hsn; exact q h), if_neg q]
      have HEn : Hid (en = ⟨rw', fam, qual, (ts : Int), (kind : Int), val⟩) := hen
      clear hc hcf HRd hsn hen
      have f4 := HSc.out.2.frozen 4
      have r4 := HSc.out.2.cell (j := 4) rfl
      obtain ⟨V9, hV9⟩ : ∃ V : World, V = wc.setCell ⟨E, 4, none⟩ (.int .i64 (kind : Int)) := ⟨_, rfl⟩
      have HS9 : Hid (JS W1 R [.slice (some ⟨b, off + fr, none⟩) m c2, .int .i64 (i7 : Int), .bool false] g cp l V9 ∧ BoxAt V9 W1.heap.size 73 6 E [.string rw', .string fam, .string qual, .int .u64 (ts : Int), .int .i64 (kind : Int), .string val]) := by
        rw [hV9]
        exact ⟨HSc.out.1.beside (fun q => hER q.symm) (fun q => hEg q.symm) hE1 4 _, HSc.out.2.set 4 _⟩
      go_upto_region 36 with fail
      rw [← hV9]
      clear hV9 f4 r4 HSc sC BC
      have r0 := HS9.out.2.cell (j := 0) rfl
      have r1 := HS9.out.2.cell (j := 1) rfl
      have r2 := HS9.out.2.cell (j := 2) rfl
      have r3 := HS9.out.2.cell (j := 3) rfl
      have r4 := HS9.out.2.cell (j := 4) rfl
      have r5 := HS9.out.2.cell (j := 5) rfl
      have hvc := specValid_core rw' fam qual val (ts : Int) (kind : Int) V9 (by unfold maxLen; omega) (by unfold maxLen; omega) (by unfold maxLen; omega) (by unfold maxLen; omega)
      obtain ⟨vd, hvd⟩ : ∃ v : Bool, v = vE rw' fam qual (kind : Int) val := ⟨_, rfl⟩
      have HVd : Hid (en.vld = vd) := by rw [HEn.out, hvd]; exact rfl
      rw [← hvd] at hvc
      clear hvd
      go_wp2_with fail
      clear r0 r1 r2 r3 r4 r5
      refine hvc.mono ?_
      rintro e u10 ⟨rfl, hb10⟩
      have HS10 : Hid (JS W1 R [.slice (some ⟨b, off + fr, none⟩) m c2, .int .i64 (i7 : Int), .bool false] g cp l u10 ∧ BoxAt u10 W1.heap.size 73 6 E [.string rw', .string fam, .string qual, .int .u64 (ts : Int), .int .i64 (kind : Int), .string val]) := ⟨HS9.out.1.call hb10, HS9.out.2.below hb10⟩
      clear hvc hb10 HS9
      have sC := HS10.out.1.below.size
      have BC := HS10.out.1.below
      cases vd with
      | false =>
        have HNone : Hid (getEnt (bl bf) (bd.drop i0) = none) := by
          show getEnt (bl bf) (bd.drop i0) = none
          rw [HRd2.out, if_pos HVd.out]
        have HI : Hid (blkM xs ⟨fr, til, count, row⟩ = (3, [])) := by
          show blkM xs ⟨fr, til, count, row⟩ = (3, [])
          rw [HI0.out, HET.out.1.stop hlt HNone.out]; rfl
        have HW : Hid (OwnE (u10.alloc (Obj.cells #[] 73)) w.heap.size u10.heap.size 0 [] ∧ Below w.heap.size w (u10.alloc (Obj.cells #[] 73))) := ⟨World.ownsRow_made u10 #[] 0 (by omega) (Nat.zero_le _) (by simp), (hb1.trans (BC.mono (by omega))).alloc (by omega) _⟩
        go_wp2_with fail
        go_ret2
        exact ⟨u10.heap.size, 0, 3, [], rfl, HI.out.symm, HW.out.1, fun e he => by simp at he, HW.out.2⟩
      | true =>
        have HSome : Hid (getEnt (bl bf) (bd.drop i0) = some (en, bd.drop i7)) := by
          show getEnt (bl bf) (bd.drop i0) = _
          rw [HRd2.out, if_neg (by rw [HVd.out]; decide)]
        have r0 := HS10.out.2.cell (j := 0) rfl
        have r1 := HS10.out.2.cell (j := 1) rfl
        have r2 := HS10.out.2.cell (j := 2) rfl
        have r3 := HS10.out.2.cell (j := 3) rfl
        have r4 := HS10.out.2.cell (j := 4) rfl
        have r5 := HS10.out.2.cell (j := 5) rfl
        obtain ⟨WD, hWD⟩ : ∃ V : World, V = u10.alloc (Obj.cells #[.string rw', .string fam, .string qual, .int .u64 (ts : Int), .int .i64 (kind : Int), .string val] 73) := ⟨_, rfl⟩
        have hbD : Below u10.heap.size u10 WD := by rw [hWD]; exact (Below.refl _ _).alloc (Nat.le_refl _) _
        have zD : WD.heap.size = u10.heap.size + 1 := by rw [hWD]; simp
        have HTD : Hid (JS W1 R [.slice (some ⟨b, off + fr, none⟩) m c2, .int .i64 (i7 : Int), .bool false] g cp l WD ∧ EntsAt WD u10.heap.size 0 [en]) := by
          refine ⟨HS10.out.1.call hbD, ?_⟩
          rw [hWD, HEn.out]
          exact ent_box u10 ⟨rw', fam, qual, (ts : Int), (kind : Int), val⟩
        have sD := HTD.out.1.below.size
        clear hbD
        go_wp2_with (at_builtin; rw [← hWD]; refine wpList_append_entA _ rfl _ _ rfl W1.heap.size g cp l.length u10.heap.size 1 1 l [en] rfl rfl rfl rfl ?hO ?hc ?hl ?hb ?_)
        case hO => first | exact HTD.out.1.row | (rw [← hWD]; exact HTD.out.1.row)
        case hc => first | exact HTD.out.2 | (rw [← hWD]; exact HTD.out.2)
        case hl => first | omega | (simp; omega)
        case hb => first | exact sD | omega
        intro g' cp' wE hOE hgrE hatE
        try rw [← hWD] at hgrE
        try rw [← z1] at hOE
        have hatE2 : g' = g ∨ g' = WD.heap.size := by
          rcases hatE with h | h
          · exact .inl h
          · right
            first | exact h | (rw [h, zD])
        have HTE : Hid (JS W1 R [.slice (some ⟨b, off + fr, none⟩) m c2, .int .i64 (i7 : Int), .bool false] g' cp' (l ++ [en]) wE) := HTD.out.1.app hOE hgrE hatE2
        have HEE : Hid (EntsTo count bd (k + 1) (l ++ [en]) (bl rw') (bd.drop i7) ∧ ∀ e ∈ l ++ [en], e.ok) := by
          refine ⟨?_, ?_⟩
          · have h := HET.out.1.more hlt HSome.out
            have hr : en.row = rw' := by rw [HEn.out]
            rw [hr] at h
            exact h
          · intro e he
            rcases List.mem_append.1 he with he | he
            · exact HET.out.2 e he
            · simp at he
              subst he
              refine ok_of_read HVd.out ?_ ?_
              · rw [HEn.out]; show (0 : Int) ≤ (ts : Int); omega
              · rw [HEn.out]; show (ts : Int) < _; omega
        have hr64 : rw'.size ≤ 64 := by
          have h := (vld_parts HVd.out).2.1
          rw [HEn.out] at h
          exact h
        have hle : l.length + 1 = (l ++ [en]).length := by simp
        rw [hle]
        clear hOE hgrE hatE hatE2 hWD HTD sD zD r0 r1 r2 r3 r4 r5 HS10 HSome HRd2
        go_wp2_with fail
        go_roundw
        case rel => exact ⟨k + 1, i7, g', cp', rw', l ++ [en], by simp, rfl, by go_num, HEE.out.1, hi7, hr64, HEE.out.2, HTE.out⟩
        case measure => simp [intOf]; omega
    · obtain rfl : k = count := by omega
      have hl1 : 1 ≤ l.length := by have := HET.out.1.2.1; omega
      obtain ⟨e0, he0⟩ : ∃ e0, l[0]? = some e0 := ⟨_, List.getElem?_eq_getElem (by omega)⟩
      have hrow0 : row0 l = bl e0.row := by
        cases l with
        | nil => simp at he0
        | cons x t => simp at he0; subst he0; rfl
      have c0 : wr.cell? ⟨g, 0, none⟩ = some (.string e0.row) := by
        have := (HJ.out.row.at 0 e0 he0).1
        simpa using this
      have ks := (HKw.out wr HJ.out.below).2.2
      have r1 := HJ.out.box.cell (j := 1) rfl
      have HD : Hid (blkM xs ⟨fr, til, k, row⟩ = if bd.drop i0 ≠ [] ∨ bl e0.row ≠ bl row then (3, []) else (0, l)) := by
        show blkM xs ⟨fr, til, k, row⟩ = _
        rw [HI0.out, HET.out.1.done, ← hrow0]; rfl
      have hdr : (bd.drop i0 = []) ↔ i0 = m := by
        rw [List.drop_eq_nil_iff, HX.out]
        omega
      have HDr : Hid (((bd.drop i0 = []) ↔ i0 = m) ∧ ∀ e ∈ l, e.ok) := ⟨hdr, HET.out.2⟩
      clear hdr hrow0 he0 HET HI0
      have zl : (0 : Int) < (l.length : Int) := by omega
      go_upto_region 40 with fail
      go_cut [144] (fun s wx => ∃ c : Bool, s = .bool c ∧ (c = true ↔ ¬ i0 = m ∨ ¬ e0.row = row) ∧ Below wr.heap.size wr wx)
      case first =>
        by_cases hi : i0 = m
        · subst hi
          by_cases hr : e0.row = row
          · subst hr
            go_region
            all_goals go_wp2_with fail
            all_goals go_meet
            all_goals exact ⟨false, by simp, by simp, (Below.refl _ _).drew⟩
          · have hne : (e0.row.toList == row.toList) = false := by
              rw [beq_eq_false_iff_ne]
              exact fun q => hr (toList_inj q)
            go_region
            all_goals go_wp2_with fail
            all_goals go_meet
            all_goals exact ⟨true, by simp [hne], by simp [hr], (Below.refl _ _).drew⟩
        · have y5 : ¬ (i0 : Int) = (m : Int) := by omega
          have y6 : ((i0 : Int) != (m : Int)) = true := by rw [bne_iff_ne]; exact y5
          go_region
          all_goals go_wp2_with fail
          all_goals go_meet
          all_goals exact ⟨true, by simp, by simp [hi], (Below.refl _ _).drew⟩
      case rest =>
      obtain ⟨c, rfl, hc, hbc⟩ := hcut
      have HJc := HJ.out.call hbc
      have HJ2 : Hid (OwnE wc W1.heap.size g cp l ∧ Below W1.heap.size W1 wc) := ⟨HJc.row, HJc.below⟩
      have sC := HJc.below.size
      clear c0 ks r1 hbc HJc HJ
      cases c with
      | true =>
        have HI : Hid (blkM xs ⟨fr, til, k, row⟩ = (3, [])) := by
          show blkM xs ⟨fr, til, k, row⟩ = (3, [])
          rw [HD.out, if_pos]
          rcases hc.1 rfl with h | h
          · exact .inl (fun q => h (HDr.out.1.1 q))
          · exact .inr (fun q => h (bytes_inj q))
        have HW : Hid (OwnE (wc.alloc (Obj.cells #[] 73)) w.heap.size wc.heap.size 0 [] ∧ Below w.heap.size w (wc.alloc (Obj.cells #[] 73))) := ⟨World.ownsRow_made wc #[] 0 (by omega) (Nat.zero_le _) (by simp), (hb1.trans (HJ2.out.2.mono (by omega))).alloc (by omega) _⟩
        clear hc
        go_wp2_with fail
        go_ret2
        exact ⟨wc.heap.size, 0, 3, [], rfl, HI.out.symm, HW.out.1, fun e he => by simp at he, HW.out.2⟩
      | false =>
        have hcf : ¬ (¬ i0 = m ∨ ¬ e0.row = row) := fun q => by have := hc.2 q; cases this
        have HI : Hid (blkM xs ⟨fr, til, k, row⟩ = (0, l)) := by
          show blkM xs ⟨fr, til, k, row⟩ = (0, l)
          rw [HD.out, if_neg]
          rintro (h | h)
          · exact h (HDr.out.1.2 (Decidable.not_not.1 (fun q => hcf (.inl q))))
          · refine hcf (.inr (fun q => h (by rw [q])))
        have HW : Hid (OwnE wc w.heap.size g cp l ∧ Below w.heap.size w wc) := ⟨OwnE.mono HJ2.out.1 (by omega), hb1.trans (HJ2.out.2.mono (by omega))⟩
        clear hc hcf
        go_wp2_with fail
        go_ret2
        exact ⟨g, cp, 0, l, rfl, HI.out.symm, HW.out.1, HDr.out.2, HW.out.2⟩
end Go.Proofs.YtlgeffinhbodeacDoor

