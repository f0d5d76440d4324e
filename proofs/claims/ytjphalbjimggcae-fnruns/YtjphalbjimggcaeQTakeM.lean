/-
  (*impl.merger).take.
-/
import Derived.Test.YtjphalbjimggcaeQMgr
import Derived.Test.YtjphalbjimggcaePkAH
import Derived.Deep.RegionHeld3
import Derived.Deep.RegionLaw
namespace Go.Proofs.Ytjphalbjimggcae
open Go.ChangeShapes Go.WideShapes Go.ChangeAt Go.RowKit Go.Deep
set_option linter.unusedVariables false
set_option linter.unusedSimpArgs false
set_option maxRecDepth 100000

theorem colNe_run (e : Ent) (r f q : ByteArray) (b : Bool) (h : sameCol e ⟨r, f, q, 0, 0, ⟨#[]⟩⟩ = !b) (wx : World) : (binOp .neq 85 (.agg #[.string e.row, .string e.fam, .string e.qual]) (.agg #[.string r, .string f, .string q])).run Try.prog wx = .ok (.bool b) wx := by
  have hb : b = !(sameCol e ⟨r, f, q, 0, 0, ⟨#[]⟩⟩) := by rw [h]; simp
  rw [hb]
  unfold sameCol
  cases h1 : (e.row.toList == r.toList)
  · go_simp
  · cases h2 : (e.fam.toList == f.toList)
    · go_simp
    · cases h3 : (e.qual.toList == q.toList)
      · go_simp
      · go_simp
theorem Try.infoDel : (Try.prog.info? 132).map (fun i => (i.zero, i.size, i.bytes)) = some (some (.agg #[.int .i64 0, .int .u64 0]), 2, 16) := by kernel_rfl

/-- One cell appended, at a step of a region that draws. -/
theorem step_append_cel {ops : Array Oper} {o : Oper} {a : Act} {K : Act → World → Prop} {Q : Exit → Act → World → Prop} {E : Prop} (w : World) (hgd : o.guard = none) (s x : Operand)
    (ho : o.op = .call { callee := .builtin .append, args := #[s, x], argTypes := #[32, 32] })
    (base g cp blk : Nat) (fs : List Ent) (e : Ent) (hs : a.eval s = .slice (some ⟨g, 0, none⟩) fs.length cp) (hx : a.eval x = .slice (some ⟨blk, 0, none⟩) 1 1) (hO : OwnC w base g cp fs)
    (hc : CelsAt w blk 0 [e]) (hlen : fs.length ≤ 2 ^ 30) (hbase : base ≤ w.heap.size)
    (h : ∀ g' cp' w', OwnC w' base g' cp' (fs ++ [e]) → w.grownBy w' (some g) → (g = g' ∨ g' = w.heap.size) → K (a.put o.dst (.slice (some ⟨g', 0, none⟩) (fs.length + 1) cp')) w') : if Region.wanted o (yielded ops a.tmps) = true then Oper.wp Try.prog o a w K Q else E := by
  obtain ⟨i, hi, hz0, hz1, hz2⟩ := info_parts Try.infoCel
  obtain ⟨c0, c1, c2, c3, c4⟩ := hc 0 e rfl
  refine step_append_lies w hgd s x 32 ho base 71 i _ 5 72 Try.underlying32 hi hz0 hz1 hz2 rfl (by decide) (.slice (some ⟨g, 0, none⟩) fs.length cp) fs.length (cellsC fs) hs hO ⟨blk, 0, none⟩ 1 1 (cellsC [e]) hx rfl ?_ ?_ (by decide) ?_ ?_ hbase w.heap.size rfl ?_
  · intro j u hu
    have hj : j < 5 := by
      have := (List.getElem?_eq_some_iff.1 hu).1
      rw [length_cellsC] at this
      simpa using this
    rw [Addr.add_mid, Nat.zero_add]
    simp only [Nat.zero_mul, Nat.zero_add] at c0 c1 c2 c3 c4
    match j, hj, hu with
    | 0, _, hu => simp [cellsC] at hu; rw [← hu]; exact c0
    | 1, _, hu => simp [cellsC] at hu; rw [← hu]; exact c1
    | 2, _, hu => simp [cellsC] at hu; rw [← hu]; exact c2
    | 3, _, hu => simp [cellsC] at hu; rw [← hu]; exact c3
    | 4, _, hu => simp [cellsC] at hu; rw [← hu]; exact c4
  · intro u hu
    simp [cellsC] at hu
    rcases hu with rfl | rfl | rfl | rfl | rfl <;> rfl
  · unfold maxLen; omega
  · omega
  · intro g' cp' w' hO' hgr hat hlt
    refine h g' cp' w' ?_ hgr ?_
    · unfold OwnC
      rw [List.length_append, cellsC_append]
      exact hO'
    · rcases hat with q | q
      · exact .inl (by simpa [Value.ownBlock] using q)
      · exact .inr q

/-- One delete appended, at a step of a region that draws. -/
theorem step_append_del {ops : Array Oper} {o : Oper} {a : Act} {K : Act → World → Prop} {Q : Exit → Act → World → Prop} {E : Prop} (w : World) (hgd : o.guard = none) (s x : Operand)
    (ho : o.op = .call { callee := .builtin .append, args := #[s, x], argTypes := #[86, 86] })
    (base blk : Nat) (dv : Value) (ds : List (Nat × Int)) (ag : Nat) (t : Int) (hs : a.eval s = dv) (hx : a.eval x = .slice (some ⟨blk, 0, none⟩) 1 1) (hO : OwnD w base dv ds)
    (h0 : w.cell? ⟨blk, 0, none⟩ = some (.int .i64 ag)) (h1 : w.cell? ⟨blk, 1, none⟩ = some (.int .u64 t)) (hlen : ds.length ≤ 2 ^ 30) (hbase : base ≤ w.heap.size)
    (h : ∀ g' cp' w', OwnD w' base (.slice (some ⟨g', 0, none⟩) (ds.length + 1) cp') (ds ++ [(ag, t)]) → w.grownBy w' dv.ownBlock → (dv.ownBlock = some g' ∨ g' = w.heap.size) → K (a.put o.dst (.slice (some ⟨g', 0, none⟩) (ds.length + 1) cp')) w') : if Region.wanted o (yielded ops a.tmps) = true then Oper.wp Try.prog o a w K Q else E := by
  obtain ⟨i, hi, hz0, hz1, hz2⟩ := info_parts Try.infoDel
  refine step_append_lies w hgd s x 86 ho base 132 i _ 2 16 Try.underlying86 hi hz0 hz1 hz2 rfl (by decide) dv ds.length (cellsD ds) hs hO ⟨blk, 0, none⟩ 1 1 (cellsD [(ag, t)]) hx rfl ?_ ?_ (by decide) ?_ ?_ hbase w.heap.size rfl ?_
  · intro j u hu
    have hj : j < 2 := by
      have := (List.getElem?_eq_some_iff.1 hu).1
      rw [cellsD_len] at this
      simpa using this
    rw [Addr.add_mid, Nat.zero_add]
    match j, hj, hu with
    | 0, _, hu => simp [cellsD] at hu; rw [← hu]; exact h0
    | 1, _, hu => simp [cellsD] at hu; rw [← hu]; exact h1
  · intro u hu
    simp [cellsD] at hu
    rcases hu with rfl | rfl <;> rfl
  · unfold maxLen; omega
  · omega
  · intro g' cp' w' hO' hgr hat hlt
    refine h g' cp' w' ?_ hgr hat
    unfold OwnD
    rw [List.length_append, cellsD_append]
    exact hO'

/-- What the merger has behind 'P', with its memory. -/
structure MInv (S : Nat → Prop) (base mb : Nat) (P : List (Nat × Ent)) (w : World) (c : ByteArray × ByteArray × ByteArray) (dv : Value) (ds : List (Nat × Int)) (dec : Bool) (ts : Int) (cg cc : Nat) (L : List Ent) : Prop where
  at_ : MgAt w base mb c dv ds dec ts cg cc L
  mem : Mem P c ds dec ts
  shown : Shown P L
  out : ∀ k, Mine mb dv cg k → ¬ S k
  short : L.length ≤ P.length

def MSt (S : Nat → Prop) (base mb : Nat) (P : List (Nat × Ent)) (w : World) (c : ByteArray × ByteArray × ByteArray) : Prop := ∃ dv ds dec ts cg cc L, MInv S base mb P w c dv ds dec ts cg cc L
theorem MSt.below {S : Nat → Prop} {base mb : Nat} {P : List (Nat × Ent)} {w w' : World} {c : ByteArray × ByteArray × ByteArray} (h : MSt S base mb P w c) (hb : Below w.heap.size w w') : MSt S base mb P w' c := by
  obtain ⟨dv, ds, dec, ts, cg, cc, L, hR⟩ := h
  exact ⟨dv, ds, dec, ts, cg, cc, L, ⟨hR.at_.below hb, hR.mem, hR.shown, hR.out, hR.short⟩⟩

theorem mg_cells {w : World} {base mb : Nat} {c : ByteArray × ByteArray × ByteArray} {dv old : Value} {ds : List (Nat × Int)} {dec : Bool} {ts : Int} {cg' cc' : Nat} {L' : List Ent} (ho : OwnM w base mb [.string c.1, .string c.2.1, .string c.2.2, dv, .bool dec, .int .u64 ts, old]) (hd : OwnD w base dv ds) (hc : OwnC w base cg' cc' L') :
    MgAt (w.setCell ⟨mb, 6, none⟩ (.slice (some ⟨cg', 0, none⟩) L'.length cc')) base mb c dv ds dec ts cg' cc' L' :=
  ⟨(World.ownsRow.stored ho 6 _).1, own_chg hd (Chg.of_set (S := fun k => k = mb) w mb 6 _ rfl) (fun k hk q => own_apart hd ho (by decide) k hk (by rw [q]; rfl)), own_chg hc (Chg.of_set (S := fun k => k = mb) w mb 6 _ rfl) (fun k hk q => own_apart hc ho (by decide) k hk (by rw [q]; rfl))⟩
theorem mg_dels {w : World} {base mb : Nat} {c : ByteArray × ByteArray × ByteArray} {old dv' : Value} {ds' : List (Nat × Int)} {dec : Bool} {ts : Int} {cg cc : Nat} {L : List Ent} (ho : OwnM w base mb [.string c.1, .string c.2.1, .string c.2.2, old, .bool dec, .int .u64 ts, .slice (some ⟨cg, 0, none⟩) L.length cc]) (hd : OwnD w base dv' ds') (hc : OwnC w base cg cc L) :
    MgAt (w.setCell ⟨mb, 3, none⟩ dv') base mb c dv' ds' dec ts cg cc L :=
  ⟨(World.ownsRow.stored ho 3 _).1, own_chg hd (Chg.of_set (S := fun k => k = mb) w mb 3 _ rfl) (fun k hk q => own_apart hd ho (by decide) k hk (by rw [q]; rfl)), own_chg hc (Chg.of_set (S := fun k => k = mb) w mb 3 _ rfl) (fun k hk q => own_apart hc ho (by decide) k hk (by rw [q]; rfl))⟩
theorem put_fin {S : Nat → Prop} {base mb : Nat} {P : List (Nat × Ent)} {a : Nat} {e : Ent} {dv : Value} {ds : List (Nat × Int)} {cg cc : Nat} {L : List Ent} {w5 w6 w7 : World} {g7 cp7 : Nat} (hM : MgAt w5 base mb e.col dv ds true e.ts cg cc L) (hq : Below w5.heap.size w5 w6) (hO : OwnC w7 base g7 cp7 (L ++ [e]))
    (hgr : (w6.alloc (Obj.cells #[.string e.row, .string e.fam, .string e.qual, .int .u64 e.ts, .string e.val] 71)).grownBy w7 (some cg)) (hgg : cg = g7 ∨ g7 = (w6.alloc (Obj.cells #[.string e.row, .string e.fam, .string e.qual, .int .u64 e.ts, .string e.val] 71)).heap.size)
    (hmem : Mem (P ++ [(a, e)]) e.col ds true e.ts) (hsh : Shown (P ++ [(a, e)]) (L ++ [e])) (hout : ∀ k, Mine mb dv cg k → ¬ S k) (hin : ∀ k, S k → k < w5.heap.size) (hsl : L.length ≤ P.length) :
    MSt S base mb (P ++ [(a, e)]) (w7.setCell ⟨mb, 6, none⟩ (.slice (some ⟨g7, 0, none⟩) (L.length + 1) cp7)) e.col ∧ Chg (Mine mb dv cg) w5 (w7.setCell ⟨mb, 6, none⟩ (.slice (some ⟨g7, 0, none⟩) (L.length + 1) cp7)) := by
  have hbA : Below w6.heap.size w6 (w6.alloc (Obj.cells #[.string e.row, .string e.fam, .string e.qual, .int .u64 e.ts, .string e.val] 71)) := (Below.refl _ _).alloc (Nat.le_refl _) _
  generalize w6.alloc (Obj.cells #[.string e.row, .string e.fam, .string e.qual, .int .u64 e.ts, .string e.val] 71) = wA at *
  have hb : Below w5.heap.size w5 wA := hq.trans (hbA.mono hq.size)
  have hsA := hb.size
  have hMA := hM.below hb
  have hc7 : Chg (fun k => k = cg) wA w7 := Chg.of_grown hgr (fun k hk => by cases hk; rfl)
  have ho7 := own_chg hMA.own hc7 (fun k hk q => by simp [Value.ownBlock] at hk; subst hk; exact hMA.apart.2.1 q.symm)
  have hd7 := own_chg hMA.dels hc7 (fun k hk q => hMA.apart.2.2 k hk q)
  have hfin := mg_cells (c := e.col) (dec := true) (ts := e.ts) ho7 hd7 hO
  rw [List.length_append] at hfin
  refine ⟨⟨dv, ds, true, e.ts, g7, cp7, L ++ [e], ⟨hfin, hmem, hsh, ?_, by simp; exact hsl⟩⟩, ?_⟩
  · rintro k (rfl | q | rfl) hS
    · exact hout k (.inl rfl) hS
    · exact hout k (.inr (.inl q)) hS
    · rcases hgg with q | q
      · exact hout k (.inr (.inr q.symm)) hS
      · have := hin k hS
        omega
  · exact ((Chg.of_below hb).trans (hc7.mono (fun k q => .inr (.inr q)))).trans (Chg.of_set _ _ _ _ (.inl rfl))

theorem del_fin {S : Nat → Prop} {base mb : Nat} {P : List (Nat × Ent)} {a : Nat} {e : Ent} {dv : Value} {ds : List (Nat × Int)} {dec : Bool} {ts : Int} {cg cc : Nat} {L : List Ent} {w5 wA w7 : World} {g7 cp7 : Nat} (hM : MgAt w5 base mb e.col dv ds dec ts cg cc L) (hb : Below w5.heap.size w5 wA) (hO : OwnD w7 base (.slice (some ⟨g7, 0, none⟩) (ds.length + 1) cp7) (ds ++ [(a, e.ts)]))
    (hgr : wA.grownBy w7 dv.ownBlock) (hgg : dv.ownBlock = some g7 ∨ g7 = wA.heap.size)
    (hmem : Mem (P ++ [(a, e)]) e.col (ds ++ [(a, e.ts)]) dec ts) (hsh : Shown (P ++ [(a, e)]) L) (hout : ∀ k, Mine mb dv cg k → ¬ S k) (hin : ∀ k, S k → k < w5.heap.size) (hsl : L.length ≤ P.length) :
    MSt S base mb (P ++ [(a, e)]) (w7.setCell ⟨mb, 3, none⟩ (.slice (some ⟨g7, 0, none⟩) (ds.length + 1) cp7)) e.col ∧ Chg (Mine mb dv cg) w5 (w7.setCell ⟨mb, 3, none⟩ (.slice (some ⟨g7, 0, none⟩) (ds.length + 1) cp7)) ∧ w7.cell? ⟨mb, 3, none⟩ = some dv ∧ w7.frozen? ⟨mb, 3, none⟩ = false := by
  have hsA := hb.size
  have hMA := hM.below hb
  have hc7 : Chg (fun k => dv.ownBlock = some k) wA w7 := Chg.of_grown hgr (fun k hk => hk)
  have ho7 : OwnM w7 base mb [.string e.col.1, .string e.col.2.1, .string e.col.2.2, dv, .bool dec, .int .u64 ts, .slice (some ⟨cg, 0, none⟩) L.length cc] := own_chg hMA.own hc7 (fun k hk q => by simp [Value.ownBlock] at hk; subst hk; exact hMA.apart.1 mb q rfl)
  have hd7 : OwnC w7 base cg cc L := own_chg hMA.cells hc7 (fun k hk q => by simp [Value.ownBlock] at hk; subst hk; exact hMA.apart.2.2 cg q rfl)
  have hfin := mg_dels ho7 hO hd7
  refine ⟨⟨_, ds ++ [(a, e.ts)], dec, ts, cg, cc, L, ⟨hfin, hmem, hsh, ?_, by simp; omega⟩⟩, ?_, World.ownsRow.cellAt ho7 3 (by decide), World.ownsRow.frozenAt ho7 3⟩
  · rintro k (rfl | q | rfl) hS
    · exact hout k (.inl rfl) hS
    · simp [Value.ownBlock] at q
      subst q
      rcases hgg with q | q
      · exact hout g7 (.inr (.inl q)) hS
      · have := hin g7 hS
        omega
    · exact hout k (.inr (.inr rfl)) hS
  · exact ((Chg.of_below hb).trans (hc7.mono (fun k q => .inr (.inl q)))).trans (Chg.of_set _ _ _ _ (.inl rfl))

end Go.Proofs.Ytjphalbjimggcae
