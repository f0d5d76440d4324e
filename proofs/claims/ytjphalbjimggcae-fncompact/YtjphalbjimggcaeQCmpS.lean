/-
  spec.l3Puts, spec.CompactRuns, impl.CompactRuns.
-/
import Derived.Test.YtjphalbjimggcaeQMrgO
import Derived.Test.YtjphalbjimggcaeQOwnU
import Derived.Deep.RegionLaw
namespace Go.Proofs.Ytjphalbjimggcae
open Go.ChangeShapes Go.WideShapes Go.ChangeAt Go.RowKit Go.Deep
set_option linter.unusedVariables false
set_option linter.unusedSimpArgs false
set_option maxRecDepth 100000

/-- The put of a cell. -/
def putE (x : Ent) : Ent := { x with kind := 0 }
set_option maxHeartbeats 400000 in
theorem implPut_any (e : Ent) (w : World) :
    Calls Try.prog 32 #[.agg #[.string e.row, .string e.fam, .string e.qual, .int .u64 e.ts, .string e.val]] w fun r w' => r = .returned (putE e).v ∧ Below w.heap.size w w' := by
  go_enter Try.func32, Try.ntmps32
  go_wp2
  refine bodyPost_ret (v := (putE e).v) (by simp [results, Try.results32, go_sem, putE]) rfl ⟨rfl, ?_⟩
  exact ((Below.refl _ _).alloc (Nat.le_refl _) _).alloc (by simp) _

/-- One entry appended, at a step of a region that draws. -/
theorem step_append_ent {ops : Array Oper} {o : Oper} {a : Act} {K : Act → World → Prop} {Q : Exit → Act → World → Prop} {E : Prop} (w : World) (hgd : o.guard = none) (s x : Operand)
    (ho : o.op = .call { callee := .builtin .append, args := #[s, x], argTypes := #[28, 28] })
    (base g cp n blk : Nat) (fs : List Ent) (e : Ent) (hn : n = fs.length) (hs : a.eval s = .slice (some ⟨g, 0, none⟩) n cp) (hx : a.eval x = .slice (some ⟨blk, 0, none⟩) 1 1) (hO : OwnE w base g cp fs)
    (hc : EntsAt w blk 0 [e]) (hlen : fs.length ≤ 2 ^ 30) (hbase : base ≤ w.heap.size)
    (h : ∀ g' cp' w', OwnE w' base g' cp' (fs ++ [e]) → w.grownBy w' (some g) → (g = g' ∨ g' = w.heap.size) → K (a.put o.dst (.slice (some ⟨g', 0, none⟩) (n + 1) cp')) w') : if Region.wanted o (yielded ops a.tmps) = true then Oper.wp Try.prog o a w K Q else E := by
  subst hn
  obtain ⟨i, hi, hz0, hz1, hz2⟩ := info_parts Try.infoEnt
  obtain ⟨c0, c1, c2, c3, c4, c5⟩ := hc 0 e rfl
  refine step_append_lies w hgd s x 28 ho base 73 i _ 6 80 Try.underlying28 hi hz0 hz1 hz2 rfl (by decide) (.slice (some ⟨g, 0, none⟩) fs.length cp) fs.length (cellsE fs) hs hO ⟨blk, 0, none⟩ 1 1 (cellsE [e]) hx rfl ?_ ?_ (by decide) ?_ ?_ hbase w.heap.size rfl ?_
  · intro j u hu
    have hj : j < 6 := by
      have := (List.getElem?_eq_some_iff.1 hu).1
      rw [length_cellsE] at this
      simpa using this
    rw [Addr.add_mid, Nat.zero_add]
    simp only [Nat.zero_mul, Nat.zero_add] at c0 c1 c2 c3 c4 c5
    match j, hj, hu with
    | 0, _, hu => simp [cellsE] at hu; rw [← hu]; exact c0
    | 1, _, hu => simp [cellsE] at hu; rw [← hu]; exact c1
    | 2, _, hu => simp [cellsE] at hu; rw [← hu]; exact c2
    | 3, _, hu => simp [cellsE] at hu; rw [← hu]; exact c3
    | 4, _, hu => simp [cellsE] at hu; rw [← hu]; exact c4
    | 5, _, hu => simp [cellsE] at hu; rw [← hu]; exact c5
  · intro u hu
    simp [cellsE] at hu
    rcases hu with rfl | rfl | rfl | rfl | rfl | rfl <;> rfl
  · unfold maxLen; omega
  · omega
  · intro g' cp' w' hO' hgr hat hlt
    refine h g' cp' w' ?_ hgr ?_
    · unfold OwnE
      rw [List.length_append, cellsE_append]
      exact hO'
    · rcases hat with q | q
      · exact .inl (by simpa [Value.ownBlock] using q)
      · exact .inr q
def putsTo (L : List Ent) (m : Nat) : List Ent := (L.take m).map putE
theorem putsTo_succ {L : List Ent} {m : Nat} {x : Ent} (h : L[m]? = some x) : putsTo L (m + 1) = putsTo L m ++ [putE x] := by
  unfold putsTo; rw [List.take_add_one, h]; simp
theorem putsTo_len {L : List Ent} {m : Nat} (h : m ≤ L.length) : (putsTo L m).length = m := by simp [putsTo]; omega
theorem putsTo_all {L : List Ent} {m : Nat} (h : L.length ≤ m) : putsTo L m = L.map putE := by unfold putsTo; rw [List.take_of_length_le h]

/-- How the putting stands. -/
structure PInv (w : World) (ov : Nat) (L : List Ent) (m g5 cp5 : Nat) (wr : World) : Prop where
  hdr : wr.cell? ⟨ov, 0, none⟩ = some (.slice (some ⟨g5, 0, none⟩) m cp5)
  free : wr.frozen? ⟨ov, 0, none⟩ = false
  lt : ov < wr.heap.size
  own : w.heap.size < ov
  row : OwnE wr w.heap.size g5 cp5 (putsTo L m)
  ne : ¬ g5 = ov
  new : w.heap.size < g5
  res : wr.cell? ⟨w.heap.size, 0, none⟩ = some (.slice none 0 0)
  rfree : wr.frozen? ⟨w.heap.size, 0, none⟩ = false
  below : Below w.heap.size w wr
theorem PInv.step {w : World} {ov : Nat} {L : List Ent} {m g5 cp5 : Nat} {wr w' : World} (h : PInv w ov L m g5 cp5 wr) (hb : Below wr.heap.size wr w') : PInv w ov L m g5 cp5 w' where
  hdr := by rw [hb.cell (p := ⟨ov, 0, none⟩) h.lt]; exact h.hdr
  free := by rw [hb.frozen (p := ⟨ov, 0, none⟩) h.lt]; exact h.free
  lt := by have := hb.size; have := h.lt; omega
  own := h.own
  row := h.row.below hb h.row.lt.2
  ne := h.ne
  new := h.new
  res := by rw [hb.cell (p := ⟨w.heap.size, 0, none⟩) (by have := h.own; have := h.lt; show w.heap.size < wr.heap.size; omega)]; exact h.res
  rfree := by rw [hb.frozen (p := ⟨w.heap.size, 0, none⟩) (by have := h.own; have := h.lt; show w.heap.size < wr.heap.size; omega)]; exact h.rfree
  below := h.below.trans (hb.mono h.below.size)
theorem PInv.push {w : World} {ov : Nat} {L : List Ent} {m g5 cp5 : Nat} {wA w7 : World} (h : PInv w ov L m g5 cp5 wA) {x : Ent} (hx : L[m]? = some x) {g7 cp7 : Nat} (hO : OwnE w7 w.heap.size g7 cp7 (putsTo L m ++ [putE x])) (hgr : wA.grownBy w7 (some g5)) (hgg : g5 = g7 ∨ g7 = wA.heap.size) :
    PInv w ov L (m + 1) g7 cp7 (w7.setCell ⟨ov, 0, none⟩ (.slice (some ⟨g7, 0, none⟩) (m + 1) cp7)) ∧ w7.cell? ⟨ov, 0, none⟩ = some (.slice (some ⟨g5, 0, none⟩) m cp5) ∧ w7.frozen? ⟨ov, 0, none⟩ = false := by
  have hc7 : Chg (fun k => k = g5) wA w7 := Chg.of_grown hgr (fun k hk => by cases hk; rfl)
  have hc8 : Chg (fun k => k = ov) w7 (w7.setCell ⟨ov, 0, none⟩ (.slice (some ⟨g7, 0, none⟩) (m + 1) cp7)) := Chg.of_set _ _ _ _ rfl
  have s7 := hc7.size
  have s8 := hc8.size
  have hl := h.lt
  have ho := h.own
  have hn := h.new
  have c7 : w7.cell? ⟨ov, 0, none⟩ = some (.slice (some ⟨g5, 0, none⟩) m cp5) := by rw [hc7.cell (p := ⟨ov, 0, none⟩) hl (fun q => h.ne q.symm)]; exact h.hdr
  have f7 : w7.frozen? ⟨ov, 0, none⟩ = false := by rw [hc7.frozen (p := ⟨ov, 0, none⟩) hl (fun q => h.ne q.symm)]; exact h.free
  have hne7 : ¬ g7 = ov := by
    rcases hgg with q | q
    · rw [← q]; exact h.ne
    · omega
  refine ⟨?_, c7, f7⟩
  exact {
    hdr := World.cell?_setCell_same _ _ _ c7
    free := by rw [World.frozen?_setCell]; exact f7
    lt := by omega
    own := ho
    row := by
      rw [putsTo_succ hx]
      exact World.ownsRow.kept hO (grown_set w7 ov 0 _) (.inr (fun q => hne7 (Option.some.inj q)))
    ne := hne7
    new := by
      rcases hgg with q | q
      · rw [← q]; exact hn
      · omega
    res := by
      rw [hc8.cell (p := ⟨w.heap.size, 0, none⟩) (by show w.heap.size < w7.heap.size; omega) (by show ¬ w.heap.size = ov; omega), hc7.cell (p := ⟨w.heap.size, 0, none⟩) (by show w.heap.size < wA.heap.size; omega) (by show ¬ w.heap.size = g5; omega)]
      exact h.res
    rfree := by
      rw [hc8.frozen (p := ⟨w.heap.size, 0, none⟩) (by show w.heap.size < w7.heap.size; omega) (by show ¬ w.heap.size = ov; omega), hc7.frozen (p := ⟨w.heap.size, 0, none⟩) (by show w.heap.size < wA.heap.size; omega) (by show ¬ w.heap.size = g5; omega)]
      exact h.rfree
    below := Chg.below (Chg.below h.below hc7 h.below.size (fun k q => by omega)) hc8 (by omega) (fun k q => by omega) }

/-- What a compacted run may be. -/
def CmpOf (rs : List (List Ent)) (R : List Ent) : Prop := ∃ L, MrgOf rs (inR ⟨#[]⟩ false ⟨#[]⟩) L ∧ ((10000 < L.length ∧ R = []) ∨ (L.length ≤ 10000 ∧ R = L.map putE))
theorem cmpOf_uniq {rs : List (List Ent)} {R R' : List Ent} (h : CmpOf rs R) (k : CmpOf rs R') : R = R' := by
  obtain ⟨L, h1, h2⟩ := h
  obtain ⟨M, k1, k2⟩ := k
  have := mrgOf_uniq h1 k1
  subst this
  rcases h2 with ⟨a, b⟩ | ⟨a, b⟩ <;> rcases k2 with ⟨c, d⟩ | ⟨c, d⟩
  · rw [b, d]
  · omega
  · omega
  · rw [b, d]
theorem cmpOf_len {rs : List (List Ent)} {R : List Ent} (h : CmpOf rs R) : R.length ≤ 10000 := by
  obtain ⟨L, h1, h2⟩ := h
  rcases h2 with ⟨a, b⟩ | ⟨a, b⟩
  · rw [b]; simp
  · rw [b]; simpa using a

end Go.Proofs.Ytjphalbjimggcae
