/-
  impl.foldTree over shapeOf.
-/
import Derived.Test.YthkmecppjhcidacNdO
import Derived.Deep.AppendLies
namespace Go.Proofs.Ythkmecppjhcidac
open Go.ChangeShapes Go.WideShapes Go.ChangeAt Go.RowKit Go.Deep
set_option linter.unusedVariables false
set_option linter.unusedSimpArgs false
set_option maxRecDepth 100000

theorem Try.infoSh : (Try.prog.info? 81).map (fun i => (i.zero, i.size, i.bytes)) = some (some (.agg #[.bool false, .int .i64 0, .int .i64 0]), 3, 24) := by kernel_rfl
/-- One shape appended, at a step of a region that draws. -/
theorem step_append_shape {ops : Array Oper} {oo : Oper} {a : Act} {K : Act → World → Prop} {Q : Exit → Act → World → Prop} {E : Prop} (w : World) (hgd : oo.guard = none) (s x : Operand)
    (ho : oo.op = .call { callee := .builtin .append, args := #[s, x], argTypes := #[125, 125] })
    (base n g cp blk : Nat) (ss : List Shape) (y : Shape) (hn : n = ss.length) (hs : a.eval s = .slice (some ⟨g, 0, none⟩) n cp) (hx : a.eval x = .slice (some ⟨blk, 0, none⟩) 1 1) (hO : OwnSh w base g cp ss)
    (hc : ShsAt w blk 0 [y]) (hlen : ss.length ≤ 1000) (hbase : base ≤ w.heap.size)
    (h : ∀ g' cp' w', OwnSh w' base g' cp' (ss ++ [y]) → w.grownBy w' (some g) → (g = g' ∨ g' = w.heap.size) → K (a.put oo.dst (.slice (some ⟨g', 0, none⟩) (n + 1) cp')) w') : if Region.wanted oo (yielded ops a.tmps) = true then Oper.wp Try.prog oo a w K Q else E := by
  subst hn
  obtain ⟨i, hi, hz0, hz1, hz2⟩ := info_parts Try.infoSh
  obtain ⟨c0, c1, c2⟩ := hc 0 y rfl
  refine step_append_lies w hgd s x 125 ho base 81 i _ 3 24 Try.underlying125 hi hz0 hz1 hz2 rfl (by decide) (.slice (some ⟨g, 0, none⟩) ss.length cp) ss.length (cellsS ss) hs hO ⟨blk, 0, none⟩ 1 1 (cellsS [y]) hx rfl ?_ ?_ (by decide) ?_ ?_ hbase w.heap.size rfl ?_
  · intro j u hu
    have hj : j < 3 := by
      have := (List.getElem?_eq_some_iff.1 hu).1
      rw [length_cellsS] at this
      simpa using this
    rw [Addr.add_mid]
    have hcs : cellsS [y] = y.three := by simp [cellsS]
    rw [hcs] at hu
    match j, hj with
    | 0, _ => simp at hu; rw [← hu]; simpa using c0
    | 1, _ => simp at hu; rw [← hu]; simpa using c1
    | 2, _ => simp at hu; rw [← hu]; simpa using c2
  · intro u hu
    have hcs : cellsS [y] = y.three := by simp [cellsS]
    rw [hcs] at hu
    simp at hu
    rcases hu with rfl | rfl | rfl <;> rfl
  · unfold maxLen; omega
  · omega
  · intro g' cp' w' hO' hgr hat hlt
    refine h g' cp' w' ?_ hgr ?_
    · unfold OwnSh
      rw [List.length_append, cellsS_append]
      exact hO'
    · simp [Value.ownBlock] at hat
      exact hat
theorem fold_nest {xs : List Nd} {ss : List Shape} (h : foldM goodB [] xs = some ss) : ∀ s ∈ ss, s.nest ≤ xs.length := by
  intro s hs
  obtain ⟨ks, rfl, hK⟩ := ShT.kids goodB (fold_tree goodB h)
  obtain ⟨k, hk, h3⟩ := kid_len goodB hK hs
  have h4 := len_flat hk
  have h5 := nest_len goodB _ (Nat.le_refl _) h3
  omega
structure FoJ (w : World) (xs : List Nd) (j g cp : Nat) (ss : List Shape) (wr : World) : Prop where
  fold : foldM goodB [] (xs.take j) = some ss
  own : OwnSh wr (w.heap.size + 1) g cp ss
  res : BoxAt wr w.heap.size 81 3 w.heap.size [.bool false, .int .i64 0, .int .i64 0]
  below : Below w.heap.size w wr
theorem FoJ.move {w : World} {xs : List Nd} {j g cp : Nat} {ss : List Shape} {wr w' : World} (h : FoJ w xs j g cp ss wr) (hb : Below wr.heap.size wr w') : FoJ w xs j g cp ss w' :=
  ⟨h.fold, h.own.below hb, h.res.below hb, h.below.trans (hb.mono h.below.size)⟩
theorem fold_next {xs : List Nd} {j : Nat} {ss : List Shape} {e : Nd} (h : foldM goodB [] (xs.take j) = some ss) (he : xs[j]? = some e) (hl : arity e.kind ≤ ss.length) : foldM goodB [] (xs.take (j + 1)) = some (ss.take (ss.length - arity e.kind) ++ [shapeM goodB e (ss.drop (ss.length - arity e.kind))]) := by
  rw [List.take_add_one, he, foldM_append, h]
  simp only [Option.toList, Option.bind_some, foldM, stepM]
  rw [if_neg (by omega)]
theorem fold_stop {xs : List Nd} {j : Nat} {ss : List Shape} {e : Nd} (h : foldM goodB [] (xs.take j) = some ss) (he : xs[j]? = some e) (hl : ss.length < arity e.kind) : foldM goodB [] xs = none := by
  have hj := (List.getElem?_eq_some_iff.1 he).1
  have : xs = xs.take j ++ e :: xs.drop (j + 1) := by
    conv => lhs; rw [← List.take_append_drop j xs, List.drop_eq_getElem_cons hj]
    rw [show xs[j] = e from Option.some.inj ((List.getElem?_eq_getElem hj).symm.trans he)]
  rw [this, foldM_append, h]
  simp only [Option.bind_some, foldM, stepM]
  rw [if_pos hl]
/-- What foldTree hands back. -/
def FoldPost (xs : List Nd) (w : World) (r : Ending) (w' : World) : Prop := Below w.heap.size w w' ∧ ((∃ s, foldM goodB [] xs = some [s] ∧ r = .returned (.tuple #[.agg #[.bool s.valid, .int .i64 s.kind, .int .i64 (s.nest : Int)], .bool true])) ∨ ((∀ s, ¬ foldM goodB [] xs = some [s]) ∧ r = .returned (.tuple #[.agg #[.bool false, .int .i64 0, .int .i64 0], .bool false])))
end Go.Proofs.Ythkmecppjhcidac
