import Derived.Test.YtddemgkbfdhpnaaDoorTie
import Derived.Test.YtddemgkbfdhpnaaDoorCards
import Derived.ProofKit
import Derived.LaidMore
import Derived.OpenShut
import Derived.Lib.LaidTab
import Derived.Stop.Joined
import Derived.Test.YtddemgkbfdhpnaaDoorQPrN
import Derived.Test.YtddemgkbfdhpnaaDoorPkAH
import Derived.Test.YtddemgkbfdhpnaaDoorPkAI
import Derived.Test.YtddemgkbfdhpnaaDoorPkAG
import Derived.Test.YtddemgkbfdhpnaaDoorPzAA
/-
  Rows of printed trees; printNode over such a row.
-/
namespace Go.Proofs.YtddemgkbfdhpnaaDoor
open Go.ChangeShapes Go.WideShapes Go.ChangeAt Go.RowKit Go.Deep
set_option linter.unusedVariables false
set_option linter.unusedSimpArgs false
set_option maxRecDepth 100000

theorem foldG_next {T : Type} (V : Nd → List T → T) {xs : List Nd} {j : Nat} {ns : List T} {e : Nd} (h : foldV V [] (xs.take j) = some ns) (he : xs[j]? = some e) (hl : arity e.kind ≤ ns.length) : foldV V [] (xs.take (j + 1)) = some (ns.take (ns.length - arity e.kind) ++ [V e (ns.drop (ns.length - arity e.kind))]) := by
  rw [List.take_add_one, he, foldV_append, h]
  simp only [Option.toList, Option.bind_some, foldV, stepV]
  rw [if_neg (by omega)]
  rfl
theorem foldG_stop {T : Type} (V : Nd → List T → T) {xs : List Nd} {j : Nat} {ns : List T} {e : Nd} (h : foldV V [] (xs.take j) = some ns) (he : xs[j]? = some e) (hl : ns.length < arity e.kind) : foldV V [] xs = none := by
  have hj := (List.getElem?_eq_some_iff.1 he).1
  have : xs = xs.take j ++ e :: xs.drop (j + 1) := by
    conv => lhs; rw [← List.take_append_drop j xs, List.drop_eq_getElem_cons hj]
    rw [show xs[j] = e from Option.some.inj ((List.getElem?_eq_getElem hj).symm.trans he)]
  rw [this, foldV_append, h]
  simp only [Option.bind_some, foldV, stepV]
  rw [if_pos hl]
  rfl
/-- A printed tree in memory. -/
structure Po where
  kind : Int
  b : Nat
  c : Nat
  t : List UInt8
abbrev Po.pt (p : Po) : PT := (p.kind, p.t)
abbrev Po.two (p : Po) : List Value := [.int .i64 p.kind, .slice (some ⟨p.b, 0, none⟩) p.t.length p.c]
def cellsQ (ps : List Po) : List Value := ps.flatMap Po.two
theorem length_cellsQ (ss : List Po) : (cellsQ ss).length = ss.length * 2 := by
  induction ss with
  | nil => rfl
  | cons e es ih => simp only [cellsQ, List.flatMap_cons, List.length_append] at ih ⊢; rw [ih]; simp; omega
theorem cellsQ_append (es fs : List Po) : cellsQ (es ++ fs) = cellsQ es ++ cellsQ fs := by simp [cellsQ]
theorem cellsQ_get (es : List Po) : ∀ (k : Nat) (e : Po), es[k]? = some e → ∀ j, j < 2 → (cellsQ es)[k * 2 + j]? = e.two[j]? := by
  induction es with
  | nil => intro k e h; simp at h
  | cons f es ih =>
    intro k e h j hj
    have hc : cellsQ (f :: es) = f.two ++ cellsQ es := by simp [cellsQ]
    rw [hc]
    cases k with
    | zero =>
      simp at h; subst h
      rw [List.getElem?_append_left (by show 0 * 2 + j < 2; omega)]
      simp
    | succ k =>
      simp at h
      rw [List.getElem?_append_right (by show 2 ≤ (k + 1) * 2 + j; omega)]
      have : (k + 1) * 2 + j - f.two.length = k * 2 + j := by show (k + 1) * 2 + j - 2 = _; omega
      rw [this]; exact ih k e h j hj
theorem cellsQ_take (es : List Po) (k : Nat) : cellsQ (es.take k) = (cellsQ es).take (k * 2) := by
  induction es generalizing k with
  | nil => simp [cellsQ]
  | cons f es ih =>
    cases k with
    | zero => simp [cellsQ]
    | succ k =>
      have hc : cellsQ (f :: es) = f.two ++ cellsQ es := by simp [cellsQ]
      have hd : cellsQ (f :: es.take k) = f.two ++ cellsQ (es.take k) := by simp [cellsQ]
      have e1 : (k + 1) * 2 = f.two.length + k * 2 := by show (k + 1) * 2 = 2 + k * 2; omega
      rw [List.take_succ_cons, hd, hc, ih, e1, List.take_length_add_append]
/-- Printed trees at ⟨b, o⟩. -/
def QsAt (w : World) (b o : Nat) (ps : List Po) : Prop := ∀ i p, ps[i]? = some p → w.cell? ⟨b, o + i * 2, none⟩ = some (.int .i64 p.kind) ∧ w.cell? ⟨b, o + i * 2 + 1, none⟩ = some (.slice (some ⟨p.b, 0, none⟩) p.t.length p.c)
theorem QsAt.below {B : Nat} {w w' : World} {b o : Nat} {ss : List Po} (h : QsAt w b o ss) (hb : Below B w w') (hlt : b < B) : QsAt w' b o ss := by
  intro i e he
  have := h i e he
  refine ⟨?_, ?_⟩
  all_goals rw [hb.cell (by exact hlt)]
  · exact this.1
  · exact this.2
theorem QsAt.drop {w : World} {b o : Nat} {ss : List Po} (h : QsAt w b o ss) (k : Nat) : QsAt w b (o + k * 2) (ss.drop k) := by
  intro i s hs
  have := h (k + i) s (by rw [← List.getElem?_drop]; exact hs)
  rw [Nat.add_mul, ← Nat.add_assoc] at this
  exact this
def OwnPo (w : World) (base g cp : Nat) (ps : List Po) : Prop := w.ownsRow base 42 2 (.slice (some ⟨g, 0, none⟩) ps.length cp) ps.length (cellsQ ps)
theorem OwnPo.lt {w : World} {base g cp : Nat} {ss : List Po} (h : OwnPo w base g cp ss) : base ≤ g ∧ g < w.heap.size := World.ownsRow.lt h g rfl
theorem OwnPo.below {w w' : World} {base g cp : Nat} {ss : List Po} (h : OwnPo w base g cp ss) (hb : Below w.heap.size w w') : OwnPo w' base g cp ss := own_chg h (Chg.of_below hb) (S := fun _ => False) (fun k q z => z)
theorem OwnPo.at {w : World} {base g cp : Nat} {ss : List Po} (h : OwnPo w base g cp ss) : QsAt w g 0 ss := by
  intro i e he
  have hi : i < ss.length := (List.getElem?_eq_some_iff.1 he).1
  have c := fun j (hj : j < 2) => (World.ownsRow.cellAt h (i * 2 + j) (by omega)).trans (cellsQ_get ss i e he j hj)
  refine ⟨?_, ?_⟩
  · rw [Nat.zero_add]; exact c 0 (by omega)
  · rw [Nat.zero_add]; exact c 1 (by omega)
theorem OwnPo.caps {w : World} {base g cp : Nat} {ss : List Po} (h : OwnPo w base g cp ss) : ss.length ≤ cp ∧ cp ≤ maxLen := by
  rcases h.2 with ⟨h0, _⟩ | ⟨g', cap', cur, hv, _, _, hn, hcap, _, _⟩
  · cases h0
  · simp only [Value.slice.injEq, Option.some.injEq, Addr.mk.injEq, and_true, true_and] at hv
    obtain ⟨rfl, rfl⟩ := hv
    exact ⟨hn, hcap⟩
theorem OwnPo.take {w : World} {base g cp : Nat} {ss : List Po} (h : OwnPo w base g cp ss) {k : Nat} (hk : k ≤ ss.length) : OwnPo w base g cp (ss.take k) := by
  rcases h.2 with ⟨h0, _⟩ | ⟨g', cap', cur, hv, h1, h2, h3, h4, h5, h6⟩
  · cases h0
  · simp only [Value.slice.injEq, Option.some.injEq, Addr.mk.injEq, and_true, true_and] at hv
    obtain ⟨rfl, rfl⟩ := hv
    have hl : (ss.take k).length = k := by rw [List.length_take]; omega
    refine ⟨by rw [length_cellsQ], .inr ⟨g, cp, cur, rfl, h1, h2, by omega, h4, h5, ?_⟩⟩
    rw [hl, cellsQ_take, ← h6, List.take_take]
    congr 1
    omega
theorem ownPo_new (w : World) {base : Nat} (hb : base ≤ w.heap.size) : OwnPo (w.alloc (Obj.cells #[] 42)) base w.heap.size 0 [] :=
  World.ownsRow_made w #[] 0 hb (Nat.zero_le _) (by simp)
theorem Tryd.infoPt : (Tryd.prog.info? 42).map (fun i => (i.zero, i.size, i.bytes)) = some (some (.agg #[.int .i64 0, .slice none 0 0]), 2, 32) := by kernel_rfl
/-- One printed tree appended, at a step of a region that draws. -/
theorem step_append_pt {ops : Array Oper} {oo : Oper} {a : Act} {K : Act → World → Prop} {Q : Exit → Act → World → Prop} {E : Prop} (w : World) (hgd : oo.guard = none) (s x : Operand)
    (ho : oo.op = .call { callee := .builtin .append, args := #[s, x], argTypes := #[67, 67] })
    (base n g cp blk : Nat) (ss : List Po) (y : Po) (hn : n = ss.length) (hs : a.eval s = .slice (some ⟨g, 0, none⟩) n cp) (hx : a.eval x = .slice (some ⟨blk, 0, none⟩) 1 1) (hO : OwnPo w base g cp ss)
    (hc : QsAt w blk 0 [y]) (hlen : ss.length ≤ 1000) (hbase : base ≤ w.heap.size)
    (h : ∀ g' cp' w', OwnPo w' base g' cp' (ss ++ [y]) → w.grownBy w' (some g) → (g = g' ∨ g' = w.heap.size) → K (a.put oo.dst (.slice (some ⟨g', 0, none⟩) (n + 1) cp')) w') : if Region.wanted oo (yielded ops a.tmps) = true then Oper.wp Tryd.prog oo a w K Q else E := by
  subst hn
  obtain ⟨i, hi, hz0, hz1, hz2⟩ := info_parts Tryd.infoPt
  obtain ⟨c0, c1⟩ := hc 0 y rfl
  have hcs : cellsQ [y] = y.two := by simp [cellsQ]
  refine step_append_lies w hgd s x 67 ho base 42 i _ 2 32 Tryd.underlying67 hi hz0 hz1 hz2 rfl (by decide) (.slice (some ⟨g, 0, none⟩) ss.length cp) ss.length (cellsQ ss) hs hO ⟨blk, 0, none⟩ 1 1 (cellsQ [y]) hx rfl ?_ ?_ (by decide) ?_ ?_ hbase w.heap.size rfl ?_
  · intro j u hu
    have hj : j < 2 := by
      have := (List.getElem?_eq_some_iff.1 hu).1
      rw [length_cellsQ] at this
      simpa using this
    rw [Addr.add_mid]
    rw [hcs] at hu
    match j, hj with
    | 0, _ => simp at hu; rw [← hu]; simpa using c0
    | 1, _ => simp at hu; rw [← hu]; simpa using c1
  · intro u hu
    rw [hcs] at hu
    simp at hu
    rcases hu with rfl | rfl <;> rfl
  · unfold maxLen; omega
  · omega
  · intro g' cp' w' hO' hgr hat hlt
    refine h g' cp' w' ?_ hgr ?_
    · unfold OwnPo
      rw [List.length_append, cellsQ_append]
      exact hO'
    · simp [Value.ownBlock] at hat
      exact hat
theorem printNode_core (e : Nd) (g F c : Nat) (ps : List Po) (w : World) (hg : GoodN e) (hn : NumN e) (hl : ps.length = arity e.kind) (hgl : g < w.heap.size) (hQ : QsAt w g F ps) (hE : ∀ p ∈ ps, BysAt w p.b 0 p.t ∧ p.b < w.heap.size ∧ p.t.length ≤ 400000) (hG : Gl w) (hB : 5 ≤ w.heap.size) :
    Calls Tryd.prog 19 #[e.v, .slice (some ⟨g, F, none⟩) ps.length c] w (PnP e.kind (printV e (ps.map Po.pt)).2 w) := by
  obtain ⟨kind, s, hi, t, lo, up, n⟩ := e
  simp only at hl ⊢
  by_cases h14 : kind = 14
  · subst h14
    match ps, hl with
    | [p, q], _ =>
      have h0 := hQ 0 p rfl
      have h1 := hQ 1 q rfl
      simp only [Nat.zero_mul, Nat.one_mul, Nat.add_zero] at h0 h1
      have e0 := hE p (by simp)
      have e1 := hE q (by simp)
      have := printNode_14 s hi t lo up n g F c p.kind q.kind p.b p.c q.b q.c p.t q.t w hgl hG hB ⟨h0.1, h0.2, e0.1, e0.2.1⟩ ⟨h1.1, h1.2, e1.1, e1.2.1⟩ e0.2.2 e1.2.2
      have hv : (printV ⟨14, s, hi, t, lo, up, n⟩ ([p, q].map Po.pt)).2 = wrapT 14 0 (p.kind, p.t) ++ [32, 62, 32] ++ wrapT 14 1 (q.kind, q.t) := by simp [printV, joinM, sepM]
      rw [hv]
      exact this
  by_cases h15 : kind = 15
  · subst h15
    match ps, hl with
    | [p, q], _ =>
      have h0 := hQ 0 p rfl
      have h1 := hQ 1 q rfl
      simp only [Nat.zero_mul, Nat.one_mul, Nat.add_zero] at h0 h1
      have e0 := hE p (by simp)
      have e1 := hE q (by simp)
      have := printNode_15 s hi t lo up n g F c p.kind q.kind p.b p.c q.b q.c p.t q.t w hgl hG hB ⟨h0.1, h0.2, e0.1, e0.2.1⟩ ⟨h1.1, h1.2, e1.1, e1.2.1⟩ e0.2.2 e1.2.2
      have hv : (printV ⟨15, s, hi, t, lo, up, n⟩ ([p, q].map Po.pt)).2 = wrapT 15 0 (p.kind, p.t) ++ [32, 124, 32] ++ wrapT 15 1 (q.kind, q.t) := by simp [printV, joinM, sepM]
      rw [hv]
      exact this
  by_cases h16 : kind = 16
  · subst h16
    match ps, hl with
    | [p, q, r], _ =>
      have h0 := hQ 0 p rfl
      have h1 := hQ 1 q rfl
      have h2 := hQ 2 r rfl
      simp only [Nat.zero_mul, Nat.one_mul, Nat.add_zero, Nat.reduceMul] at h0 h1 h2
      have e0 := hE p (by simp)
      have e1 := hE q (by simp)
      have e2 := hE r (by simp)
      have := printNode_16 s hi t lo up n g F c p.kind q.kind r.kind p.b p.c q.b q.c r.b r.c p.t q.t r.t w hgl hG hB ⟨h0.1, h0.2, e0.1, e0.2.1⟩ ⟨h1.1, h1.2, e1.1, e1.2.1⟩ ⟨h2.1, h2.2, e2.1, e2.2.1⟩ e0.2.2 e1.2.2 e2.2.2
      have hv : (printV ⟨16, s, hi, t, lo, up, n⟩ ([p, q, r].map Po.pt)).2 = [105, 102, 40] ++ (p.t ++ [44, 32] ++ q.t ++ [44, 32] ++ r.t) ++ [41] := by simp [printV, joinM, sepM, wrapT, wrapB]
      rw [hv]
      exact this
  have ha : arity kind = 0 := by unfold arity; rw [if_neg (by omega), if_neg h16]
  obtain rfl : ps = [] := List.length_eq_zero_iff.1 (by rw [hl, ha])
  have := printNode_leaf kind s hi t lo up n (some ⟨g, F, none⟩) c w hg hn ha hG hB
  have hv : (printV ⟨kind, s, hi, t, lo, up, n⟩ (([] : List Po).map Po.pt)).2 = leafM ⟨kind, s, hi, t, lo, up, n⟩ := by simp [printV]
  rw [hv]
  exact this
end Go.Proofs.YtddemgkbfdhpnaaDoor

/-
  impl.foldTree over printNode, walked; impl.PrintFilter.
-/
namespace Go.Proofs.YtddemgkbfdhpnaaDoor
open Go.ChangeShapes Go.WideShapes Go.ChangeAt Go.RowKit Go.Deep
set_option linter.unusedVariables false
set_option linter.unusedSimpArgs false
set_option maxRecDepth 100000

structure FpJ (w : World) (xs : List Nd) (j g cp : Nat) (ps : List Po) (wr : World) : Prop where
  fold : foldV printV [] (xs.take j) = some (ps.map Po.pt)
  own : OwnPo wr (w.heap.size + 1) g cp ps
  res : BoxAt wr w.heap.size 42 2 w.heap.size [.int .i64 0, .slice none 0 0]
  txt : ∀ p ∈ ps, OwnY wr (w.heap.size + 1) p.b p.c p.t ∧ ¬ p.b = g
  below : Below w.heap.size w wr
theorem FpJ.move {w : World} {xs : List Nd} {j g cp : Nat} {ps : List Po} {wr w' : World} (h : FpJ w xs j g cp ps wr) (hb : Below wr.heap.size wr w') : FpJ w xs j g cp ps w' :=
  ⟨h.fold, h.own.below hb, h.res.below hb, fun p hp => ⟨(h.txt p hp).1.below hb, (h.txt p hp).2⟩, h.below.trans (hb.mono h.below.size)⟩
/-- The state with a node's print laid. -/
structure FpK (w : World) (xs : List Nd) (j g cp : Nat) (ps : List Po) (SB : Nat) (y : Po) (wr : World) : Prop where
  fo : FpJ w xs j g cp ps wr
  box : BoxAt wr w.heap.size 42 2 SB y.two
  new : OwnY wr (w.heap.size + 1) y.b y.c y.t
  ne : ¬ SB = g
  nb : ¬ y.b = g
  ge : w.heap.size + 1 ≤ SB
theorem fp_after {w : World} {xs : List Nd} {j g cp : Nat} {ps : List Po} {W1 w' : World} (y : Po) (h : FpJ w xs j g cp ps W1) (hb : Below W1.drew.heap.size W1.drew w') (hy : OwnY w' W1.drew.heap.size y.b y.c y.t) : FpK w xs j g cp ps w'.heap.size y (w'.alloc (Obj.cells #[.int .i64 y.kind, .slice (some ⟨y.b, 0, none⟩) y.t.length y.c] 42)) := by
  have hd : W1.drew.heap.size = W1.heap.size := by simp
  have h1 : Below W1.heap.size W1 w' := ((Below.refl W1.heap.size W1).drew).trans hb
  have h2 := h1.size
  have hb3 : Below w'.heap.size w' (w'.alloc (Obj.cells #[.int .i64 y.kind, .slice (some ⟨y.b, 0, none⟩) y.t.length y.c] 42)) := (Below.refl _ _).alloc (Nat.le_refl _) _
  have h4 := h.own.lt
  have h5 := h.below.size
  have h6 := h.res.lt
  have h7 := hy.lt
  exact ⟨(h.move h1).move hb3, boxAt_new w' _ (by omega) rfl, (hy.mono (by omega)).below hb3, by omega, by omega, by omega⟩
theorem fp_before {w : World} {xs : List Nd} {j g cp : Nat} {ps : List Po} {W1 w' : World} (y : Po) (h : FpJ w xs j g cp ps W1) (hb : Below (W1.drew.alloc (Obj.cells #[.int .i64 0, .slice none 0 0] 42)).heap.size (W1.drew.alloc (Obj.cells #[.int .i64 0, .slice none 0 0] 42)) w') (hy : OwnY w' (W1.drew.alloc (Obj.cells #[.int .i64 0, .slice none 0 0] 42)).heap.size y.b y.c y.t) :
    FpK w xs j g cp ps W1.heap.size y ((w'.setCell ⟨W1.heap.size, 0, none⟩ (.int .i64 y.kind)).setCell ⟨W1.heap.size, 1, none⟩ (.slice (some ⟨y.b, 0, none⟩) y.t.length y.c)) := by
  have hd : W1.drew.heap.size = W1.heap.size := by simp
  have hs1 : (W1.drew.alloc (Obj.cells #[.int .i64 0, .slice none 0 0] 42)).heap.size = W1.heap.size + 1 := by simp
  have h0 : Below W1.heap.size W1 (W1.drew.alloc (Obj.cells #[.int .i64 0, .slice none 0 0] 42)) := ((Below.refl W1.heap.size W1).drew).alloc (by simp) _
  have h1 : Below W1.heap.size W1 w' := h0.trans (hb.mono (by simp))
  have h4 := h.own.lt
  have h5 := h.below.size
  have h6 := h.res.lt
  have h7 := hy.lt
  have hB : BoxAt w' w.heap.size 42 2 W1.heap.size [.int .i64 0, .slice none 0 0] := by
    have := boxAt_new W1.drew (base := w.heap.size) (t := 42) (sz := 2) #[.int .i64 0, .slice none 0 0] (by simp; omega) rfl
    rw [hd] at this
    exact this.below hb
  have hJ := h.move h1
  have hC : Chg (fun k => k = W1.heap.size) w' ((w'.setCell ⟨W1.heap.size, 0, none⟩ (.int .i64 y.kind)).setCell ⟨W1.heap.size, 1, none⟩ (.slice (some ⟨y.b, 0, none⟩) y.t.length y.c)) :=
    (Chg.of_set w' W1.heap.size 0 _ (S := fun k => k = W1.heap.size) rfl).trans (Chg.of_set _ W1.heap.size 1 _ (S := fun k => k = W1.heap.size) rfl)
  refine ⟨⟨hJ.fold, own_chg hJ.own hC (fun k q => by simp [Value.ownBlock] at q; omega), hJ.res.chg hC (by omega), fun p hp => ⟨(hJ.txt p hp).1.chg hC (by have h8 := (h.txt p hp).1.lt.2; omega), (hJ.txt p hp).2⟩, ?_⟩, (hB.set 0 _).set 1 _, (hy.mono (by omega)).chg hC (by omega), by omega, by omega, by omega⟩
  exact below_set (below_set hJ.below (by omega) 0 _) (by omega) 1 _
theorem pt_new (X : World) (y : Po) (B : Nat) (hB : X.heap.size = B) : QsAt (X.alloc (Obj.cells #[.int .i64 y.kind, .slice (some ⟨y.b, 0, none⟩) y.t.length y.c] 42)) B 0 [y] := by
  subst hB
  intro i s hs
  have hi : i = 0 := by have := (List.getElem?_eq_some_iff.1 hs).1; simpa using this
  subst hi
  simp at hs
  subst hs
  exact ⟨by simp, by simp⟩
theorem fp_push {w wc X w' : World} {xs : List Nd} {j g cp SB g' cp' fr : Nat} {ps : List Po} {y : Po} (h : FpK w xs j g cp ps SB y wc) (hX : Below wc.heap.size wc X) (hY : foldV printV [] (xs.take (j + 1)) = some ((ps.take fr ++ [y]).map Po.pt)) (hO : OwnPo w' (w.heap.size + 1) g' cp' (ps.take fr ++ [y])) (hgr : X.grownBy w' (some g)) (hat : g = g' ∨ g' = X.heap.size) (hm : fr = (ps.take fr).length) : FpJ w xs (j + 1) g' cp' (ps.take fr ++ [y]) w' ∧ fr + 1 ≤ cp' := by
  have hJ := h.fo.move hX
  have h1 := hJ.own.lt
  have hxs := hX.size
  have hC : Chg (fun k => k = g) X w' := Chg.of_grown hgr (fun k hk => by cases hk; rfl)
  refine ⟨⟨hY, hO, hJ.res.chg hC (by omega), fun p hp => ?_, Chg.below hJ.below hC hJ.below.size (fun k q => by omega)⟩, ?_⟩
  · have hp2 : OwnY wc (w.heap.size + 1) p.b p.c p.t ∧ ¬ p.b = g := by
      rcases List.mem_append.1 hp with q | q
      · exact h.fo.txt p (List.mem_of_mem_take q)
      · simp at q; subst q; exact ⟨h.new, h.nb⟩
    refine ⟨(hp2.1.below hX).chg hC hp2.2, ?_⟩
    have h9 := hp2.1.lt.2
    rcases hat with q | q
    · rw [← q]; exact hp2.2
    · omega
  · have := hO.caps.1
    rw [List.length_append, List.length_singleton, ← hm] at this
    exact this
def FpP (y : PT) (w : World) (r : Ending) (w' : World) : Prop := ∃ b c, r = .returned (.tuple #[.agg #[.int .i64 y.1, .slice (some ⟨b, 0, none⟩) y.2.length c], .bool true]) ∧ OwnY w' w.heap.size b c y.2 ∧ Below w.heap.size w w'
theorem fold_trvG {T : Type} (V : Nd → List T → T) : ∀ (k : Nat) (xs : List Nd) (ss : List T), xs.length = k → foldV V [] xs = some ss → TrV V ss xs
  | 0, xs, ss, hk, h => by
    obtain rfl := List.length_eq_zero_iff.1 hk
    simp only [foldV, Option.some.injEq] at h
    subst h
    exact .nil
  | k + 1, xs, ss, hk, h => by
    rcases List.eq_nil_or_concat xs with rfl | ⟨ys, n, rfl⟩
    · simp at hk
    · rw [List.concat_eq_append] at hk h ⊢
      rw [foldV_append] at h
      cases hy : foldV V [] ys with
      | none => rw [hy] at h; cases h
      | some st =>
        have ih := fold_trvG V k ys st (by simp at hk; exact hk) hy
        rw [hy] at h
        simp only [Option.bind_some, foldV, stepV] at h
        split at h
        · cases h
        · rename_i hn
          simp only [Option.bind_some, foldV, Option.some.injEq] at h
          subst h
          refine .snoc n (by rw [List.length_drop]; omega) ?_
          rw [List.take_append_drop]; exact ih
theorem fold_len {xs : List Nd} {ss : List PT} (h : foldV printV [] xs = some ss) (hg : ∀ e ∈ xs, GoodN e ∧ NumN e) (hl : xs.length ≤ 200) : ∀ s ∈ ss, s.2.length ≤ 400000 := by
  intro s hs
  have h1 := print_len (fold_trvG printV _ xs ss rfl h) hg
  have h2 : s.2.length ≤ sizeP ss := by
    obtain ⟨a, b, rfl⟩ := List.append_of_mem hs
    rw [sizeP_append]
    simp [sizeP]
    omega
  omega
set_option maxHeartbeats 16000000 in
theorem foldPrint_core {w : World} {gN cpN : Nat} {xs : List Nd} {y : PT} (h : NdsAt w gN 0 xs) (hg : gN < w.heap.size) (hG : ∀ e ∈ xs, GoodN e ∧ NumN e) (hl : xs.length ≤ 200) (hT : TextF xs y) (hGl : Gl w) (hB : 5 ≤ w.heap.size) :
    Calls Tryd.prog 18 #[.slice (some ⟨gN, 0, none⟩) xs.length cpN, .func (Fn.func 19) #[] #[]] w (FpP y w) := by
  have HF : Hid (NdsAt w gN 0 xs ∧ (∀ e ∈ xs, GoodN e ∧ NumN e) ∧ xs.length ≤ 200 ∧ foldV printV [] xs = some [y] ∧ Gl w) := ⟨h, hG, hl, by have := TrV.fold _ hT []; simpa using this, hGl⟩
  obtain ⟨n, hn⟩ : ∃ n, n = xs.length := ⟨_, rfl⟩
  have HL : Hid (n = xs.length) := hn
  rw [← hn] at hl ⊢
  clear h hG hn hT hGl
  obtain ⟨W0, hW0⟩ : ∃ W0 : World, W0 = (w.alloc (Obj.cells #[.int .i64 0, .slice none 0 0] 42)).alloc (Obj.cells #[] 42) := ⟨_, rfl⟩
  have HW0 : Hid (FpJ w xs 0 (w.heap.size + 1) 0 [] W0) := by
    obtain ⟨V, hV⟩ : ∃ V : World, V = w.alloc (Obj.cells #[.int .i64 0, .slice none 0 0] 42) := ⟨_, rfl⟩
    have hz : V.heap.size = w.heap.size + 1 := by rw [hV]; simp
    have hb : Below V.heap.size V W0 := by rw [hW0, ← hV]; exact (Below.refl _ _).alloc (Nat.le_refl _) _
    have hbV : Below w.heap.size w V := by rw [hV]; exact (Below.refl _ _).alloc (Nat.le_refl _) _
    have hBx : BoxAt V w.heap.size 42 2 w.heap.size [.int .i64 0, .slice none 0 0] := by rw [hV]; exact boxAt_new w _ (Nat.le_refl _) rfl
    refine ⟨rfl, ?_, hBx.below hb, (fun p hp => by cases hp), hbV.trans (hb.mono (by omega))⟩
    rw [hW0, ← hV, ← hz]
    exact ownPo_new V (Nat.le_refl _)
  go_enter Tryd.func18, Tryd.ntmps18
  go_upto_region 2 with fail
  rw [← hW0]
  clear hW0
  go_wp2_with fail
  go_loopw [6, 14] (fun sv iv wr => ∃ (j m g cp : Nat) (ps : List Po), iv = .int .i64 (j : Int) ∧ j ≤ n ∧ m = ps.length ∧ m ≤ j ∧ m ≤ cp ∧ sv = .slice (some ⟨g, 0, none⟩) m cp ∧ FpJ w xs j g cp ps wr) (fun _ iv _ => n - (intOf iv).toNat)
  case atStart => exact ⟨0, 0, _, 0, [], rfl, Nat.zero_le _, rfl, Nat.le_refl _, Nat.zero_le _, rfl, HW0.out⟩
  case round =>
    obtain ⟨j, m, g, cp, ps, rfl, hj, hm, hmj, hmc, rfl, hJ⟩ := hrel
    have HJ : Hid (m = ps.length ∧ FpJ w xs j g cp ps wr) := ⟨hm, hJ⟩
    have hgl := hJ.own.lt
    have hcp : cp ≤ 9223372036854775807 := by have := hJ.own.caps.2; unfold maxLen at this; omega
    have hsz := hJ.below.size
    have hrl := hJ.res.lt.2
    clear hm hJ HW0
    by_cases hlt : j < n
    · have zj : (j : Int) < (n : Int) := by omega
      obtain ⟨e, he⟩ : ∃ e, xs[j]? = some e := ⟨_, List.getElem?_eq_getElem (by have := HL.out; omega)⟩
      obtain ⟨d0, d1, d2, d3, d4, d5, d6⟩ := (HF.out.1.below HJ.out.2.below hg) j e he
      simp only [Nat.zero_add] at d0 d1 d2 d3 d4 d5 d6
      have HE : Hid (xs[j]? = some e ∧ GoodN e ∧ NumN e) := ⟨he, HF.out.2.1 e (List.mem_of_getElem? he)⟩
      clear he
      obtain ⟨W1, hW1⟩ : ∃ W1 : World, W1 = wr.alloc (Obj.cells #[.int .i64 e.kind, .string e.s, .bool e.hi, .string e.t, .int .u64 e.lo, .int .u64 e.up, .int .i64 e.n] 53) := ⟨_, rfl⟩
      have hb1 : Below wr.heap.size wr W1 := by rw [hW1]; exact (Below.refl _ _).alloc (Nat.le_refl _) _
      have hz1 : W1.heap.size = wr.heap.size + 1 := by rw [hW1]; simp
      have HJ1 : Hid (m = ps.length ∧ FpJ w xs j g cp ps W1 ∧ BoxAt W1 w.heap.size 53 7 wr.heap.size e.seven) := by
        refine ⟨HJ.out.1, HJ.out.2.move hb1, ?_⟩
        rw [hW1]; exact boxAt_new wr _ hsz rfl
      go_upto_region 5 with fail
      rw [← hW1]
      clear hW1 d0 d1 d2 d3 d4 d5 d6 HJ hb1
      have c0 := HJ1.out.2.2.cell (j := 0) rfl
      have c1 := HJ1.out.2.2.cell (j := 1) rfl
      have c2 := HJ1.out.2.2.cell (j := 2) rfl
      have c3 := HJ1.out.2.2.cell (j := 3) rfl
      have c4 := HJ1.out.2.2.cell (j := 4) rfl
      have c5 := HJ1.out.2.2.cell (j := 5) rfl
      have c6 := HJ1.out.2.2.cell (j := 6) rfl
      obtain ⟨a, ha⟩ : ∃ a, a = arity e.kind := ⟨_, rfl⟩
      have ha3 : a ≤ 3 := by rw [ha]; exact arity_le _
      have HAr : Hid (Calls Tryd.prog 33 #[.int .i64 e.kind] W1 fun r w' => r = .returned (.int .i64 (a : Int)) ∧ w' = W1) := by rw [ha]; exact operandCount_core e.kind W1
      have HAk : Hid (a = arity e.kind) := ha
      clear ha
      go_wp2_with fail
      refine HAr.out.mono ?_
      rintro r w9 ⟨rfl, hw9⟩
      rw [hw9]
      clear hw9 HAr
      by_cases hfr : m < a
      · exfalso
        have hno := foldG_stop printV HJ1.out.2.1.fold HE.out.1 (by rw [List.length_map, ← HJ1.out.1, ← HAk.out]; exact hfr)
        rw [HF.out.2.2.2.1] at hno
        cases hno
      · obtain ⟨fr, hfrm⟩ : ∃ fr : Nat, (m : Int) - (a : Int) = (fr : Int) := ⟨m - a, by omega⟩
        have hfrle : fr ≤ m := by omega
        have HFr : Hid (fr = ps.length - arity e.kind ∧ arity e.kind ≤ ps.length) := by
          have h1 := HJ1.out.1
          have h2 := HAk.out
          exact ⟨by omega, by omega⟩
        have zf : ¬ (fr : Int) < 0 := by omega
        have z2 : (fr : Int) ≤ (m : Int) := by omega
        have z3 : (m : Int) ≤ (cp : Int) := by omega
        obtain ⟨Y, hY⟩ : ∃ Y, Y = (printV e ((ps.drop fr).map Po.pt)).2 := ⟨_, rfl⟩
        have HY : Hid (foldV printV [] (xs.take (j + 1)) = some ((ps.take fr).map Po.pt ++ [(e.kind, Y)])) := by
          show _ = _
          have h9 := foldG_next printV HJ1.out.2.1.fold HE.out.1 (by rw [List.length_map]; exact HFr.out.2)
          rw [List.length_map, ← HFr.out.1, ← List.map_take, ← List.map_drop] at h9
          rw [h9, hY]
          rfl
        obtain ⟨ad, had⟩ : ∃ ad : Option Addr, (if cp = fr then some (⟨g, 0, none⟩ : Addr) else some ⟨g, fr * 2, none⟩) = ad := ⟨_, rfl⟩
        have HSh : Hid (∀ X, Below W1.heap.size W1 X → Calls Tryd.prog 19 #[.agg #[.int .i64 e.kind, .string e.s, .bool e.hi, .string e.t, .int .u64 e.lo, .int .u64 e.up, .int .i64 e.n], .slice ad (m - fr) (cp - fr)] X (PnP e.kind Y X)) := fun X hX => by
          have hJX := HJ1.out.2.1.move hX
          have hs2 := (hJX.own.at).drop fr
          rw [Nat.zero_add] at hs2
          have hlen : (ps.drop fr).length = m - fr := by rw [List.length_drop, ← HJ1.out.1]
          have hX2 := hX.size
          have hla : (ps.drop fr).length = arity e.kind := by rw [List.length_drop]; have := HFr.out.1; have := HFr.out.2; omega
          have hE : ∀ p ∈ ps.drop fr, BysAt X p.b 0 p.t ∧ p.b < X.heap.size ∧ p.t.length ≤ 400000 := fun p hp => by
            have h1 := hJX.txt p (List.mem_of_mem_drop hp)
            refine ⟨h1.1.at, h1.1.lt.2, ?_⟩
            exact fold_len HJ1.out.2.1.fold (fun e he => HF.out.2.1 e (List.mem_of_mem_take he)) (by rw [List.length_take]; have := HF.out.2.2.1; omega) p.pt (List.mem_map.2 ⟨p, List.mem_of_mem_drop hp, rfl⟩)
          have hglX : Gl X := HF.out.2.2.2.2.on hJX.below hB
          have hbX : 5 ≤ X.heap.size := by have := hJX.below.size; omega
          rw [hY, ← had]
          by_cases hcf : cp = fr
          · rw [if_pos hcf]
            have hnil : ps.drop fr = [] := List.length_eq_zero_iff.1 (by rw [hlen]; omega)
            have h9 := printNode_core e g 0 (cp - fr) (ps.drop fr) X HE.out.2.1 HE.out.2.2 hla hJX.own.lt.2 (by rw [hnil]; intro i s hs; simp at hs) hE hglX hbX
            rw [hlen] at h9
            exact h9
          · rw [if_neg hcf]
            have h9 := printNode_core e g (fr * 2) (cp - fr) (ps.drop fr) X HE.out.2.1 HE.out.2.2 hla hJX.own.lt.2 hs2 hE hglX hbX
            rw [hlen] at h9
            exact h9
        clear hY hfr
        go_upto_region 8 with fail
        go_cut [10] (fun sv wx => ∃ SB b c, sv = .pointer (some ⟨SB, 0, none⟩) ∧ FpK w xs j g cp ps SB ⟨e.kind, b, c, Y⟩ wx)
        case first =>
          go_region_law ((go_simp; go_at_call 19; refine (HSh.out _ ?hX).mono ?_; (case hX => (repeat (first | exact Below.refl _ _ | refine Below.drew ?_ | refine Below.alloc ?_ (by simp) _))); rintro r w' ⟨vb, vc, rfl, hvO, hbb⟩; obtain ⟨hcc, hff⟩ := bcell hbb; have hsz' := hbb.size))
          all_goals go_wp2_with fail
          all_goals go_meet
          all_goals first
            | exact ⟨_, vb, vc, rfl, fp_after ⟨e.kind, vb, vc, Y⟩ HJ1.out.2.1 hbb hvO⟩
            | exact ⟨_, vb, vc, rfl, by have h9 := fp_before ⟨e.kind, vb, vc, Y⟩ HJ1.out.2.1 hbb hvO; rw [hz1] at h9; exact h9⟩
        case rest =>
        obtain ⟨SB, yb, yc, rfl, hK⟩ := hcut
        obtain ⟨yl, hyl⟩ : ∃ yl, yl = Y.length := ⟨_, rfl⟩
        have HK : Hid (FpK w xs j g cp ps SB ⟨e.kind, yb, yc, Y⟩ wc ∧ yl = Y.length) := ⟨hK, hyl⟩
        have b0 := hK.box.cell (j := 0) rfl
        have b1 := hK.box.cell (j := 1) rfl
        simp only at b0 b1
        rw [← hyl] at b1
        have hgl2 := hK.fo.own.lt
        have hsb := hK.box.lt.2
        have hnsb := hK.ne
        have hsz2 := hK.fo.below.size
        have HM : Hid (fr = (ps.take fr).length) := by
          show fr = _
          rw [List.length_take, ← HJ1.out.1]
          omega
        clear hK c0 c1 c2 c3 c4 c5 c6 HSh hyl
        go_upto_region 9 with fail
        have hfl : fr ≤ ps.length := by rw [← HJ1.out.1]; exact hfrle
        have z4 : (fr : Int) ≤ (cp : Int) := by omega
        have z5 : fr ≤ cp := by omega
        go_region_law ((refine step_append_pt _ (by rfl) _ _ (by rfl) (w.heap.size + 1) fr g cp wc.heap.size (ps.take fr) ⟨e.kind, yb, yc, Y⟩ HM.out (by rfl) (by rfl) ?hO ?hc ?hl ?hb ?_
                        case hO => (refine OwnPo.below (HK.out.1.fo.own.take hfl) ?_; repeat (first | exact Below.refl _ _ | refine Below.drew ?_ | refine Below.alloc ?_ (by simp) _))
                        case hc => (have h9 := pt_new wc ⟨e.kind, yb, yc, Y⟩ _ rfl; simp only [← HK.out.2] at h9; exact fun i q hq => by simpa using h9 i q hq)
                        case hl => rw [← HM.out]; omega
                        case hb => simp; omega
                        intro g' cp' w' hO' hgr' hat'
                        have fin : Hid (FpJ w xs (j + 1) g' cp' (ps.take fr ++ [⟨e.kind, yb, yc, Y⟩]) w' ∧ fr + 1 ≤ cp') := fp_push HK.out.1 (by repeat (first | exact Below.refl _ _ | refine Below.drew ?_ | refine Below.alloc ?_ (by simp) _)) (by rw [HY.out, List.map_append]; rfl) hO' hgr' hat' HM.out
                        clear hO' hgr' hat'))
        all_goals go_wp2_with fail
        all_goals go_roundw
        all_goals first
          | exact ⟨j + 1, fr + 1, g', cp', ps.take fr ++ [⟨e.kind, yb, yc, Y⟩], by go_num, by omega, by rw [List.length_append, List.length_singleton, ← HM.out], by omega, fin.out.2, rfl, fin.out.1⟩
          | (simp [intOf]; omega)
    · have zj : ¬ (j : Int) < (n : Int) := by omega
      obtain ⟨p, hps, hpy⟩ : ∃ p, ps = [p] ∧ p.pt = y := by
        have h1 := HJ.out.2.fold
        rw [List.take_of_length_le (by have := HL.out; omega), HF.out.2.2.2.1] at h1
        have h2 := Option.some.inj h1
        match ps, h2 with
        | [p], h2 => exact ⟨p, rfl, by simpa using h2.symm⟩
      have hm1 : m = 1 := by rw [HJ.out.1, hps]; rfl
      subst hm1
      have HJp : Hid (FpJ w xs j g cp [p] wr ∧ p.pt = y) := ⟨by rw [← hps]; exact HJ.out.2, hpy⟩
      clear hps hpy HJ
      obtain ⟨q0, q1⟩ := HJp.out.1.own.at 0 p rfl
      simp only [Nat.zero_add, Nat.zero_mul] at q0 q1
      obtain ⟨pk, pb, pc, pt⟩ := p
      obtain ⟨pl, hpl⟩ : ∃ pl, pl = pt.length := ⟨_, rfl⟩
      simp only at q0 q1
      rw [← hpl] at q1
      have r0 := HJp.out.1.res.cell (j := 0) rfl
      have r1 := HJp.out.1.res.cell (j := 1) rfl
      have f0 := HJp.out.1.res.frozen 0
      have f1 := HJp.out.1.res.frozen 1
      obtain ⟨W9, hW9⟩ : ∃ W9 : World, W9 = (wr.setCell ⟨w.heap.size, 0, none⟩ (.int .i64 pk)).setCell ⟨w.heap.size, 1, none⟩ (.slice (some ⟨pb, 0, none⟩) pl pc) := ⟨_, rfl⟩
      have HW9 : Hid (BoxAt W9 w.heap.size 42 2 w.heap.size [.int .i64 pk, .slice (some ⟨pb, 0, none⟩) pl pc] ∧ FpP y w (.returned (.tuple #[.agg #[.int .i64 pk, .slice (some ⟨pb, 0, none⟩) pl pc], .bool true])) W9) := by
        have hC : Chg (fun k => k = w.heap.size) wr W9 := by rw [hW9]; exact (Chg.of_set wr _ 0 _ (S := fun k => k = w.heap.size) rfl).trans (Chg.of_set _ _ 1 _ rfl)
        have hx := (HJp.out.1.txt ⟨pk, pb, pc, pt⟩ (by simp)).1
        have hxl := hx.lt
        simp only at hxl
        refine ⟨by rw [hW9]; exact (HJp.out.1.res.set 0 _).set 1 _, pb, pc, ?_, ?_, ?_⟩
        · rw [← HJp.out.2, hpl]
        · rw [← HJp.out.2]; exact (hx.chg hC (by show ¬ pb = _; omega)).mono (by omega)
        · rw [hW9]; exact below_set (below_set HJp.out.1.below (Nat.le_refl _) 0 _) (Nat.le_refl _) 1 _
      have p0 := HW9.out.1.cell (j := 0) rfl
      have p1 := HW9.out.1.cell (j := 1) rfl
      clear hpl
      go_wp2_with fail
      rw [← hW9]
      exact bodyPost_ret (v := .tuple #[.agg #[.int .i64 pk, .slice (some ⟨pb, 0, none⟩) pl pc], .bool true]) (by simp [results, Tryd.results18, go_sem, p0, p1]) rfl HW9.out.2
/-- What PrintFilter hands back. -/
def PrtOf (xs : List Nd) (R : List UInt8) : Prop := (¬ GoodF xs ∧ R = []) ∨ (GoodF xs ∧ ∃ k, TextF xs (k, R))
theorem prtOf_one {xs : List Nd} {R S : List UInt8} (h : PrtOf xs R) (k : PrtOf xs S) : R = S := by
  rcases h with ⟨h1, rfl⟩ | ⟨h1, a, h2⟩
  · rcases k with ⟨_, rfl⟩ | ⟨k1, _⟩
    · rfl
    · exact absurd k1 h1
  · rcases k with ⟨k1, _⟩ | ⟨_, b, k2⟩
    · exact absurd h1 k1
    · have := textF_one h2 k2
      exact (Prod.mk.inj this).2
theorem goodF_text {xs : List Nd} (h : GoodF xs) : ∃ y, TextF xs y := by
  obtain ⟨_, s, hs, _⟩ := h
  exact textF_ex (ShT.tree goodB hs)
theorem num_of_ok {e : Nd} (h : e.ok) : NumN e := by
  have h1 := wf_u64 h.lo
  have h2 := wf_u64 h.up
  exact ⟨h1.1, h1.2, h2.1, h2.2⟩
def PrtU (xs : List Nd) (w : World) (r : Ending) (w' : World) : Prop := ∃ g cp R, r = .returned (.slice (some ⟨g, 0, none⟩) R.length cp) ∧ OwnY w' w.heap.size g cp R ∧ PrtOf xs R ∧ Below w.heap.size w w'
set_option maxHeartbeats 4000000 in
theorem implPrint_core {w : World} {base g cp : Nat} {xs : List Nd} (h : OwnNd w base g cp xs) (hok : ∀ e ∈ xs, e.ok) (hGl : Gl w) (hB : 5 ≤ w.heap.size) : Calls Tryd.prog 7 #[.agg #[.slice (some ⟨g, 0, none⟩) xs.length cp]] w (PrtU xs w) := by
  have HO : Hid (OwnNd w base g cp xs ∧ (∀ e ∈ xs, e.ok) ∧ Gl w) := ⟨h, hok, hGl⟩
  have hgl := h.lt.2
  have hcp := h.caps
  obtain ⟨W0, hW0⟩ : ∃ W0 : World, W0 = w.alloc (Obj.cells #[.slice (some ⟨g, 0, none⟩) xs.length cp] 30) := ⟨_, rfl⟩
  have hb0 : Below w.heap.size w W0 := by rw [hW0]; exact (Below.refl _ _).alloc (Nat.le_refl _) _
  have hz0 : w.heap.size < W0.heap.size := by rw [hW0]; simp
  have c0 : W0.cell? ⟨w.heap.size, 0, none⟩ = some (.slice (some ⟨g, 0, none⟩) xs.length cp) := by rw [hW0]; simp
  have HO0 : Hid (OwnNd W0 base g cp xs) := h.below hb0 hgl
  clear h hok hGl
  go_enter Tryd.func7, Tryd.ntmps7
  go_upto_region 1 with fail
  rw [← hW0]
  clear hW0
  go_wp2_with fail
  refine (implFilter_core HO0.out HO.out.2.1).mono ?_
  rintro e w1 ⟨r, rfl, hr, hb1⟩
  have HR : Hid (r = true ↔ GoodF xs) := hr
  have s1 := hb1.size
  have k1 : Below w.heap.size w w1 := hb0.trans (hb1.mono (by omega))
  have c1 : w1.cell? ⟨w.heap.size, 0, none⟩ = some (.slice (some ⟨g, 0, none⟩) xs.length cp) := by rw [hb1.cell (p := ⟨w.heap.size, 0, none⟩) hz0]; exact c0
  have HO1 : Hid (OwnNd w1 base g cp xs) := HO0.out.below hb1 HO0.out.lt.2
  clear hr c0
  cases r
  case false =>
    have HG : Hid (PrtU xs w (.returned (.slice (some ⟨w1.heap.size, 0, none⟩) 0 0)) (w1.alloc (Obj.cells #[] 5))) := ⟨w1.heap.size, 0, [], rfl, ownY_new w1 k1.size, .inl ⟨fun q => Bool.noConfusion (HR.out.2 q), rfl⟩, k1.alloc k1.size _⟩
    go_wp2_with fail
    go_ret
    exact HG.out
  case true =>
  have hG : GoodF xs := HR.out.1 rfl
  obtain ⟨y, hy⟩ := goodF_text hG
  have HC : Hid (Calls Tryd.prog 18 #[.slice (some ⟨g, 0, none⟩) xs.length cp, .func (Fn.func 19) #[] #[]] w1 (FpP y w1)) :=
    foldPrint_core HO1.out.at HO1.out.lt.2 (fun e he => ⟨goodF_all hG e he, num_of_ok (HO.out.2.1 e he)⟩) hG.1 hy (HO.out.2.2.on k1 hB) (by omega)
  have HY : Hid (TextF xs y ∧ GoodF xs) := ⟨hy, hG⟩
  clear hy hG
  go_wp2_with fail
  refine HC.out.mono ?_
  rintro e w3 ⟨b, c, rfl, hOb, hb3⟩
  obtain ⟨yk, yt⟩ := y
  obtain ⟨yl, hyl⟩ : ∃ yl, yl = yt.length := ⟨_, rfl⟩
  simp only
  rw [← hyl]
  have s3 := hb3.size
  have HG : Hid (PrtU xs w (.returned (.slice (some ⟨b, 0, none⟩) yl c)) (w3.alloc (Obj.cells #[.int .i64 yk, .slice (some ⟨b, 0, none⟩) yl c] 42))) := by
    have hbb : Below w3.heap.size w3 (w3.alloc (Obj.cells #[.int .i64 yk, .slice (some ⟨b, 0, none⟩) yl c] 42)) := (Below.refl _ _).alloc (Nat.le_refl _) _
    exact ⟨b, c, yt, by rw [hyl], (hOb.mono k1.size).below hbb, .inr ⟨HY.out.2, yk, HY.out.1⟩, (k1.trans (hb3.mono k1.size)).trans (hbb.mono (by omega))⟩
  clear hyl hOb
  go_wp2_with fail
  go_ret
  exact HG.out
end Go.Proofs.YtddemgkbfdhpnaaDoor

/-
  spec.PrintFilter.
-/
namespace Go.Proofs.YtddemgkbfdhpnaaDoor
open Go.ChangeShapes Go.WideShapes Go.ChangeAt Go.RowKit Go.Deep
set_option linter.unusedVariables false
set_option linter.unusedSimpArgs false
set_option maxRecDepth 100000

def PrtS (xs : List Nd) (w : World) (r : Ending) (w' : World) : Prop := ∃ g cp R, r = .returned (.slice (some ⟨g, 0, none⟩) R.length cp) ∧ WrB w' w.heap.size g cp R ∧ PrtOf xs R ∧ Below w.heap.size w w'
theorem prtOf_len {xs : List Nd} {R : List UInt8} (h : PrtOf xs R) (hok : ∀ e ∈ xs, e.ok) : R.length ≤ 400000 := by
  rcases h with ⟨_, rfl⟩ | ⟨hG, k, hT⟩
  · simp
  · have h1 := textF_len hT (fun e he => ⟨goodF_all hG e he, num_of_ok (hok e he)⟩)
    have h2 := hG.1
    simp only at h1
    omega
set_option maxHeartbeats 4000000 in
theorem specPrint_core {w : World} {base g cp : Nat} {xs : List Nd} (h : OwnNd w base g cp xs) (hok : ∀ e ∈ xs, e.ok) (hc : cp ≤ 281474976710656) : Calls Tryd.prog 5 #[.agg #[.slice (some ⟨g, 0, none⟩) xs.length cp]] w (PrtS xs w) := by
  have HO : Hid (OwnNd w base g cp xs ∧ (∀ e ∈ xs, e.ok)) := ⟨h, hok⟩
  have hgl := h.lt.2
  have hcp := h.caps
  obtain ⟨W0, hW0⟩ : ∃ W0 : World, W0 = w.alloc (Obj.cells #[.slice (some ⟨g, 0, none⟩) xs.length cp] 30) := ⟨_, rfl⟩
  have hb0 : Below w.heap.size w W0 := by rw [hW0]; exact (Below.refl _ _).alloc (Nat.le_refl _) _
  have hz0 : w.heap.size < W0.heap.size := by rw [hW0]; simp
  have c0 : W0.cell? ⟨w.heap.size, 0, none⟩ = some (.slice (some ⟨g, 0, none⟩) xs.length cp) := by rw [hW0]; simp
  have HO0 : Hid (OwnNd W0 base g cp xs) := h.below hb0 hgl
  clear h hok
  go_enter Tryd.func5, Tryd.ntmps5
  go_upto_region 1 with fail
  rw [← hW0]
  clear hW0
  go_wp2_with fail
  refine (specFilter_core HO0.out HO.out.2 hc).mono ?_
  rintro e w1 ⟨r, rfl, hr, hb1⟩
  have HR : Hid (r = true ↔ GoodF xs) := hr
  have s1 := hb1.size
  have k1 : Below w.heap.size w w1 := hb0.trans (hb1.mono (by omega))
  have c1 : w1.cell? ⟨w.heap.size, 0, none⟩ = some (.slice (some ⟨g, 0, none⟩) xs.length cp) := by rw [hb1.cell (p := ⟨w.heap.size, 0, none⟩) hz0]; exact c0
  have HO1 : Hid (OwnNd w1 base g cp xs) := HO0.out.below hb1 HO0.out.lt.2
  clear hr c0
  cases r
  case false =>
    have HG : Hid (PrtS xs w (.returned (.slice (some ⟨w1.heap.size, 0, none⟩) 0 0)) (w1.alloc (Obj.cells #[] 5))) := ⟨w1.heap.size, 0, [], rfl, (ownY_new w1 k1.size).wr, .inl ⟨fun q => Bool.noConfusion (HR.out.2 q), rfl⟩, k1.alloc k1.size _⟩
    go_wp2_with fail
    go_ret
    exact HG.out
  case true =>
  have hG : GoodF xs := HR.out.1 rfl
  obtain ⟨y, hy⟩ := goodF_text hG
  have HC : Hid (Calls Tryd.prog 15 #[.slice (some ⟨g, 0, none⟩) xs.length cp] w1 (TxP y.2 w1)) :=
    text_all _ w1 g 0 cp xs y (Nat.le_refl _) hG.1 ⟨HO1.out.at, HO1.out.lt.2, HO1.out.caps.1, hc⟩ hy (fun e he => ⟨goodF_all hG e he, num_of_ok (HO.out.2 e he)⟩)
  have HY : Hid (TextF xs y ∧ GoodF xs) := ⟨hy, hG⟩
  clear hy hG
  go_wp2_with fail
  refine HC.out.mono ?_
  rintro e w3 ⟨b, c, rfl, hOb, hb3⟩
  obtain ⟨yk, yt⟩ := y
  have s3 := hb3.size
  have HG : Hid (PrtS xs w (.returned (.slice (some ⟨b, 0, none⟩) yt.length c)) w3) := ⟨b, c, yt, rfl, hOb.mono k1.size, .inr ⟨HY.out.2, yk, HY.out.1⟩, k1.trans (hb3.mono k1.size)⟩
  clear hOb
  go_wp2_with fail
  go_ret
  exact HG.out
end Go.Proofs.YtddemgkbfdhpnaaDoor

/-
  The law FnExactPrintFilter: the walk.
-/
namespace Go.Proofs.YtddemgkbfdhpnaaDoor.exPrint
open Go.ChangeShapes Go.WideShapes Go.ChangeAt Go.RowKit Go.Deep
set_option linter.unusedVariables false
set_option linter.unusedSimpArgs false
set_option maxRecDepth 100000

theorem toFilter_in (W0 : World) (u : Value) (es : List Nd) (w : World) (hb : Below W0.heap.size W0 w) (h : Hid (InNds W0 u es)) (h1 : es.length ≤ 1048576) :
    Calls Tryd.prog 6 #[.agg #[u]] w fun e w' =>
      ∃ g, e = .returned (.agg #[.slice (some ⟨g, 0, none⟩) es.length es.length]) ∧ Hid (InNds w' (.slice (some ⟨g, 0, none⟩) es.length es.length) es) ∧ Below W0.heap.size W0 w' ∧ (∀ b o, b < W0.heap.size → w'.cell? ⟨b, o, none⟩ = W0.cell? ⟨b, o, none⟩) := by
  refine (toFilter_any u es w (h.out.below hb (Nat.le_refl _)) h1).mono ?_
  rintro e w' ⟨g, he, hO, hb'⟩
  have k := hb.trans (hb'.mono hb.size)
  exact ⟨g, he, InNds.own hO rfl, k, fun b o hlt => k.cell (p := ⟨b, o, none⟩) hlt⟩
theorem eqFilter_in (W0 : World) (u u' : Value) (es : List Nd) (w : World) (hb : Below W0.heap.size W0 w) (h : Hid (InNds W0 u es)) (h' : Hid (InNds w u' es)) :
    Calls Tryd.prog 9 #[.agg #[u], .agg #[u']] w fun e w' => e = .returned (.bool true) ∧ Below W0.heap.size W0 w' := by
  refine (eqFilter_any u u' es w (h.out.below hb (Nat.le_refl _)) h'.out).mono ?_
  rintro e w' ⟨he, hb'⟩
  exact ⟨he, hb.trans (hb'.mono hb.size)⟩

set_option maxHeartbeats 8000000 in
theorem walk (u : Value) (es : List Nd) (w : World) (h : InNds w u es) (hok : ∀ e ∈ es, e.ok) (hGl : Gl w) (hB : 5 ≤ w.heap.size) :
    Calls Tryd.prog 3 #[.agg #[u]] w fun e w' => e = .returned (.bool true) ∧ Below w.heap.size w w' := by
  have HE : Hid (InNds w u es ∧ (∀ e ∈ es, e.ok) ∧ Gl w) := ⟨h, hok, hGl⟩
  have hu : u.cells = #[u] := by
    rcases h with ⟨a, cap, rfl, _⟩ | ⟨b, off, cap, rfl, _⟩ <;> rfl
  clear h hok hGl
  obtain ⟨W0, hW0⟩ : ∃ W0 : World, W0 = w.alloc (Obj.cells #[u] 24) := ⟨_, rfl⟩
  have hb0 : Below w.heap.size w W0 := by rw [hW0]; exact (Below.refl _ _).alloc (Nat.le_refl _) _
  have hz0 : w.heap.size < W0.heap.size := by rw [hW0]; simp
  have ca : W0.cell? ⟨w.heap.size, 0, none⟩ = some u := by rw [hW0]; simp
  have HE0 : Hid (InNds W0 u es) := HE.out.1.below hb0 (Nat.le_refl _)
  have HA : Hid (∀ wx, Below W0.heap.size W0 wx → wx.cell? ⟨w.heap.size, 0, none⟩ = some u ∧ InNds wx u es ∧ Gl wx) := fun wx hx => ⟨by rw [hx.cell (p := ⟨w.heap.size, 0, none⟩) hz0]; exact ca, HE0.out.below hx (Nat.le_refl _), (HE.out.2.2.on hb0 hB).on hx (by omega)⟩
  go_enter Tryd.func3, Tryd.ntmps3
  go_wp2_with fail
  rw [← hW0]
  clear hW0
  refine (szFilter_any u es _ _ HE0.out HE.out.2.1 (by omega) (by omega)).mono ?_
  rintro e w1 ⟨x, rfl, hx, hb1⟩
  have hs1 := hb1.size
  by_cases hx0 : x < 0
  · clear hx
    go_wp2_with fail
    go_ret
    exact ⟨rfl, hb0.trans (hb1.mono (by omega))⟩
  have hn : es.length ≤ 1048576 := by omega
  clear hx ca
  obtain ⟨ca, hE1, _⟩ := HA.out w1 hb1
  have HE1 : Hid (InNds w1 u es) := hE1
  clear hE1
  go_wp2_with fail
  refine (toFilter_any u es _ HE1.out hn).mono ?_
  rintro e w2 ⟨g, rfl, hO, hb2⟩
  have hs2 := hb2.size
  have HO : Hid (OwnNd w2 w1.heap.size g es.length es) := hO
  have j2 : Below W0.heap.size W0 w2 := hb1.trans (hb2.mono (by omega))
  clear hO ca
  go_wp2_with fail
  refine (specPrint_core HO.out HE.out.2.1 (by omega)).mono ?_
  rintro e w3 ⟨b0, c0, R, rfl, hU3, hR3, hb3⟩
  have s3 := hb3.size
  have hRl : R.length ≤ 400000 := prtOf_len hR3 HE.out.2.1
  have hl0 := hU3.le
  have hl0' := hU3.lt
  have HU3 : Hid (WrB w3 w2.heap.size b0 c0 R ∧ PrtOf es R) := ⟨hU3, hR3⟩
  clear hU3 hR3
  have j3 : Below W0.heap.size W0 w3 := j2.trans (hb3.mono (by omega))
  obtain ⟨ca, hE3, _⟩ := HA.out w3 j3
  have HE3 : Hid (InNds w3 u es) := hE3
  clear hE3
  go_wp2_with fail
  refine (toFilter_any u es _ HE3.out hn).mono ?_
  rintro e w5 ⟨gx, rfl, hO5, hb5⟩
  have s5 := hb5.size
  have hgx := hO5.lt
  have HX5 : Hid (OwnNd w5 w3.heap.size gx es.length es) := hO5
  clear hO5 ca
  obtain ⟨W6, hW6⟩ : ∃ W6 : World, W6 = w5.alloc (Obj.cells #[.slice (some ⟨gx, 0, none⟩) es.length es.length] 30) := ⟨_, rfl⟩
  have hb6 : Below w5.heap.size w5 W6 := by rw [hW6]; exact (Below.refl _ _).alloc (Nat.le_refl _) _
  have s6 : W6.heap.size = w5.heap.size + 1 := by rw [hW6]; simp
  have HC6 : Hid (W6.cell? ⟨w5.heap.size, 0, none⟩ = some (.slice (some ⟨gx, 0, none⟩) es.length es.length)) := by show W6.cell? _ = _; rw [hW6]; simp
  have HX6 : Hid (OwnNd W6 w3.heap.size gx es.length es) := HX5.out.below hb6 HX5.out.lt.2
  have k36 : Below w3.heap.size w3 W6 := hb5.trans (hb6.mono (by omega))
  have j6 : Below W0.heap.size W0 W6 := j3.trans (k36.mono j3.size)
  go_upto_region 7 with fail
  rw [← hW6]
  clear hW6
  have cx := HC6.out
  have s0 := j6.size
  go_wp2_with fail
  refine (implPrint_core HX6.out HE.out.2.1 (HA.out W6 j6).2.2 (by omega)).mono ?_
  rintro e w7 ⟨b1, c1, R', rfl, hU7, hR7, hb7⟩
  have s7 := hb7.size
  obtain rfl : R = R' := prtOf_one HU3.out.2 hR7
  have hl1 := hU7.lt
  have HU7 : Hid (OwnY w7 W6.heap.size b1 c1 R ∧ WrB w7 w2.heap.size b0 c0 R ∧ OwnNd w7 w3.heap.size gx es.length es) := ⟨hU7, (HU3.out.1.below k36).below hb7, HX6.out.below hb7 HX6.out.lt.2⟩
  have j7 : Below W0.heap.size W0 w7 := j6.trans (hb7.mono j6.size)
  clear hU7 hR7 cx
  have HC7 : Hid (w7.cell? ⟨w5.heap.size, 0, none⟩ = some (.slice (some ⟨gx, 0, none⟩) es.length es.length)) := by
    show w7.cell? _ = _
    rw [hb7.cell (p := ⟨w5.heap.size, 0, none⟩) (by show w5.heap.size < W6.heap.size; omega)]; exact HC6.out
  go_wp2_with fail
  refine (eqByteS_same b1 0 c1 b0 0 c0 R _ HU7.out.1.wr.at_ HU7.out.2.1.at_ hl1.2 (by omega) (by unfold maxLen; omega)).mono ?_
  rintro e w9 ⟨rfl, hb9⟩
  have s9 := hb9.size
  have j9 : Below W0.heap.size W0 w9 := j7.trans (hb9.mono j7.size)
  have HC9 : Hid (w9.cell? ⟨w5.heap.size, 0, none⟩ = some (.slice (some ⟨gx, 0, none⟩) es.length es.length)) := by
    show w9.cell? _ = _
    rw [hb9.cell (p := ⟨w5.heap.size, 0, none⟩) (by show w5.heap.size < w7.heap.size; omega)]; exact HC7.out
  have HU9 : Hid (OwnY w9 W6.heap.size b1 c1 R ∧ WrB w9 w2.heap.size b0 c0 R ∧ OwnNd w9 w3.heap.size gx es.length es) := ⟨HU7.out.1.below hb9, HU7.out.2.1.below hb9, HU7.out.2.2.below hb9 (by omega)⟩
  obtain ⟨cx9, ca9⟩ : w9.cell? ⟨w5.heap.size, 0, none⟩ = some (.slice (some ⟨gx, 0, none⟩) es.length es.length) ∧ w9.cell? ⟨w.heap.size, 0, none⟩ = some u := ⟨HC9.out, (HA.out w9 j9).1⟩
  have HE9 : Hid (InNds w9 u es) := (HA.out w9 j9).2.1
  go_upto_region 10 with fail
  go_cut [31] (fun s wx => s = .bool false ∧ Below w9.heap.size w9 wx)
  case first =>
    have hz9 : w5.heap.size < w9.heap.size := by omega
    have hza : w.heap.size < w9.heap.size := by omega
    have HX9 : Hid (InNds w9 (.slice (some ⟨gx, 0, none⟩) es.length es.length) es) := InNds.own HU9.out.2.2 rfl
    go_region_with (first
      | (go_at_call 6; refine (toFilter_in w9 u es _ ?hB HE9 hn).mono ?_; (case hB => (repeat (first | assumption | exact Below.refl _ _ | refine Below.drew ?_))); rintro e w' ⟨g3, rfl, HG, hbb, hcc⟩)
      | (go_at_call 9; refine (eqFilter_in w9 _ _ es _ ?hB HX9 ?hC).mono ?_; (case hB => (repeat (first | assumption | exact Below.refl _ _ | refine Below.drew ?_))); (case hC => assumption); rintro e w' ⟨rfl, hbb2⟩))
    all_goals go_wp2_with fail
    all_goals go_meet
    all_goals exact ⟨rfl, by assumption⟩
  case rest =>
  obtain ⟨rfl, hb10⟩ := hcut
  obtain ⟨w10, hw10⟩ : ∃ w10 : World, w10 = wc := ⟨_, rfl⟩
  subst hw10
  have s10 := hb10.size
  have HC10 : Hid (w10.cell? ⟨w5.heap.size, 0, none⟩ = some (.slice (some ⟨gx, 0, none⟩) es.length es.length)) := by
    show w10.cell? _ = _
    rw [hb10.cell (p := ⟨w5.heap.size, 0, none⟩) (by show w5.heap.size < w9.heap.size; omega)]; exact HC9.out
  have HU10 : Hid (OwnY w10 W6.heap.size b1 c1 R ∧ WrB w10 w2.heap.size b0 c0 R ∧ OwnUN w10 w3.heap.size (.slice (some ⟨gx, 0, none⟩) es.length es.length) es) := ⟨HU9.out.1.below hb10, HU9.out.2.1.below hb10, .inr ⟨gx, es.length, rfl, HU9.out.2.2.below hb10 (by omega)⟩⟩
  have j10 : Below W0.heap.size W0 w10 := j9.trans (hb10.mono j9.size)
  clear cx9 ca9
  have cx10 := HC10.out
  go_wp2_with fail
  refine (markFilter_own w3.heap.size _ es 1 _ HU10.out.2.2 (by omega) (by omega) hn).mono ?_
  rintro e w11 ⟨E1, rfl, _, _, _, hg11⟩
  have hg11' : w10.grownBy w11 (some gx) := hg11
  clear hg11
  have s11 := hg11'.size
  have HU11 : Hid (OwnY w11 W6.heap.size b1 c1 R ∧ WrB w11 w2.heap.size b0 c0 R) :=
    ⟨HU10.out.1.chg (Chg.of_grown (S := fun k => k = gx) hg11' (fun k hk => by cases hk; rfl)) (fun q => by omega), HU10.out.2.1.chg (Chg.of_grown (S := fun k => k = gx) hg11' (fun k hk => by cases hk; rfl)) (fun q => by omega)⟩
  have j11 : Below W0.heap.size W0 w11 := j10.grown hg11' j10.size (fun k hk => by cases hk; have := j3.size; omega)
  clear hg11' cx10
  have hk1 : ¬ (1 + (es.length : Int) * 7 < 0) := by omega
  go_wp2_with fail
  refine (eqByteS_same b1 0 c1 b0 0 c0 R _ HU11.out.1.wr.at_ HU11.out.2.at_ (by omega) (by omega) (by unfold maxLen; omega)).mono ?_
  rintro e w12 ⟨rfl, hb12⟩
  have s12 := hb12.size
  have HU12 : Hid (OwnY w12 W6.heap.size b1 c1 R ∧ WrB w12 w2.heap.size b0 c0 R) := ⟨HU11.out.1.below hb12, HU11.out.2.below hb12⟩
  have j12 : Below W0.heap.size W0 w12 := j11.trans (hb12.mono j11.size)
  clear hk1
  go_wp2_with fail
  refine (markByteS_all W6.heap.size b1 c1 R _ HU12.out.1 (by omega)).mono ?_
  rintro e w13 ⟨rfl, hg13, R1, hl13, hU13, hm13⟩
  have s13 := hg13.size
  have HU13 : Hid (WrB w13 w2.heap.size b0 c0 R) := HU12.out.2.chg (Chg.of_grown (S := fun k => k = b1) hg13 (fun k hk => by cases hk; rfl)) (fun q => by omega)
  have HM13 : Hid (OwnY w13 W6.heap.size b1 c1 R1 ∧ MarkY R1 R1.length) := ⟨hU13, hm13⟩
  have j13 : Below W0.heap.size W0 w13 := j12.grown hg13 j12.size (fun j hj => by cases hj; have := j6.size; omega)
  have HRl : Hid (R1.length = R.length) := hl13
  clear hU13 hm13 hg13 hl13
  go_wp2_with fail
  refine (heldByteS_own W6.heap.size b1 c1 R.length R1 _ HM13.out.1 HM13.out.2 HRl.out (by omega)).mono ?_
  rintro e w14 ⟨rfl, hb14⟩
  have s14 := hb14.size
  have HU14 : Hid (WrB w14 w2.heap.size b0 c0 R) := HU13.out.below hb14
  have j14 : Below W0.heap.size W0 w14 := j13.trans (hb14.mono j13.size)
  have hk2 : (0 : Int) ≤ 1 + (R.length : Int) := by omega
  obtain ⟨ca, hE14, _⟩ := HA.out w14 j14
  have HE14 : Hid (InNds w14 u es) := hE14
  clear hE14
  go_wp2_with fail
  refine (toFilter_any u es _ HE14.out hn).mono ?_
  rintro e w15 ⟨gz, rfl, hO15, hb15⟩
  have s15 := hb15.size
  have HZ15 : Hid (OwnNd w15 w14.heap.size gz es.length es) := hO15
  have j15 : Below W0.heap.size W0 w15 := j14.trans (hb15.mono j14.size)
  clear hO15 ca
  go_wp2_with fail
  refine (implPrint_core HZ15.out HE.out.2.1 (HA.out w15 j15).2.2 (by omega)).mono ?_
  rintro e w16 ⟨b2, c2, R2, rfl, hU16, hR16, hb16⟩
  have s16 := hb16.size
  have hl2 := hU16.lt
  obtain rfl : R = R2 := prtOf_one HU3.out.2 hR16
  have HU16 : Hid (OwnY w16 w15.heap.size b2 c2 R ∧ WrB w16 w2.heap.size b0 c0 R) := ⟨hU16, (HU14.out.below hb15).below hb16⟩
  have j16 : Below W0.heap.size W0 w16 := j15.trans (hb16.mono j15.size)
  clear hU16 hR16
  go_wp2_with fail
  refine (eqByteS_same b2 0 c2 b0 0 c0 R _ HU16.out.1.wr.at_ HU16.out.2.at_ hl2.2 (by omega) (by unfold maxLen; omega)).mono ?_
  rintro e w18 ⟨rfl, hb18⟩
  have k18 : Below w.heap.size w w18 := hb0.trans ((j16.trans (hb18.mono j16.size)).mono (by omega))
  go_wp2_with fail
  go_ret
  exact ⟨rfl, k18⟩
end Go.Proofs.YtddemgkbfdhpnaaDoor.exPrint

/-
  What the tables' premise says.
-/
namespace Go.Proofs.YtddemgkbfdhpnaaDoor.exPrint
open Go.ChangeShapes Go.WideShapes Go.ChangeAt Go.WideMaps Go.WideElems Go.RowKit
set_option linter.unusedVariables false
set_option linter.unusedSimpArgs false
set_option maxRecDepth 100000

theorem gWords : Tryd.prog.globalNamed "loop.example/s01854/impl.nodeWords" = some 0 := by kernel_rfl
theorem tWords : (Tryd.prog.globals[0]?).map (·.type) = some 70 := by kernel_rfl
theorem tPows : (Tryd.prog.globals[2]?).map (·.type) = some 120 := by kernel_rfl
theorem gD64 : Tryd.prog.globalNamed "math/bits.deBruijn64tab" = some 4 := by kernel_rfl
theorem cStr : Tryd.prog.cellsOf 9 = 1 := by kernel_rfl
theorem cU64 : Tryd.prog.cellsOf 49 = 1 := by kernel_rfl
theorem cPows : Tryd.prog.cellsOf 120 = 20 := by kernel_rfl
theorem var_lt {P : Program} {W : World} {n : String} {g : Nat} {cs : Array Value} (hg : P.globalNamed n = some g) (h : W.var? P n = some cs) : g < W.heap.size := by
  unfold World.var? at h
  rw [hg] at h
  simp only [Option.bind_some] at h
  by_cases hlt : g < W.heap.size
  · exact hlt
  · rw [Array.getElem?_eq_none (by omega)] at h
    simp at h
/-- A table of strings, its cells. -/
theorem strs_of_tab {H : Type} {enc : TypeId × Value → H} {P : Program} {w : World} {base : Nat} {sp : Nat → Bool} {held : Bool} {fuel : Nat} {t e : TypeId} {n : Nat} {cs : List Value} {zs : List (List UInt8)} {p : List MemPlace}
    (ht : P.underlying t = some (.array n e)) (he : P.underlying e = some .string) (hce : P.cellsOf e = 1)
    (h : DataW.trod enc P w base sp held fuel t cs = some (.agg (zs.map fun z => .lit (.string z)), p)) : ∀ (i : Nat) (z : List UInt8), zs[i]? = some z → cs[i]? = some (Value.string ⟨z.toArray⟩) := by
  obtain ⟨xs, m, rfl, hx, hl, hn, hel⟩ := DataW.trod_array ht h
  simp only [Prod.mk.injEq, DataW.agg.injEq] at hx
  intro i z hz
  have hlen : zs.length = n := by have := congrArg List.length hx.1; simpa [hn] using this
  have hi : i < n := by have := (List.getElem?_eq_some_iff.1 hz).1; omega
  have h1 := hel i hi
  rw [hce, Nat.mul_one] at h1
  obtain ⟨y, hy⟩ : ∃ y, xs[i]? = some y := ⟨_, List.getElem?_eq_getElem (by omega)⟩
  rw [hy] at h1
  obtain ⟨s, hc, rfl, _⟩ := DataW.trod_string he h1
  have h2 := congrArg (fun l => l[i]?) hx.1
  simp only [List.getElem?_map, hz, hy, Option.map_some, Option.some.injEq, DataW.lit.injEq, Lit.string.injEq] at h2
  have h3 : cs[i]? = some (.string s) := by
    have : ((cs.drop i).take 1)[0]? = some (.string s) := by rw [hc]; rfl
    simpa [List.getElem?_take, List.getElem?_drop] using this
  rw [h3, h2, Lib.mk_data]

theorem of_laid {W : World} (h : laidMetH Tryd.prog Rows.fnExactPrintFilterRow.laid W) : Gl W ∧ 5 ≤ W.heap.size := by
  have h' : laidMetH Tryd.prog [("math/bits.deBruijn32tab", Rows.laid_math_bits_deBruijn32tab), ("math/bits.deBruijn64tab", Rows.laid_math_bits_deBruijn64tab), ("internal/strconv.uint64pow10", Rows.laid_internal_strconv_uint64pow10), ("loop.example/s01854/impl.nodeWords", Rows.laid_loop_example_s01854_impl_nodeWords)] W := h
  clear h
  rw [MakeChecks.laidMetH_plain _ _ _ (by kernel_rfl)] at h'
  obtain ⟨ps, ⟨g0, t0, cs0, f0, p0, q0, hg0, ht0, hv0, hd0, ⟨g1, t1, cs1, f1, p1, q1, hg1, ht1, hv1, hd1, ⟨g2, t2, cs2, f2, p2, q2, hg2, ht2, hv2, hd2, ⟨g3, t3, cs3, f3, p3, q3, hg3, ht3, hv3, hd3, _, _⟩, _⟩, _⟩, _⟩, _⟩ := h'
  obtain rfl := Option.some.inj (gD64.symm.trans hg1)
  obtain rfl := Option.some.inj (pow_named.symm.trans hg2)
  obtain rfl := Option.some.inj (gWords.symm.trans hg3)
  obtain rfl := Option.some.inj (tPows.symm.trans ht2)
  obtain rfl := Option.some.inj (tWords.symm.trans ht3)
  refine ⟨⟨fun k hk => ?_, ?_⟩, var_lt hg1 hv1⟩
  · rw [World.var?_cell hg3 hv3 k]
    have hw := strs_of_tab (zs := (List.range 17).map (fun k => (wordG k).data.toList)) Tryd.underlying70 Tryd.underlying9 cStr (h := hd3) k (wordG k).data.toList (by rw [List.getElem?_map, List.getElem?_range (by omega)]; rfl)
    rw [Lib.mk_data] at hw
    simpa using hw
  · have hc := Lib.cells_of_tab (zs := Lib.pow10Tab) Tryd.underlying120 Tryd.underlying49 cU64 cPows hd2
    unfold Lib.TabIs
    rw [hv2, ← hc]
end Go.Proofs.YtddemgkbfdhpnaaDoor.exPrint

/-
  The law FnExactPrintFilter.
-/
namespace Go.Proofs.YtddemgkbfdhpnaaDoor.exPrint
open Go.ChangeShapes Go.WideShapes Go.ChangeAt Go.WideMaps Go.WideElems Go.RowKit Go.Deep
set_option linter.unusedVariables false
set_option linter.unusedSimpArgs false
set_option maxRecDepth 100000

theorem own : ownKnob Tryd.prog.godebug = none := by kernel_rfl
theorem laidOut : laidOutB Tryd.prog = true := by kernel_rfl
/-- The door's own heap meets the condition. -/
theorem door_met (os : Os) (args : Array Value) : laidMetH Tryd.prog Rows.fnExactPrintFilterRow.laid ((World.doorLaid Tryd.prog 400 os).forCall (fun _ _ => 0) ⟨#[], args, []⟩).memory :=
  laidMetH_of_parts3 (fuel := 8) (laidMet_of_run' 8 (by kernel_rfl) (by kernel_rfl)) (by kernel_rfl) (by kernel_rfl)
theorem var?_below {P : Program} {B g : Nat} {W W' : World} {n : String} {cs : Array Value} (h : Below B W W') (hg : P.globalNamed n = some g) (hgB : g < B) (hv : W.var? P n = some cs) : W'.var? P n = some cs := by
  unfold World.var? at hv ⊢
  simp only [hg, Option.bind_some] at hv ⊢
  rw [h.block g hgB]
  exact hv

set_option maxRecDepth 100000 in
theorem lifted (os : Os) (started : os.Started) (H : Type) (enc : TypeId × Value → H) :
    ReturnsInHanded {} Tryd.checked os 3 .any (fun w args => (Rows.fnExactPrintFilterSpec.pre enc Tryd.prog Tryd.f3 [] false w args ∧ laidMetH Tryd.prog Rows.fnExactPrintFilterRow.laid w) ∧ sizedMet enc Tryd.prog Tryd.f3 (OpenSpec.ofChange Rows.fnExactPrintFilterSpec) false w args)
      (Rows.fnExactPrintFilterSpec.post enc Tryd.prog Tryd.f3 false true false false) := by
  refine returnsInHanded_of_change_and (C := Tryd.checked) (X := fun w _ => laidMetH Tryd.prog Rows.fnExactPrintFilterRow.laid w) (fun _ _ _ hh h => h.of_heap hh) own started (by kernel_rfl) Tryd.func3
    (ChangeSpec.witness_shaped (enc := enc) (C := Tryd.checked) (os := os) (X := fun w _ => laidMetH Tryd.prog Rows.fnExactPrintFilterRow.laid w) false (World.doorLaid Tryd.prog 400 os) #[.agg #[.slice none 0 0]] 8 rfl (World.shaped_of_RefB (by kernel_rfl) (by kernel_rfl)) (by kernel_rfl) (by kernel_rfl) (by kernel_rfl) (door_met os _)) ?_
  intro W base args ds gs before hval0 hW _ _ hL _
  have hval : ∀ (j : Nat) t v, Tryd.f3.params[j]? = some t → args[j]? = some v → Value.okWide Tryd.prog W .any base t v := hval0
  have hW' := hW
  obtain ⟨p, q, hA0, hV, rfl, hfz, hnd⟩ := hW
  have hA : DataW.TrodAll enc Tryd.prog W 0 (fun _ => true) true Tryd.f3.params.toList args.toList ds p := hA0
  rw [Tryd.params3] at hA hval
  obtain ⟨v0, vs0, d0, ds0, p0, q0, hargs, rfl, rfl, h0, r0⟩ := trodAll_cons hA
  obtain ⟨rfl, rfl, rfl⟩ := trodAll_nil r0
  obtain rfl : args = #[v0] := by cases args; simp_all
  have hV1 : DataW.TrodVars enc Tryd.prog W (fun _ => true) ["loop.example/s01854/impl.nodeWords"] gs q := hV
  obtain ⟨gv, tv, cv, fv, dv, pv, rfl, k1, k2, k3, k4, rfl⟩ := trodVars_one hV1
  obtain rfl := Option.some.inj (gWords.symm.trans k1)
  obtain rfl := Option.some.inj (tWords.symm.trans k2)
  have k0 := h0
  have lt0 : ∀ x ∈ p0, x.block < W.heap.size := by obtain ⟨m, hm⟩ := k0; exact DataW.trod_lt m _ _ _ hm
  have ltv : ∀ x ∈ pv, x.block < W.heap.size := DataW.trod_lt fv _ _ _ k4
  obtain ⟨u, es, rfl, hin, ok0⟩ := open_filter (hval 0 24 v0 rfl rfl) h0
  clear hA0 hval0 hV
  obtain ⟨hG, hB⟩ := of_laid hL
  refine (walk u es W hin ok0 hG hB).mono fun e W' ⟨he, bel⟩ => ?_
  subst he
  have k4' : DataW.trod enc Tryd.prog W' 0 (fun b => decide (b < W.heap.size)) true fv 70 cv.toList = some (dv, pv) :=
    DataW.trod_stays (kids_book laidOut (t0 := 70) (by kernel_rfl)) (book_sized (by kernel_rfl)) (fun h => by cases h) ⟨of_decide_eq_true (by kernel_rfl), book_self _⟩ k4 (fun x hx => bel.same (ltv x hx)) (fun x hx => by simpa using ltv x hx)
  exact ⟨_, rfl, _, _, _, [], _, _, hW', trodAll_mk1 (shut_bool Tryd.underlying4 _), (trodAll_cons_mk (Below.trod laidOut (by kernel_rfl) (of_decide_eq_true (by kernel_rfl)) k0 bel lt0) trodAll_mk0), trodVars_mk1 k1 k2 (var?_below bel k1 (var_lt k1 k3) k3) k4', bel.frame _, fun h => by cases h⟩

theorem over : Rows.FnExactPrintFilterSaid :=
  OpenClaim.holds_of_wide 3 Tryd.f3 rfl rfl rfl rfl rfl rfl rfl ⟨rfl, rfl, rfl, rfl, rfl⟩ rfl rfl rfl rfl rfl (by kernel_rfl) Tryd.func3 (by kernel_rfl)
    (of_decide_eq_true (by kernel_rfl)) (by unfold Func.isWrapper; first | (rw [if_pos (by decide +kernel)]; kernel_rfl) | (rw [if_neg (by decide +kernel)]; exact ⟨rfl, rfl⟩))
    (fun os started H enc _ => lifted os started H enc)

theorem card : Rows.FnExactPrintFilterCardSaid :=
  Claim7.holds_tied_plain_at .later [] [.data, .data, .data, .data] true Rows.fnExactPrintFilterCard.stood.harness true
    over (fun _ h => by cases h) (by kernel_rfl) (fun _ h => by cases h) fnExactPrintFilter_row_tie rfl ⟨rfl, rfl⟩ (by kernel_rfl) rfl
    (fun f fn hf hfn => by
      obtain rfl : f = 3 := Option.some.inj ((show Tryd.prog.funcNamed "loop.example/s01854/laws.FnExactPrintFilter" = some 3 by kernel_rfl).symm.trans hf) |>.symm
      obtain rfl : fn = Tryd.f3 := (Option.some.inj (Tryd.func3.symm.trans hfn)).symm
      exact ⟨by kernel_rfl, fun j t ht => by
        rw [Tryd.params3] at ht
        have h3 : t = 24 := by
          rcases j with _ | j
          · simpa using ht.symm
          · simp at ht
        subst h3
        exact (show Tryd.prog.wantsStandIn 24 = false by kernel_rfl)⟩)
    (by kernel_rfl)
end Go.Proofs.YtddemgkbfdhpnaaDoor.exPrint
namespace Go.Proofs.YtddemgkbfdhpnaaDoor
theorem exactPrintFilter_holds : Rows.FnExactPrintFilterCardSaid := exPrint.card
#print axioms exactPrintFilter_holds
end Go.Proofs.YtddemgkbfdhpnaaDoor

