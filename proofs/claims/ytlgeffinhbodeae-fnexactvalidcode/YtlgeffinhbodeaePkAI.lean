import Derived.Deep.AppendLies
import Derived.Test.YtlgeffinhbodeaePkAH
import Derived.Test.YtlgeffinhbodeaePkAG
/-
  impl.foldTree over shapeOf.
-/
namespace Go.Proofs.Ytlgeffinhbodeae
open Go.ChangeShapes Go.WideShapes Go.ChangeAt Go.RowKit Go.Deep
set_option linter.unusedVariables false
set_option linter.unusedSimpArgs false
set_option maxRecDepth 100000

theorem Try.infoSh : (Try.prog.info? 275).map (fun i => (i.zero, i.size, i.bytes)) = some (some (.agg #[.bool false, .int .i64 0, .int .i64 0]), 3, 24) := by kernel_rfl
/-- One shape appended, at a step of a region that draws. -/
theorem step_append_shape {ops : Array Oper} {oo : Oper} {a : Act} {K : Act → World → Prop} {Q : Exit → Act → World → Prop} {E : Prop} (w : World) (hgd : oo.guard = none) (s x : Operand)
    (ho : oo.op = .call { callee := .builtin .append, args := #[s, x], argTypes := #[287, 287] })
    (base n g cp blk : Nat) (ss : List Shape) (y : Shape) (hn : n = ss.length) (hs : a.eval s = .slice (some ⟨g, 0, none⟩) n cp) (hx : a.eval x = .slice (some ⟨blk, 0, none⟩) 1 1) (hO : OwnSh w base g cp ss)
    (hc : ShsAt w blk 0 [y]) (hlen : ss.length ≤ 1000) (hbase : base ≤ w.heap.size)
    (h : ∀ g' cp' w', OwnSh w' base g' cp' (ss ++ [y]) → w.grownBy w' (some g) → (g = g' ∨ g' = w.heap.size) → K (a.put oo.dst (.slice (some ⟨g', 0, none⟩) (n + 1) cp')) w') : if Region.wanted oo (yielded ops a.tmps) = true then Oper.wp Try.prog oo a w K Q else E := by
  subst hn
  obtain ⟨i, hi, hz0, hz1, hz2⟩ := info_parts Try.infoSh
  obtain ⟨c0, c1, c2⟩ := hc 0 y rfl
  refine step_append_lies w hgd s x 287 ho base 275 i _ 3 24 Try.underlying287 hi hz0 hz1 hz2 rfl (by decide) (.slice (some ⟨g, 0, none⟩) ss.length cp) ss.length (cellsS ss) hs hO ⟨blk, 0, none⟩ 1 1 (cellsS [y]) hx rfl ?_ ?_ (by decide) ?_ ?_ hbase w.heap.size rfl ?_
  · intro j u hu
    have hj : j < 3 := by
      have := (List.getElem?_eq_some_iff.1 hu).1
      rw [length_cellsS] at this
      simpa using this
    rw [Addr.add_mid]
    have hcs : cellsS [y] = y.three := by simp [cellsS]
    rw [hcs] at hu
    match j, hj with
    | 0, _ => simp at hu; rw [← hu]; simpa using c0
    | 1, _ => simp at hu; rw [← hu]; simpa using c1
    | 2, _ => simp at hu; rw [← hu]; simpa using c2
  · intro u hu
    have hcs : cellsS [y] = y.three := by simp [cellsS]
    rw [hcs] at hu
    simp at hu
    rcases hu with rfl | rfl | rfl <;> rfl
  · unfold maxLen; omega
  · omega
  · intro g' cp' w' hO' hgr hat hlt
    refine h g' cp' w' ?_ hgr ?_
    · unfold OwnSh
      rw [List.length_append, cellsS_append]
      exact hO'
    · simp [Value.ownBlock] at hat
      exact hat
theorem fold_nest {xs : List Nd} {ss : List Shape} (h : foldM goodB [] xs = some ss) : ∀ s ∈ ss, s.nest ≤ xs.length := by
  intro s hs
  obtain ⟨ks, rfl, hK⟩ := ShT.kids goodB (fold_tree goodB h)
  obtain ⟨k, hk, h3⟩ := kid_len goodB hK hs
  have h4 := len_flat hk
  have h5 := nest_len goodB _ (Nat.le_refl _) h3
  omega
structure FoJ (w : World) (xs : List Nd) (j g cp : Nat) (ss : List Shape) (wr : World) : Prop where
  fold : foldM goodB [] (xs.take j) = some ss
  own : OwnSh wr (w.heap.size + 1) g cp ss
  res : BoxAt wr w.heap.size 275 3 w.heap.size [.bool false, .int .i64 0, .int .i64 0]
  below : Below w.heap.size w wr
theorem FoJ.move {w : World} {xs : List Nd} {j g cp : Nat} {ss : List Shape} {wr w' : World} (h : FoJ w xs j g cp ss wr) (hb : Below wr.heap.size wr w') : FoJ w xs j g cp ss w' :=
  ⟨h.fold, h.own.below hb, h.res.below hb, h.below.trans (hb.mono h.below.size)⟩
theorem fold_next {xs : List Nd} {j : Nat} {ss : List Shape} {e : Nd} (h : foldM goodB [] (xs.take j) = some ss) (he : xs[j]? = some e) (hl : arity e.kind ≤ ss.length) : foldM goodB [] (xs.take (j + 1)) = some (ss.take (ss.length - arity e.kind) ++ [shapeM goodB e (ss.drop (ss.length - arity e.kind))]) := by
  rw [List.take_add_one, he, foldM_append, h]
  simp only [Option.toList, Option.bind_some, foldM, stepM]
  rw [if_neg (by omega)]
theorem fold_stop {xs : List Nd} {j : Nat} {ss : List Shape} {e : Nd} (h : foldM goodB [] (xs.take j) = some ss) (he : xs[j]? = some e) (hl : ss.length < arity e.kind) : foldM goodB [] xs = none := by
  have hj := (List.getElem?_eq_some_iff.1 he).1
  have : xs = xs.take j ++ e :: xs.drop (j + 1) := by
    conv => lhs; rw [← List.take_append_drop j xs, List.drop_eq_getElem_cons hj]
    rw [show xs[j] = e from Option.some.inj ((List.getElem?_eq_getElem hj).symm.trans he)]
  rw [this, foldM_append, h]
  simp only [Option.bind_some, foldM, stepM]
  rw [if_pos hl]
/-- What foldTree hands back. -/
def FoldPost (xs : List Nd) (w : World) (r : Ending) (w' : World) : Prop := Below w.heap.size w w' ∧ ((∃ s, foldM goodB [] xs = some [s] ∧ r = .returned (.tuple #[.agg #[.bool s.valid, .int .i64 s.kind, .int .i64 (s.nest : Int)], .bool true])) ∨ ((∀ s, ¬ foldM goodB [] xs = some [s]) ∧ r = .returned (.tuple #[.agg #[.bool false, .int .i64 0, .int .i64 0], .bool false])))
end Go.Proofs.Ytlgeffinhbodeae

/-
  impl.foldTree, walked.
-/
namespace Go.Proofs.Ytlgeffinhbodeae
open Go.ChangeShapes Go.WideShapes Go.ChangeAt Go.RowKit Go.Deep
set_option linter.unusedVariables false
set_option linter.unusedSimpArgs false
set_option maxRecDepth 100000

/-- The state with the node and its shape laid. -/
structure FoK (w : World) (xs : List Nd) (j g cp : Nat) (ss : List Shape) (SB : Nat) (y : Shape) (wr : World) : Prop where
  fo : FoJ w xs j g cp ss wr
  box : BoxAt wr w.heap.size 275 3 SB y.three
  ne : ¬ SB = g
  ge : w.heap.size + 1 ≤ SB
theorem fo_after {w : World} {xs : List Nd} {j g cp : Nat} {ss : List Shape} {W1 w' : World} (y : Shape) (h : FoJ w xs j g cp ss W1) (hb : Below W1.drew.heap.size W1.drew w') : FoK w xs j g cp ss w'.heap.size y (w'.alloc (Obj.cells #[.bool y.valid, .int .i64 y.kind, .int .i64 (y.nest : Int)] 275)) := by
  have h1 : Below W1.heap.size W1 w' := ((Below.refl W1.heap.size W1).drew).trans hb
  have h2 := h1.size
  have h3 : Below W1.heap.size W1 (w'.alloc (Obj.cells #[.bool y.valid, .int .i64 y.kind, .int .i64 (y.nest : Int)] 275)) := h1.alloc h2 _
  have h4 := h.own.lt
  have h5 := h.below.size
  have h6 := h.res.lt
  exact ⟨h.move h3, boxAt_new w' _ (by omega) rfl, by omega, by omega⟩
theorem fo_before {w : World} {xs : List Nd} {j g cp : Nat} {ss : List Shape} {W1 w' : World} (y : Shape) (h : FoJ w xs j g cp ss W1) (hb : Below (W1.drew.alloc (Obj.cells #[.bool false, .int .i64 0, .int .i64 0] 275)).heap.size (W1.drew.alloc (Obj.cells #[.bool false, .int .i64 0, .int .i64 0] 275)) w') :
    FoK w xs j g cp ss W1.heap.size y (((w'.setCell ⟨W1.heap.size, 0, none⟩ (.bool y.valid)).setCell ⟨W1.heap.size, 1, none⟩ (.int .i64 y.kind)).setCell ⟨W1.heap.size, 2, none⟩ (.int .i64 (y.nest : Int))) := by
  have hd : W1.drew.heap.size = W1.heap.size := by simp
  have h0 : Below W1.heap.size W1 (W1.drew.alloc (Obj.cells #[.bool false, .int .i64 0, .int .i64 0] 275)) := ((Below.refl W1.heap.size W1).drew).alloc (by simp) _
  have h1 : Below W1.heap.size W1 w' := h0.trans (hb.mono (by simp))
  have h4 := h.own.lt
  have h5 := h.below.size
  have h6 := h.res.lt
  have hB : BoxAt w' w.heap.size 275 3 W1.heap.size [.bool false, .int .i64 0, .int .i64 0] := by
    have := boxAt_new W1.drew (base := w.heap.size) (t := 275) (sz := 3) #[.bool false, .int .i64 0, .int .i64 0] (by simp; omega) rfl
    rw [hd] at this
    exact this.below hb
  have hJ := h.move h1
  have hC : Chg (fun k => k = W1.heap.size) w' (((w'.setCell ⟨W1.heap.size, 0, none⟩ (.bool y.valid)).setCell ⟨W1.heap.size, 1, none⟩ (.int .i64 y.kind)).setCell ⟨W1.heap.size, 2, none⟩ (.int .i64 (y.nest : Int))) :=
    ((Chg.of_set w' W1.heap.size 0 _ (S := fun k => k = W1.heap.size) rfl).trans (Chg.of_set _ W1.heap.size 1 _ (S := fun k => k = W1.heap.size) rfl)).trans (Chg.of_set _ W1.heap.size 2 _ (S := fun k => k = W1.heap.size) rfl)
  refine ⟨⟨hJ.fold, own_chg hJ.own hC (fun k q => by simp [Value.ownBlock] at q; omega), hJ.res.chg hC (by omega), ?_⟩, ((hB.set 0 _).set 1 _).set 2 _, by omega, by omega⟩
  exact below_set (below_set (below_set hJ.below (by omega) 0 _) (by omega) 1 _) (by omega) 2 _
theorem sh_new (X : World) (y : Shape) (B : Nat) (hB : X.heap.size = B) : ShsAt (X.alloc (Obj.cells #[.bool y.valid, .int .i64 y.kind, .int .i64 (y.nest : Int)] 275)) B 0 [y] := by
  subst hB
  intro i s hs
  have hi : i = 0 := by have := (List.getElem?_eq_some_iff.1 hs).1; simpa using this
  subst hi
  simp at hs
  subst hs
  exact ⟨by simp, by simp, by simp⟩
theorem fo_push {w wc X w' : World} {xs : List Nd} {j g cp g' cp' fr : Nat} {ss : List Shape} {y : Shape} (h : FoJ w xs j g cp ss wc) (hX : Below wc.heap.size wc X) (hY : foldM goodB [] (xs.take (j + 1)) = some (ss.take fr ++ [y])) (hO : OwnSh w' (w.heap.size + 1) g' cp' (ss.take fr ++ [y])) (hgr : X.grownBy w' (some g)) (hm : fr = (ss.take fr).length) : FoJ w xs (j + 1) g' cp' (ss.take fr ++ [y]) w' ∧ fr + 1 ≤ cp' := by
  have hJ := h.move hX
  have h1 := hJ.own.lt
  have hC : Chg (fun k => k = g) X w' := Chg.of_grown hgr (fun k hk => by cases hk; rfl)
  refine ⟨⟨hY, hO, hJ.res.chg hC (by omega), Chg.below hJ.below hC hJ.below.size (fun k q => by omega)⟩, ?_⟩
  have := hO.caps.1
  rw [List.length_append, List.length_singleton, ← hm] at this
  exact this
set_option maxHeartbeats 16000000 in
theorem foldTree_core {w : World} {gN cpN : Nat} {xs : List Nd} (h : NdsAt w gN 0 xs) (hg : gN < w.heap.size) (hok : ∀ e ∈ xs, e.ok) (hl : xs.length ≤ 200) :
    Calls Try.prog 189 #[.slice (some ⟨gN, 0, none⟩) xs.length cpN, .func (Fn.func 190) #[] #[]] w (FoldPost xs w) := by
  have HF : Hid (NdsAt w gN 0 xs ∧ ∀ e ∈ xs, e.ok) := ⟨h, hok⟩
  obtain ⟨n, hn⟩ : ∃ n, n = xs.length := ⟨_, rfl⟩
  have HL : Hid (n = xs.length) := hn
  rw [← hn] at hl ⊢
  clear h hok hn
  obtain ⟨W0, hW0⟩ : ∃ W0 : World, W0 = (w.alloc (Obj.cells #[.bool false, .int .i64 0, .int .i64 0] 275)).alloc (Obj.cells #[] 275) := ⟨_, rfl⟩
  have HW0 : Hid (FoJ w xs 0 (w.heap.size + 1) 0 [] W0) := by
    obtain ⟨V, hV⟩ : ∃ V : World, V = w.alloc (Obj.cells #[.bool false, .int .i64 0, .int .i64 0] 275) := ⟨_, rfl⟩
    have hz : V.heap.size = w.heap.size + 1 := by rw [hV]; simp
    have hb : Below V.heap.size V W0 := by rw [hW0, ← hV]; exact (Below.refl _ _).alloc (Nat.le_refl _) _
    have hbV : Below w.heap.size w V := by rw [hV]; exact (Below.refl _ _).alloc (Nat.le_refl _) _
    have hB : BoxAt V w.heap.size 275 3 w.heap.size [.bool false, .int .i64 0, .int .i64 0] := by rw [hV]; exact boxAt_new w _ (Nat.le_refl _) rfl
    refine ⟨rfl, ?_, hB.below hb, hbV.trans (hb.mono (by omega))⟩
    rw [hW0, ← hV, ← hz]
    exact ownSh_new V (Nat.le_refl _)
  go_enter Try.func189, Try.ntmps189
  go_upto_region 2 with fail
  rw [← hW0]
  clear hW0
  go_wp2_with fail
  go_loopw [6, 14] (fun sv iv wr => ∃ (j m g cp : Nat) (ss : List Shape), iv = .int .i64 (j : Int) ∧ j ≤ n ∧ m = ss.length ∧ m ≤ j ∧ m ≤ cp ∧ sv = .slice (some ⟨g, 0, none⟩) m cp ∧ FoJ w xs j g cp ss wr) (fun _ iv _ => n - (intOf iv).toNat)
  case atStart => exact ⟨0, 0, _, 0, [], rfl, Nat.zero_le _, rfl, Nat.le_refl _, Nat.zero_le _, rfl, HW0.out⟩
  case round =>
    obtain ⟨j, m, g, cp, ss, rfl, hj, hm, hmj, hmc, rfl, hJ⟩ := hrel
    have HJ : Hid (m = ss.length ∧ FoJ w xs j g cp ss wr) := ⟨hm, hJ⟩
    have hgl := hJ.own.lt
    have hcp : cp ≤ 9223372036854775807 := by have := hJ.own.caps.2; unfold maxLen at this; omega
    have hsz := hJ.below.size
    have hrl := hJ.res.lt.2
    have r0 := hJ.res.cell (j := 0) rfl
    have r1 := hJ.res.cell (j := 1) rfl
    have r2 := hJ.res.cell (j := 2) rfl
    have f0 := hJ.res.frozen 0
    have f1 := hJ.res.frozen 1
    have f2 := hJ.res.frozen 2
    clear hm hJ HW0
    by_cases hlt : j < n
    · have zj : (j : Int) < (n : Int) := by omega
      obtain ⟨e, he⟩ : ∃ e, xs[j]? = some e := ⟨_, List.getElem?_eq_getElem (by have := HL.out; omega)⟩
      obtain ⟨d0, d1, d2, d3, d4, d5, d6⟩ := (HF.out.1.below HJ.out.2.below hg) j e he
      simp only [Nat.zero_add] at d0 d1 d2 d3 d4 d5 d6
      have ok := HF.out.2 e (List.mem_of_getElem? he)
      have HE : Hid (xs[j]? = some e ∧ e.s.size ≤ maxLen ∧ e.t.size ≤ maxLen) := ⟨he, ok.s, ok.t⟩
      clear ok he
      obtain ⟨W1, hW1⟩ : ∃ W1 : World, W1 = wr.alloc (Obj.cells #[.int .i64 e.kind, .string e.s, .bool e.hi, .string e.t, .int .u64 e.lo, .int .u64 e.up, .int .i64 e.n] 173) := ⟨_, rfl⟩
      have hb1 : Below wr.heap.size wr W1 := by rw [hW1]; exact (Below.refl _ _).alloc (Nat.le_refl _) _
      have hz1 : W1.heap.size = wr.heap.size + 1 := by rw [hW1]; simp
      have HJ1 : Hid (m = ss.length ∧ FoJ w xs j g cp ss W1 ∧ BoxAt W1 w.heap.size 173 7 wr.heap.size e.seven) := by
        refine ⟨HJ.out.1, HJ.out.2.move hb1, ?_⟩
        rw [hW1]; exact boxAt_new wr _ hsz rfl
      go_upto_region 5 with fail
      rw [← hW1]
      clear hW1 d0 d1 d2 d3 d4 d5 d6 r0 r1 r2 f0 f1 f2 HJ hb1
      have c0 := HJ1.out.2.2.cell (j := 0) rfl
      have c1 := HJ1.out.2.2.cell (j := 1) rfl
      have c2 := HJ1.out.2.2.cell (j := 2) rfl
      have c3 := HJ1.out.2.2.cell (j := 3) rfl
      have c4 := HJ1.out.2.2.cell (j := 4) rfl
      have c5 := HJ1.out.2.2.cell (j := 5) rfl
      have c6 := HJ1.out.2.2.cell (j := 6) rfl
      obtain ⟨a, ha⟩ : ∃ a, a = arity e.kind := ⟨_, rfl⟩
      have ha3 : a ≤ 3 := by rw [ha]; exact arity_le _
      have HAr : Hid (Calls Try.prog 198 #[.int .i64 e.kind] W1 fun r w' => r = .returned (.int .i64 (a : Int)) ∧ w' = W1) := by rw [ha]; exact operandCount_core e.kind W1
      have HAk : Hid (a = arity e.kind) := ha
      clear ha
      go_wp2_with fail
      refine HAr.out.mono ?_
      rintro r w9 ⟨rfl, hw9⟩
      rw [hw9]
      clear hw9 HAr
      by_cases hfr : m < a
      · have zf : (m : Int) - (a : Int) < 0 := by omega
        have r0 := HJ1.out.2.1.res.cell (j := 0) rfl
        have r1 := HJ1.out.2.1.res.cell (j := 1) rfl
        have r2 := HJ1.out.2.1.res.cell (j := 2) rfl
        have f0 := HJ1.out.2.1.res.frozen 0
        have f1 := HJ1.out.2.1.res.frozen 1
        have f2 := HJ1.out.2.1.res.frozen 2
        have HS : Hid (foldM goodB [] xs = none) := fold_stop HJ1.out.2.1.fold HE.out.1 (by rw [← HJ1.out.1, ← HAk.out]; exact hfr)
        obtain ⟨W9, hW9⟩ : ∃ W9 : World, W9 = set3 W1 w.heap.size (.bool false) (.int .i64 0) (.int .i64 0) := ⟨_, rfl⟩
        have HW9 : Hid (BoxAt W9 w.heap.size 275 3 w.heap.size [.bool false, .int .i64 0, .int .i64 0] ∧ Below w.heap.size w W9) := by
          rw [hW9]; exact ⟨HJ1.out.2.1.res.set3 _ _ _, below_set3 HJ1.out.2.1.below (Nat.le_refl _) _ _ _⟩
        have p0 := HW9.out.1.cell (j := 0) rfl
        have p1 := HW9.out.1.cell (j := 1) rfl
        have p2 := HW9.out.1.cell (j := 2) rfl
        unfold set3 at hW9
        go_wp2_with fail
        rw [← hW9]
        refine bodyPost_ret (v := .tuple #[.agg #[.bool false, .int .i64 0, .int .i64 0], .bool false]) (by simp [results, Try.results189, go_sem, p0, p1, p2]) rfl ⟨HW9.out.2, .inr ⟨fun s q => (by rw [HS.out] at q; cases q), rfl⟩⟩
      · obtain ⟨fr, hfrm⟩ : ∃ fr : Nat, (m : Int) - (a : Int) = (fr : Int) := ⟨m - a, by omega⟩
        have hfrle : fr ≤ m := by omega
        have HFr : Hid (fr = ss.length - arity e.kind ∧ arity e.kind ≤ ss.length) := by
          have h1 := HJ1.out.1
          have h2 := HAk.out
          exact ⟨by omega, by omega⟩
        have zf : ¬ (fr : Int) < 0 := by omega
        have z2 : (fr : Int) ≤ (m : Int) := by omega
        have z3 : (m : Int) ≤ (cp : Int) := by omega
        obtain ⟨y, hy⟩ : ∃ y, y = shapeM goodB e (ss.drop fr) := ⟨_, rfl⟩
        have HY : Hid (foldM goodB [] (xs.take (j + 1)) = some (ss.take fr ++ [y])) := by
          show _ = _
          rw [hy, HFr.out.1]
          exact fold_next HJ1.out.2.1.fold HE.out.1 HFr.out.2
        obtain ⟨ad, had⟩ : ∃ ad : Option Addr, (if cp = fr then some (⟨g, 0, none⟩ : Addr) else some ⟨g, fr * 3, none⟩) = ad := ⟨_, rfl⟩
        have HSh : Hid (∀ X, Below W1.heap.size W1 X → Calls Try.prog 190 #[.agg #[.int .i64 e.kind, .string e.s, .bool e.hi, .string e.t, .int .u64 e.lo, .int .u64 e.up, .int .i64 e.n], .slice ad (m - fr) (cp - fr)] X fun r w' => r = .returned (.agg #[.bool y.valid, .int .i64 y.kind, .int .i64 (y.nest : Int)]) ∧ Below X.heap.size X w') := fun X hX => by
          have hs1 := HJ1.out.2.1.own.at.below hX HJ1.out.2.1.own.lt.2
          have hs2 := hs1.drop fr
          rw [Nat.zero_add] at hs2
          have hlen : (ss.drop fr).length = m - fr := by rw [List.length_drop, ← HJ1.out.1]
          have hX2 := hX.size
          have hg2 := HJ1.out.2.1.own.lt.2
          have hnest : ∀ x ∈ ss.drop fr, x.nest ≤ 1000 := fun x hx => by
            have h1 := fold_nest HJ1.out.2.1.fold x (List.mem_of_mem_drop hx)
            rw [List.length_take] at h1
            omega
          have hos : (ss.drop fr).length ≤ 3 := by rw [hlen]; have := HFr.out.1; have := HAk.out; have := HJ1.out.1; omega
          rw [hy, ← had]
          by_cases hcf : cp = fr
          · rw [if_pos hcf]
            have hnil : ss.drop fr = [] := List.length_eq_zero_iff.1 (by rw [hlen]; omega)
            have h9 := shapeOf_core (w := X) (b := g) (o := 0) (cap := cp - fr) (os := ss.drop fr) e (by rw [hnil]; intro i s hs; simp at hs) (by omega) (by rw [hlen]; omega) hos (by omega) hnest HE.out.2.1 HE.out.2.2
            rw [hlen] at h9
            exact h9
          · rw [if_neg hcf]
            have h9 := shapeOf_core (w := X) (b := g) (o := fr * 3) (cap := cp - fr) (os := ss.drop fr) e hs2 (by omega) (by rw [hlen]; omega) hos (by omega) hnest HE.out.2.1 HE.out.2.2
            rw [hlen] at h9
            exact h9
        clear hy hfr
        go_upto_region 8 with fail
        go_cut [10] (fun sv wx => ∃ SB, sv = .pointer (some ⟨SB, 0, none⟩) ∧ FoK w xs j g cp ss SB y wx)
        case first =>
          go_region_law ((go_simp; go_at_call 190; refine (HSh.out _ ?hX).mono ?_; (case hX => (repeat (first | exact Below.refl _ _ | refine Below.drew ?_ | refine Below.alloc ?_ (by simp) _))); rintro r w' ⟨rfl, hbb⟩; obtain ⟨hcc, hff⟩ := bcell hbb; have hsz' := hbb.size))
          all_goals go_wp2_with fail
          all_goals go_meet
          all_goals first
            | exact ⟨_, rfl, fo_after y HJ1.out.2.1 hbb⟩
            | exact ⟨_, rfl, by have h9 := fo_before y HJ1.out.2.1 hbb; rw [hz1] at h9; exact h9⟩
        case rest =>
        obtain ⟨SB, rfl, hK⟩ := hcut
        have HK : Hid (FoK w xs j g cp ss SB y wc) := hK
        have b0 := hK.box.cell (j := 0) rfl
        have b1 := hK.box.cell (j := 1) rfl
        have b2 := hK.box.cell (j := 2) rfl
        have hgl2 := hK.fo.own.lt
        have hsb := hK.box.lt.2
        have hnsb := hK.ne
        have hsz2 := hK.fo.below.size
        have HM : Hid (fr = (ss.take fr).length) := by
          show fr = _
          rw [List.length_take, ← HJ1.out.1]
          omega
        clear hK c0 c1 c2 c3 c4 c5 c6 HSh
        go_upto_region 9 with fail
        have hfl : fr ≤ ss.length := by rw [← HJ1.out.1]; exact hfrle
        have z4 : (fr : Int) ≤ (cp : Int) := by omega
        have z5 : fr ≤ cp := by omega
        go_region_law ((refine step_append_shape _ (by rfl) _ _ (by rfl) (w.heap.size + 1) fr g cp wc.heap.size (ss.take fr) y HM.out (by rfl) (by rfl) ?hO ?hc ?hl ?hb ?_
                        case hO => (refine OwnSh.below (HK.out.fo.own.take hfl) ?_; repeat (first | exact Below.refl _ _ | refine Below.drew ?_ | refine Below.alloc ?_ (by simp) _))
                        case hc => exact sh_new _ y _ (by simp)
                        case hl => rw [← HM.out]; omega
                        case hb => simp; omega
                        intro g' cp' w' hO' hgr' hat'
                        have fin : Hid (FoJ w xs (j + 1) g' cp' (ss.take fr ++ [y]) w' ∧ fr + 1 ≤ cp') := fo_push HK.out.fo (by repeat (first | exact Below.refl _ _ | refine Below.drew ?_ | refine Below.alloc ?_ (by simp) _)) HY.out hO' hgr' HM.out
                        clear hO' hgr' hat'))
        all_goals go_wp2_with fail
        all_goals go_roundw
        all_goals first
          | exact ⟨j + 1, fr + 1, g', cp', ss.take fr ++ [y], by go_num, by omega, by rw [List.length_append, List.length_singleton, ← HM.out], by omega, fin.out.2, rfl, fin.out.1⟩
          | (simp [intOf]; omega)
    · have zj : ¬ (j : Int) < (n : Int) := by omega
      have HFo : Hid (foldM goodB [] xs = some ss) := by
        have h1 := HJ.out.2.fold
        rw [List.take_of_length_le (by have := HL.out; omega)] at h1
        exact h1
      by_cases hm1 : m = 1
      · subst hm1
        obtain ⟨s, rfl⟩ : ∃ s, ss = [s] := by
          have h1 := HJ.out.1
          match ss, h1 with
          | [s], _ => exact ⟨s, rfl⟩
        obtain ⟨e0, e1, e2⟩ := HJ.out.2.own.at 0 s rfl
        simp only [Nat.zero_add, Nat.zero_mul] at e0 e1 e2
        obtain ⟨W9, hW9⟩ : ∃ W9 : World, W9 = set3 wr w.heap.size (.bool s.valid) (.int .i64 s.kind) (.int .i64 (s.nest : Int)) := ⟨_, rfl⟩
        have HW9 : Hid (BoxAt W9 w.heap.size 275 3 w.heap.size [.bool s.valid, .int .i64 s.kind, .int .i64 (s.nest : Int)] ∧ Below w.heap.size w W9) := by
          rw [hW9]; exact ⟨HJ.out.2.res.set3 _ _ _, below_set3 HJ.out.2.below (Nat.le_refl _) _ _ _⟩
        have p0 := HW9.out.1.cell (j := 0) rfl
        have p1 := HW9.out.1.cell (j := 1) rfl
        have p2 := HW9.out.1.cell (j := 2) rfl
        unfold set3 at hW9
        go_wp2_with fail
        rw [← hW9]
        refine bodyPost_ret (v := .tuple #[.agg #[.bool s.valid, .int .i64 s.kind, .int .i64 (s.nest : Int)], .bool true]) (by simp [results, Try.results189, go_sem, p0, p1, p2]) rfl ⟨HW9.out.2, .inl ⟨s, HFo.out, rfl⟩⟩
      · have zm : ((m : Int) != 1) = true := by have : ¬ (m : Int) = 1 := (by omega); simpa using this
        obtain ⟨W9, hW9⟩ : ∃ W9 : World, W9 = set3 wr w.heap.size (.bool false) (.int .i64 0) (.int .i64 0) := ⟨_, rfl⟩
        have HW9 : Hid (BoxAt W9 w.heap.size 275 3 w.heap.size [.bool false, .int .i64 0, .int .i64 0] ∧ Below w.heap.size w W9) := by
          rw [hW9]; exact ⟨HJ.out.2.res.set3 _ _ _, below_set3 HJ.out.2.below (Nat.le_refl _) _ _ _⟩
        have p0 := HW9.out.1.cell (j := 0) rfl
        have p1 := HW9.out.1.cell (j := 1) rfl
        have p2 := HW9.out.1.cell (j := 2) rfl
        unfold set3 at hW9
        go_wp2_with fail
        rw [← hW9]
        refine bodyPost_ret (v := .tuple #[.agg #[.bool false, .int .i64 0, .int .i64 0], .bool false]) (by simp [results, Try.results189, go_sem, p0, p1, p2]) rfl ⟨HW9.out.2, .inr ⟨fun s q => ?_, rfl⟩⟩
        rw [HFo.out] at q
        have h1 := HJ.out.1
        rw [Option.some.inj q] at h1
        exact hm1 h1
end Go.Proofs.Ytlgeffinhbodeae

/-
  impl.ValidFilter.
-/
namespace Go.Proofs.Ytlgeffinhbodeae
open Go.ChangeShapes Go.WideShapes Go.ChangeAt Go.RowKit Go.Deep
set_option linter.unusedVariables false
set_option linter.unusedSimpArgs false
set_option maxRecDepth 100000

set_option maxHeartbeats 4000000 in
theorem implFilter_core {w : World} {base g cp : Nat} {xs : List Nd} (h : OwnNd w base g cp xs) (hok : ∀ e ∈ xs, e.ok) : Calls Try.prog 174 #[.agg #[.slice (some ⟨g, 0, none⟩) xs.length cp]] w (FltPost xs w) := by
  have HO : Hid (OwnNd w base g cp xs ∧ ∀ e ∈ xs, e.ok) := ⟨h, hok⟩
  have hg := h.lt.2
  obtain ⟨n, hn⟩ : ∃ n, n = xs.length := ⟨_, rfl⟩
  have HN : Hid (n = xs.length) := hn
  have hcp := h.caps
  rw [← hn] at hcp ⊢
  unfold maxLen at hcp
  clear h hok hn
  obtain ⟨W0, hW0⟩ : ∃ W0 : World, W0 = w.alloc (Obj.cells #[.slice (some ⟨g, 0, none⟩) n cp] 228) := ⟨_, rfl⟩
  have HW0 : Hid (BoxAt W0 w.heap.size 228 1 w.heap.size [.slice (some ⟨g, 0, none⟩) n cp] ∧ Below w.heap.size w W0) := by
    rw [hW0]; exact ⟨boxAt_new w _ (Nat.le_refl _) rfl, (Below.refl _ _).alloc (Nat.le_refl _) _⟩
  have c0 := HW0.out.1.cell (j := 0) rfl
  have s0 := HW0.out.2.size
  go_enter Try.func174, Try.ntmps174
  go_upto_region 1 with fail
  rw [← hW0]
  clear hW0
  by_cases hbig : 200 < n
  · have zb : (200 : Int) < (n : Int) := by omega
    have HF : Hid (¬ GoodF xs) := fun q => by have := q.1; have := HN.out; omega
    go_wp2_with fail
    go_ret
    exact ⟨_, rfl, by simp [HF.out], HW0.out.2⟩
  have zb : ¬ (200 : Int) < (n : Int) := by omega
  have HC : Hid (Calls Try.prog 189 #[.slice (some ⟨g, 0, none⟩) n cp, .func (Fn.func 190) #[] #[]] W0 (FoldPost xs W0)) := by
    have hl : xs.length ≤ 200 := by rw [← HN.out]; omega
    have := foldTree_core (w := W0) (gN := g) (cpN := cp) (HO.out.1.at.below HW0.out.2 hg) (by omega) HO.out.2 hl
    rw [← HN.out] at this
    exact this
  go_wp2_with fail
  refine HC.out.mono ?_
  rintro r w2 ⟨hb2, (⟨s, hs, rfl⟩ | ⟨hs, rfl⟩)⟩
  · have HF : Hid (GoodF xs ↔ (s.valid = true ∧ s.nest ≤ 20)) := by
      show GoodF xs ↔ _
      have hsh := fold_tree goodB hs
      constructor
      · rintro ⟨_, t, ht, hv, hn⟩
        rw [sh_one hsh ht]; exact ⟨hv, hn⟩
      · rintro ⟨hv, hn⟩
        exact ⟨by have := HN.out; omega, s, hsh, hv, hn⟩
    have HB : Hid (Below w.heap.size w w2) := HW0.out.2.trans (hb2.mono s0)
    obtain ⟨v, hv⟩ : ∃ v, v = s.valid := ⟨_, rfl⟩
    obtain ⟨k, hk⟩ : ∃ k, k = s.nest := ⟨_, rfl⟩
    obtain ⟨kd, hkd⟩ : ∃ kd, kd = s.kind := ⟨_, rfl⟩
    rw [← hv, ← hk] at HF
    rw [← hv, ← hk, ← hkd]
    clear hs hb2 c0 HC hv hk hkd
    cases v
    · go_wp2_with fail
      go_ret
      exact ⟨_, rfl, by rw [HF.out]; simp, HB.out.trans ((Below.refl _ _).alloc HB.out.size _)⟩
    · go_wp2_with fail
      go_ret
      exact ⟨_, rfl, by rw [HF.out]; simp <;> omega, HB.out.trans ((Below.refl _ _).alloc HB.out.size _)⟩
  · have HF : Hid (¬ GoodF xs) := fun q => by
      obtain ⟨_, s, hsh, _⟩ := q
      have := ShT.fold goodB hsh []
      exact hs s (by simpa using this)
    have HB : Hid (Below w.heap.size w w2) := HW0.out.2.trans (hb2.mono s0)
    clear hs hb2 c0 HC
    go_wp2_with fail
    go_ret
    exact ⟨_, rfl, by simp [HF.out], HB.out.trans ((Below.refl _ _).alloc HB.out.size _)⟩
end Go.Proofs.Ytlgeffinhbodeae

/-
  Instructions of code, one by one: impl's validIns, validLeaf, ways.
-/
namespace Go.Proofs.Ytlgeffinhbodeae
open Go.ChangeShapes Go.WideShapes Go.ChangeAt Go.RowKit Go.Deep
set_option linter.unusedVariables false
set_option linter.unusedSimpArgs false
set_option maxRecDepth 100000

set_option maxHeartbeats 1000000 in
theorem hasCtr_core (k : Int) (w : World) : Calls Try.prog 175 #[.int .i64 k] w (BoolP (cntK k) w) := by
  go_enter Try.func175, Try.ntmps175
  go_wp2_with fail
  all_goals go_ret
  all_goals exact ⟨_, rfl, by simp_all [cntK], Below.refl _ _⟩
set_option maxHeartbeats 4000000 in
theorem ixEq_run (o a b : Int) (f : Bool) (k : Int) (s : ByteArray) (h : Bool) (t : ByteArray) (l u n : Int) (o' a' b' : Int) (f' : Bool) (k' : Int) (s' : ByteArray) (h' : Bool) (t' : ByteArray) (l' u' n' : Int) (wx : World) :
    (binOp .eql 175 (.agg #[.int .i64 o, .int .i64 a, .int .i64 b, .bool f, .int .i64 k, .string s, .bool h, .string t, .int .u64 l, .int .u64 u, .int .i64 n]) (.agg #[.int .i64 o', .int .i64 a', .int .i64 b', .bool f', .int .i64 k', .string s', .bool h', .string t', .int .u64 l', .int .u64 u', .int .i64 n'])).run Try.prog wx = .ok (.bool (decide (o = o' ∧ a = a' ∧ b = b' ∧ f = f' ∧ k = k' ∧ s.toList = s'.toList ∧ h = h' ∧ t.toList = t'.toList ∧ l = l' ∧ u = u' ∧ n = n'))) wx := by
  go_simp
  by_cases q0 : o = o'
  case neg => (rw [if_neg q0]; simp [q0])
  rw [if_pos q0]
  by_cases q1 : a = a'
  case neg => (rw [if_neg q1]; simp [q1])
  rw [if_pos q1]
  by_cases q2 : b = b'
  case neg => (rw [if_neg q2]; simp [q2])
  rw [if_pos q2]
  by_cases q3 : f = f'
  case neg => (rw [if_neg q3]; simp [q3])
  rw [if_pos q3]
  by_cases q4 : k = k'
  case neg => (rw [if_neg q4]; simp [q4])
  rw [if_pos q4]
  by_cases q5 : s.toList = s'.toList
  case neg => (rw [if_neg q5]; simp [q5])
  rw [if_pos q5]
  by_cases q6 : h = h'
  case neg => (rw [if_neg q6]; simp [q6])
  rw [if_pos q6]
  by_cases q7 : t.toList = t'.toList
  case neg => (rw [if_neg q7]; simp [q7])
  rw [if_pos q7]
  by_cases q8 : l = l'
  case neg => (rw [if_neg q8]; simp [q8])
  rw [if_pos q8]
  by_cases q9 : u = u'
  case neg => (rw [if_neg q9]; simp [q9])
  rw [if_pos q9]
  by_cases q10 : n = n'
  case neg => (rw [if_neg q10]; simp [q10])
  rw [if_pos q10]
  simp [q0, q1, q2, q3, q4, q5, q6, q7, q8, q9, q10]
theorem ixEq_leaf (o a b : Int) (f : Bool) (k : Int) (s : ByteArray) (h : Bool) (t : ByteArray) (l u n : Int) : ∃ B : Bool, (B = true ↔ b = 0) ∧ ∀ wx, (binOp .eql 175 (.agg #[.int .i64 o, .int .i64 a, .int .i64 b, .bool f, .int .i64 k, .string s, .bool h, .string t, .int .u64 l, .int .u64 u, .int .i64 n]) (.agg #[.int .i64 o, .int .i64 a, .int .i64 0, .bool f, .int .i64 k, .string s, .bool h, .string t, .int .u64 l, .int .u64 u, .int .i64 n])).run Try.prog wx = .ok (.bool B) wx :=
  ⟨_, by simp, fun wx => ixEq_run o a b f k s h t l u n o a 0 f k s h t l u n wx⟩
theorem ixEq_bare (o a b : Int) (f : Bool) (k : Int) (s : ByteArray) (h : Bool) (t : ByteArray) (l u n : Int) (a' b' : Int) : ∃ B : Bool, (B = true ↔ a = a' ∧ b = b' ∧ f = false ∧ NoNd ⟨k, s, h, t, l, u, n⟩) ∧ ∀ wx, (binOp .eql 175 (.agg #[.int .i64 o, .int .i64 a, .int .i64 b, .bool f, .int .i64 k, .string s, .bool h, .string t, .int .u64 l, .int .u64 u, .int .i64 n]) (.agg #[.int .i64 o, .int .i64 a', .int .i64 b', .bool false, .int .i64 0, .string ⟨#[]⟩, .bool false, .string ⟨#[]⟩, .int .u64 0, .int .u64 0, .int .i64 0])).run Try.prog wx = .ok (.bool B) wx :=
  ⟨_, by
    have hE := emptyL
    rw [decide_eq_true_eq, hE]
    simp only [true_and]
    exact Iff.rfl, fun wx => ixEq_run o a b f k s h t l u n o a' b' false 0 ⟨#[]⟩ false ⟨#[]⟩ 0 0 0 wx⟩
def LeafOk (x : Ix) (cnt : Int) : Prop := GoodF [x.leaf] ∧ ((cntK x.leaf.kind ∧ 0 ≤ x.a ∧ x.a < cnt) ∨ (¬ cntK x.leaf.kind ∧ x.a = 0))
set_option maxHeartbeats 4000000 in
theorem validLeaf_core (x : Ix) (v : Value) (cnt : Int) (w : World) (hv : v.cells = #[v]) (ho : x.ok) : Calls Try.prog 149 #[.agg #[v, .int .i64 cnt], x.v] w (BoolP (LeafOk x cnt) w) := by
  obtain ⟨P, hP⟩ : ∃ P : Prop, P = LeafOk x cnt := ⟨_, rfl⟩
  rw [← hP]
  have HO : Hid x.ok := ho
  obtain ⟨op, a, b, free, ⟨kind, s, hi, t, lo, up, nn⟩⟩ := x
  have HP : Hid (P ↔ LeafOk ⟨op, a, b, free, ⟨kind, s, hi, t, lo, up, nn⟩⟩ cnt) := by show P ↔ _; rw [hP]
  clear ho hP
  obtain ⟨W0, hW0⟩ : ∃ W0 : World, W0 = (w.alloc (Obj.cells #[v, .int .i64 cnt] 54)).alloc (Obj.cells #[.int .i64 op, .int .i64 a, .int .i64 b, .bool free, .int .i64 kind, .string s, .bool hi, .string t, .int .u64 lo, .int .u64 up, .int .i64 nn] 175) := ⟨_, rfl⟩
  have hb0 : Below w.heap.size w W0 := by rw [hW0]; exact ((Below.refl _ _).alloc (Nat.le_refl _) _).alloc (by simp) _
  have hz0 : W0.heap.size = w.heap.size + 1 + 1 := by rw [hW0]; simp
  have HK : Hid (∀ wx, Below W0.heap.size W0 wx → wx.cell? ⟨w.heap.size, 1, none⟩ = some (.int .i64 cnt) ∧ wx.cell? ⟨w.heap.size + 1, 0, none⟩ = some (.int .i64 op) ∧ wx.cell? ⟨w.heap.size + 1, 1, none⟩ = some (.int .i64 a) ∧ wx.cell? ⟨w.heap.size + 1, 2, none⟩ = some (.int .i64 b) ∧ wx.cell? ⟨w.heap.size + 1, 3, none⟩ = some (.bool free) ∧ wx.cell? ⟨w.heap.size + 1, 4, none⟩ = some (.int .i64 kind) ∧ wx.cell? ⟨w.heap.size + 1, 5, none⟩ = some (.string s) ∧ wx.cell? ⟨w.heap.size + 1, 6, none⟩ = some (.bool hi) ∧ wx.cell? ⟨w.heap.size + 1, 7, none⟩ = some (.string t) ∧ wx.cell? ⟨w.heap.size + 1, 8, none⟩ = some (.int .u64 lo) ∧ wx.cell? ⟨w.heap.size + 1, 9, none⟩ = some (.int .u64 up) ∧ wx.cell? ⟨w.heap.size + 1, 10, none⟩ = some (.int .i64 nn)) := by
    intro wx hx
    refine ⟨?_, ?_, ?_, ?_, ?_, ?_, ?_, ?_, ?_, ?_, ?_, ?_⟩
    · rw [hx.cell (p := ⟨w.heap.size, 1, none⟩) (by show w.heap.size < _; omega), hW0]; simp [go_sem]
    all_goals rw [hx.cell (by show w.heap.size + 1 < _; omega), hW0]
    all_goals simp [go_sem]
  obtain ⟨b1, c0, c1, c2, c3, c4, c5, c6, c7, c8, c9, c10⟩ := HK.out W0 (Below.refl _ _)
  go_enter Try.func149, Try.ntmps149
  go_upto_region 1 with fail
  rw [← hW0]
  clear hW0
  obtain ⟨W1, hW1⟩ : ∃ W1 : World, W1 = W0.alloc (Obj.cells #[.int .i64 kind, .string s, .bool hi, .string t, .int .u64 lo, .int .u64 up, .int .i64 nn] 173) := ⟨_, rfl⟩
  have hb1 : Below W0.heap.size W0 W1 := by rw [hW1]; exact (Below.refl _ _).alloc (Nat.le_refl _) _
  have HW1 : Hid (OwnNd W1 (w.heap.size + 1 + 1) (w.heap.size + 1 + 1) 1 [⟨kind, s, hi, t, lo, up, nn⟩]) := by rw [hW1, ← hz0]; exact ownNd_one W0 ⟨kind, s, hi, t, lo, up, nn⟩
  go_wp2_with fail
  rw [← hW1]
  clear hW1 b1 c0 c1 c2 c3 c4 c5 c6 c7 c8 c9 c10
  refine (implFilter_core HW1.out (fun e he => by simp at he; subst he; exact HO.out.leaf)).mono ?_
  rintro e w2 ⟨r, rfl, hr, hb2⟩
  have HR : Hid (r = true ↔ GoodF [⟨kind, s, hi, t, lo, up, nn⟩]) := hr
  have k2 : Below W0.heap.size W0 w2 := hb1.trans (hb2.mono hb1.size)
  have k2w : Below w.heap.size w w2 := hb0.trans (k2.mono (by omega))
  obtain ⟨b1, c0, c1, c2, c3, c4, c5, c6, c7, c8, c9, c10⟩ := HK.out w2 k2
  clear hr
  cases r
  case false =>
    have HG : Hid (¬ P) := fun q => Bool.noConfusion (HR.out.2 (HP.out.1 q).1)
    go_wp2_with fail
    go_ret
    exact ⟨_, rfl, by simp [HG.out], k2w⟩
  case true =>
  have HGF : Hid (GoodF [⟨kind, s, hi, t, lo, up, nn⟩]) := HR.out.1 rfl
  clear HR
  go_wp2_with fail
  refine (hasCtr_core kind _).mono ?_
  rintro e w3 ⟨q, rfl, hq, hb3⟩
  have HQ : Hid (q = true ↔ cntK kind) := hq
  have k3 : Below W0.heap.size W0 w3 := k2.trans (hb3.mono k2.size)
  have k3w : Below w.heap.size w w3 := hb0.trans (k3.mono (by omega))
  clear hq b1 c0 c1 c2 c3 c4 c5 c6 c7 c8 c9 c10
  obtain ⟨b1, c0, c1, c2, c3, c4, c5, c6, c7, c8, c9, c10⟩ := HK.out w3 k3
  cases q
  case false =>
    have hnc : ¬ cntK kind := fun z => Bool.noConfusion (HQ.out.2 z)
    by_cases ha : a = 0
    · have HG : Hid P := HP.out.2 ⟨HGF.out, .inr ⟨hnc, ha⟩⟩
      clear hnc
      go_wp2_with fail
      go_ret
      exact ⟨_, rfl, by simp [HG.out, ha], k3w⟩
    · have HG : Hid (¬ P) := fun z => by
        rcases (HP.out.1 z).2 with y | y
        · exact hnc y.1
        · exact ha y.2
      clear hnc
      go_wp2_with fail
      go_ret
      exact ⟨_, rfl, by simp [HG.out, ha], k3w⟩
  case true =>
    have hcc : cntK kind := HQ.out.1 rfl
    have HF : Hid (P ↔ 0 ≤ a ∧ a < cnt) := by
      show P ↔ _
      rw [HP.out]
      constructor
      · intro z
        rcases z.2 with y | y
        · exact y.2
        · exact absurd hcc y.1
      · intro z
        exact ⟨HGF.out, .inl ⟨hcc, z⟩⟩
    clear hcc
    by_cases p0 : 0 ≤ a
    case neg =>
      have HG : Hid (¬ P) := fun z => p0 (HF.out.1 z).1
      go_wp2_with fail
      go_ret
      exact ⟨_, rfl, by simp [HG.out, p0], k3w⟩
    by_cases p1 : a < cnt
    · have HG : Hid P := HF.out.2 ⟨p0, p1⟩
      go_wp2_with fail
      go_ret
      exact ⟨_, rfl, by simp [HG.out, p0, p1], k3w⟩
    · have HG : Hid (¬ P) := fun z => p1 (HF.out.1 z).2
      go_wp2_with fail
      go_ret
      exact ⟨_, rfl, by simp [HG.out, p0, p1], k3w⟩
set_option maxHeartbeats 16000000 in
theorem validIns_core (x : Bk) (k : Nat) (conds : Nat) (y : Ix) (w : World) (h : InIxs w x.v x.l) (hy : x.l[k]? = some y) (ho : y.ok) : Calls Try.prog 110 #[x.val, .int .i64 k, .int .i64 conds] w (BoolP (GoodI y k x.l.length x.cnt conds) w) := by
  obtain ⟨P, hP⟩ : ∃ P : Prop, P = GoodI y k x.l.length x.cnt conds := ⟨_, rfl⟩
  rw [← hP]
  have HO : Hid y.ok := ho
  obtain ⟨v, cnt, l⟩ := x
  obtain ⟨op, a, b, free, ⟨kind, s, hi, t, lo, up, nn⟩⟩ := y
  have HP : Hid (P ↔ GoodI ⟨op, a, b, free, ⟨kind, s, hi, t, lo, up, nn⟩⟩ k l.length cnt conds) := by show P ↔ _; rw [hP]
  have hkl := (List.getElem?_eq_some_iff.1 hy).1
  simp only at hkl h
  obtain ⟨b0, off, cap, hvv, HE, hlt, hcap⟩ : ∃ b0 off cap, v = .slice (some ⟨b0, off, none⟩) l.length cap ∧ Hid (IxsAt w b0 off l) ∧ b0 < w.heap.size ∧ (l.length ≤ cap ∧ cap ≤ maxLen) := by
    rcases h with ⟨a, cap', hq, hl⟩ | ⟨b, off, cap', hq, hE, hlt, h1, h2⟩
    · subst hl; simp at hkl
    · exact ⟨b, off, cap', hq, hE, hlt, h1, h2⟩
  subst hvv
  have HY : Hid (l[k]? = some ⟨op, a, b, free, ⟨kind, s, hi, t, lo, up, nn⟩⟩) := hy
  have zk : (k : Int) < (l.length : Int) := by omega
  unfold maxLen at hcap
  clear h hy ho hP
  obtain ⟨W0, hW0⟩ : ∃ W0 : World, W0 = w.alloc (Obj.cells #[.slice (some ⟨b0, off, none⟩) l.length cap, .int .i64 cnt] 54) := ⟨_, rfl⟩
  have hb0 : Below w.heap.size w W0 := by rw [hW0]; exact (Below.refl _ _).alloc (Nat.le_refl _) _
  have hz0 : W0.heap.size = w.heap.size + 1 := by rw [hW0]; simp
  obtain ⟨c0, c1, c2, c3, c4, c5, c6, c7, c8, c9, c10⟩ := (HE.out.below hb0 hlt) k _ HY.out
  have m0 : W0.cell? ⟨w.heap.size, 0, none⟩ = some (.slice (some ⟨b0, off, none⟩) l.length cap) := by rw [hW0]; simp
  have m1 : W0.cell? ⟨w.heap.size, 1, none⟩ = some (.int .i64 cnt) := by rw [hW0]; simp
  obtain ⟨W1, hW1⟩ : ∃ W1 : World, W1 = W0.alloc (Obj.cells #[.int .i64 op, .int .i64 a, .int .i64 b, .bool free, .int .i64 kind, .string s, .bool hi, .string t, .int .u64 lo, .int .u64 up, .int .i64 nn] 175) := ⟨_, rfl⟩
  have hb1 : Below W0.heap.size W0 W1 := by rw [hW1]; exact (Below.refl _ _).alloc (Nat.le_refl _) _
  have hz1 : W1.heap.size = w.heap.size + 1 + 1 := by rw [hW1]; simp [hz0]
  have kw1 : Below w.heap.size w W1 := hb0.trans (hb1.mono (by omega))
  obtain ⟨n0, n1, x0, x1, x2, x3, x4, x5, x6, x7, x8, x9, x10⟩ : W1.cell? ⟨w.heap.size, 0, none⟩ = some (.slice (some ⟨b0, off, none⟩) l.length cap) ∧ W1.cell? ⟨w.heap.size, 1, none⟩ = some (.int .i64 cnt) ∧ W1.cell? ⟨w.heap.size + 1, 0, none⟩ = some (.int .i64 op) ∧ W1.cell? ⟨w.heap.size + 1, 1, none⟩ = some (.int .i64 a) ∧ W1.cell? ⟨w.heap.size + 1, 2, none⟩ = some (.int .i64 b) ∧ W1.cell? ⟨w.heap.size + 1, 3, none⟩ = some (.bool free) ∧ W1.cell? ⟨w.heap.size + 1, 4, none⟩ = some (.int .i64 kind) ∧ W1.cell? ⟨w.heap.size + 1, 5, none⟩ = some (.string s) ∧ W1.cell? ⟨w.heap.size + 1, 6, none⟩ = some (.bool hi) ∧ W1.cell? ⟨w.heap.size + 1, 7, none⟩ = some (.string t) ∧ W1.cell? ⟨w.heap.size + 1, 8, none⟩ = some (.int .u64 lo) ∧ W1.cell? ⟨w.heap.size + 1, 9, none⟩ = some (.int .u64 up) ∧ W1.cell? ⟨w.heap.size + 1, 10, none⟩ = some (.int .i64 nn) := by
    refine ⟨by rw [hb1.cell (p := ⟨w.heap.size, 0, none⟩) (by show w.heap.size < _; omega)]; exact m0, by rw [hb1.cell (p := ⟨w.heap.size, 1, none⟩) (by show w.heap.size < _; omega)]; exact m1, ?_, ?_, ?_, ?_, ?_, ?_, ?_, ?_, ?_, ?_, ?_⟩
    all_goals rw [hW1, ← hz0]
    all_goals simp
  go_enter Try.func110, Try.ntmps110
  go_upto_region 1 with fail
  rw [← hW0]
  clear hW0
  go_upto_region 2 with fail
  rw [← hW1]
  clear hW1 m0 m1 c0 c1 c2 c3 c4 c5 c6 c7 c8 c9 c10
  have hfin : ∀ (Q : Prop), Hid (P ↔ Q) → Hid (P ↔ Q) := fun _ h => h
  clear hfin
  by_cases hkb : (k : Int) < b
  case neg =>
    by_cases h1 : op = 1
    case pos =>
      subst h1
      obtain ⟨B, hB, hq⟩ := ixEq_leaf 1 a b free kind s hi t lo up nn
      have HB : Hid (B = true ↔ b = 0) := hB
      clear hB
      cases B
      case false =>
        have HG : Hid (¬ P) := fun q => Bool.noConfusion (HB.out.2 (goodI_1.1 (HP.out.1 q)).2.1)
        go_wp2_with fail
        go_ret
        exact ⟨_, rfl, by simp [HG.out], kw1⟩
      case true =>
      go_wp2_with fail
      refine (validLeaf_core ⟨1, a, b, free, ⟨kind, s, hi, t, lo, up, nn⟩⟩ _ cnt _ rfl HO.out).mono ?_
      rintro e w3 ⟨r, rfl, hr, hb3⟩
      have HR : Hid (r = true ↔ LeafOk ⟨1, a, b, free, ⟨kind, s, hi, t, lo, up, nn⟩⟩ cnt) := hr
      have k3w : Below w.heap.size w w3 := kw1.trans (hb3.mono (by omega))
      have HG : Hid (r = true ↔ P) := by
        show r = true ↔ P
        rw [HR.out, HP.out, goodI_1]
        have hb0 : b = 0 := HB.out.1 (by simp)
        simp only [LeafOk, hb0, true_and]
      clear hr
      go_wp2_with fail
      go_ret
      exact ⟨_, rfl, HG.out, k3w⟩
    by_cases h5 : op = 5
    case pos =>
      subst h5
      obtain ⟨B, hB, hq⟩ := ixEq_bare 5 a b free kind s hi t lo up nn a b
      have HB : Hid (B = true ↔ (free = false ∧ NoNd ⟨kind, s, hi, t, lo, up, nn⟩)) := by
        show B = true ↔ _
        rw [hB]; simp only [true_and]
      clear hB
      cases B
      case false =>
        have HG : Hid (¬ P) := fun q => Bool.noConfusion (HB.out.2 (goodI_5.1 (HP.out.1 q)).1)
        go_wp2_with fail
        go_ret
        exact ⟨_, rfl, by simp [HG.out], kw1⟩
      case true =>
      have HG : Hid (¬ P) := fun q => by
        have := (goodI_5.1 (HP.out.1 q)).2.2.2
        omega
      go_wp2_with fail
      go_ret
      exact ⟨_, rfl, by simp [HG.out], kw1⟩
    by_cases h6 : op = 6
    case pos =>
      subst h6
      obtain ⟨B, hB, hq⟩ := ixEq_bare 6 a b free kind s hi t lo up nn 0 b
      have HB : Hid (B = true ↔ (a = 0 ∧ free = false ∧ NoNd ⟨kind, s, hi, t, lo, up, nn⟩)) := by
        show B = true ↔ _
        rw [hB]; simp only [true_and]
      clear hB
      cases B
      case false =>
        have HG : Hid (¬ P) := fun q => by
          have z := goodI_6.1 (HP.out.1 q)
          exact Bool.noConfusion (HB.out.2 ⟨z.2.1, z.1⟩)
        go_wp2_with fail
        go_ret
        exact ⟨_, rfl, by simp [HG.out], kw1⟩
      case true =>
      have HG : Hid (¬ P) := fun q => by
        have := (goodI_6.1 (HP.out.1 q)).2.2
        omega
      go_wp2_with fail
      go_ret
      exact ⟨_, rfl, by simp [HG.out], kw1⟩
    by_cases h2 : 2 ≤ op ∧ op ≤ 4
    case pos =>
      obtain ⟨B, hB, hq⟩ := ixEq_bare op a b free kind s hi t lo up nn 0 0
      have HG : Hid (B = true ↔ P) := by
        show B = true ↔ P
        rw [hB, HP.out, goodI_o h1 h5 h6]
        exact ⟨fun z => ⟨h2, z.2.2, z.1, z.2.1⟩, fun z => ⟨z.2.2.1, z.2.2.2, z.2.1⟩⟩
      clear hB
      have h3 : op = 2 ∨ op = 3 ∨ op = 4 := by omega
      clear h1 h5 h6 h2
      rcases h3 with rfl | rfl | rfl
      all_goals go_wp2_with fail
      all_goals go_ret
      all_goals exact ⟨_, rfl, HG.out, kw1⟩
    have HG : Hid (¬ P) := fun q => h2 ((goodI_o h1 h5 h6).1 (HP.out.1 q)).1
    have h22 : ¬ op = 2 := by omega
    have h23 : ¬ op = 3 := by omega
    have h24 : ¬ op = 4 := by omega
    clear h2
    go_wp2_with fail
    go_ret
    exact ⟨_, rfl, by simp [HG.out], kw1⟩
  by_cases hbn : b ≤ (l.length : Int)
  case neg =>
    by_cases h1 : op = 1
    case pos =>
      subst h1
      obtain ⟨B, hB, hq⟩ := ixEq_leaf 1 a b free kind s hi t lo up nn
      have HB : Hid (B = true ↔ b = 0) := hB
      clear hB
      cases B
      case false =>
        have HG : Hid (¬ P) := fun q => Bool.noConfusion (HB.out.2 (goodI_1.1 (HP.out.1 q)).2.1)
        go_wp2_with fail
        go_ret
        exact ⟨_, rfl, by simp [HG.out], kw1⟩
      case true =>
      go_wp2_with fail
      refine (validLeaf_core ⟨1, a, b, free, ⟨kind, s, hi, t, lo, up, nn⟩⟩ _ cnt _ rfl HO.out).mono ?_
      rintro e w3 ⟨r, rfl, hr, hb3⟩
      have HR : Hid (r = true ↔ LeafOk ⟨1, a, b, free, ⟨kind, s, hi, t, lo, up, nn⟩⟩ cnt) := hr
      have k3w : Below w.heap.size w w3 := kw1.trans (hb3.mono (by omega))
      have HG : Hid (r = true ↔ P) := by
        show r = true ↔ P
        rw [HR.out, HP.out, goodI_1]
        have hb0 : b = 0 := HB.out.1 (by simp)
        simp only [LeafOk, hb0, true_and]
      clear hr
      go_wp2_with fail
      go_ret
      exact ⟨_, rfl, HG.out, k3w⟩
    by_cases h5 : op = 5
    case pos =>
      subst h5
      obtain ⟨B, hB, hq⟩ := ixEq_bare 5 a b free kind s hi t lo up nn a b
      have HB : Hid (B = true ↔ (free = false ∧ NoNd ⟨kind, s, hi, t, lo, up, nn⟩)) := by
        show B = true ↔ _
        rw [hB]; simp only [true_and]
      clear hB
      cases B
      case false =>
        have HG : Hid (¬ P) := fun q => Bool.noConfusion (HB.out.2 (goodI_5.1 (HP.out.1 q)).1)
        go_wp2_with fail
        go_ret
        exact ⟨_, rfl, by simp [HG.out], kw1⟩
      case true =>
      have HG : Hid (¬ P) := fun q => by
        have := (goodI_5.1 (HP.out.1 q)).2.2.2
        omega
      go_wp2_with fail
      go_ret
      exact ⟨_, rfl, by simp [HG.out], kw1⟩
    by_cases h6 : op = 6
    case pos =>
      subst h6
      obtain ⟨B, hB, hq⟩ := ixEq_bare 6 a b free kind s hi t lo up nn 0 b
      have HB : Hid (B = true ↔ (a = 0 ∧ free = false ∧ NoNd ⟨kind, s, hi, t, lo, up, nn⟩)) := by
        show B = true ↔ _
        rw [hB]; simp only [true_and]
      clear hB
      cases B
      case false =>
        have HG : Hid (¬ P) := fun q => by
          have z := goodI_6.1 (HP.out.1 q)
          exact Bool.noConfusion (HB.out.2 ⟨z.2.1, z.1⟩)
        go_wp2_with fail
        go_ret
        exact ⟨_, rfl, by simp [HG.out], kw1⟩
      case true =>
      have HG : Hid (¬ P) := fun q => by
        have := (goodI_6.1 (HP.out.1 q)).2.2
        omega
      go_wp2_with fail
      go_ret
      exact ⟨_, rfl, by simp [HG.out], kw1⟩
    by_cases h2 : 2 ≤ op ∧ op ≤ 4
    case pos =>
      obtain ⟨B, hB, hq⟩ := ixEq_bare op a b free kind s hi t lo up nn 0 0
      have HG : Hid (B = true ↔ P) := by
        show B = true ↔ P
        rw [hB, HP.out, goodI_o h1 h5 h6]
        exact ⟨fun z => ⟨h2, z.2.2, z.1, z.2.1⟩, fun z => ⟨z.2.2.1, z.2.2.2, z.2.1⟩⟩
      clear hB
      have h3 : op = 2 ∨ op = 3 ∨ op = 4 := by omega
      clear h1 h5 h6 h2
      rcases h3 with rfl | rfl | rfl
      all_goals go_wp2_with fail
      all_goals go_ret
      all_goals exact ⟨_, rfl, HG.out, kw1⟩
    have HG : Hid (¬ P) := fun q => h2 ((goodI_o h1 h5 h6).1 (HP.out.1 q)).1
    have h22 : ¬ op = 2 := by omega
    have h23 : ¬ op = 3 := by omega
    have h24 : ¬ op = 4 := by omega
    clear h2
    go_wp2_with fail
    go_ret
    exact ⟨_, rfl, by simp [HG.out], kw1⟩
  by_cases h1 : op = 1
  case pos =>
    subst h1
    obtain ⟨B, hB, hq⟩ := ixEq_leaf 1 a b free kind s hi t lo up nn
    have HB : Hid (B = true ↔ b = 0) := hB
    clear hB
    cases B
    case false =>
      have HG : Hid (¬ P) := fun q => Bool.noConfusion (HB.out.2 (goodI_1.1 (HP.out.1 q)).2.1)
      go_wp2_with fail
      go_ret
      exact ⟨_, rfl, by simp [HG.out], kw1⟩
    case true =>
    go_wp2_with fail
    refine (validLeaf_core ⟨1, a, b, free, ⟨kind, s, hi, t, lo, up, nn⟩⟩ _ cnt _ rfl HO.out).mono ?_
    rintro e w3 ⟨r, rfl, hr, hb3⟩
    have HR : Hid (r = true ↔ LeafOk ⟨1, a, b, free, ⟨kind, s, hi, t, lo, up, nn⟩⟩ cnt) := hr
    have k3w : Below w.heap.size w w3 := kw1.trans (hb3.mono (by omega))
    have HG : Hid (r = true ↔ P) := by
      show r = true ↔ P
      rw [HR.out, HP.out, goodI_1]
      have hb0 : b = 0 := HB.out.1 (by simp)
      simp only [LeafOk, hb0, true_and]
    clear hr
    go_wp2_with fail
    go_ret
    exact ⟨_, rfl, HG.out, k3w⟩
  by_cases h5 : op = 5
  case pos =>
    subst h5
    obtain ⟨B, hB, hq⟩ := ixEq_bare 5 a b free kind s hi t lo up nn a b
    have HB : Hid (B = true ↔ (free = false ∧ NoNd ⟨kind, s, hi, t, lo, up, nn⟩)) := by
      show B = true ↔ _
      rw [hB]; simp only [true_and]
    clear hB
    cases B
    case false =>
      have HG : Hid (¬ P) := fun q => Bool.noConfusion (HB.out.2 (goodI_5.1 (HP.out.1 q)).1)
      go_wp2_with fail
      go_ret
      exact ⟨_, rfl, by simp [HG.out], kw1⟩
    case true =>
    have HF : Hid (P ↔ 0 ≤ a ∧ a < (conds : Int)) := by
      show P ↔ _
      rw [HP.out, goodI_5]
      exact ⟨fun z => ⟨z.2.1, z.2.2.1⟩, fun z => ⟨HB.out.1 rfl, z.1, z.2, hkb, hbn⟩⟩
    by_cases p0 : 0 ≤ a
    case neg =>
      have HG : Hid (¬ P) := fun z => p0 (HF.out.1 z).1
      go_wp2_with fail
      go_ret
      exact ⟨_, rfl, by simp [HG.out, p0], kw1⟩
    by_cases p1 : a < (conds : Int)
    case neg =>
      have HG : Hid (¬ P) := fun z => p1 (HF.out.1 z).2
      go_wp2_with fail
      go_ret
      exact ⟨_, rfl, by simp [HG.out, p0, p1], kw1⟩
    have HG : Hid P := HF.out.2 ⟨p0, p1⟩
    go_wp2_with fail
    go_ret
    exact ⟨_, rfl, by simp [HG.out, p0, p1], kw1⟩
  by_cases h6 : op = 6
  case pos =>
    subst h6
    obtain ⟨B, hB, hq⟩ := ixEq_bare 6 a b free kind s hi t lo up nn 0 b
    have HB : Hid (B = true ↔ (a = 0 ∧ free = false ∧ NoNd ⟨kind, s, hi, t, lo, up, nn⟩)) := by
      show B = true ↔ _
      rw [hB]; simp only [true_and]
    clear hB
    cases B
    case false =>
      have HG : Hid (¬ P) := fun q => by
        have z := goodI_6.1 (HP.out.1 q)
        exact Bool.noConfusion (HB.out.2 ⟨z.2.1, z.1⟩)
      go_wp2_with fail
      go_ret
      exact ⟨_, rfl, by simp [HG.out], kw1⟩
    case true =>
    have HG : Hid P := HP.out.2 (goodI_6.2 ⟨(HB.out.1 rfl).2, (HB.out.1 rfl).1, hkb, hbn⟩)
    go_wp2_with fail
    go_ret
    exact ⟨_, rfl, by simp [HG.out], kw1⟩
  by_cases h2 : 2 ≤ op ∧ op ≤ 4
  case pos =>
    obtain ⟨B, hB, hq⟩ := ixEq_bare op a b free kind s hi t lo up nn 0 0
    have HG : Hid (B = true ↔ P) := by
      show B = true ↔ P
      rw [hB, HP.out, goodI_o h1 h5 h6]
      exact ⟨fun z => ⟨h2, z.2.2, z.1, z.2.1⟩, fun z => ⟨z.2.2.1, z.2.2.2, z.2.1⟩⟩
    clear hB
    have h3 : op = 2 ∨ op = 3 ∨ op = 4 := by omega
    clear h1 h5 h6 h2
    rcases h3 with rfl | rfl | rfl
    all_goals go_wp2_with fail
    all_goals go_ret
    all_goals exact ⟨_, rfl, HG.out, kw1⟩
  have HG : Hid (¬ P) := fun q => h2 ((goodI_o h1 h5 h6).1 (HP.out.1 q)).1
  have h22 : ¬ op = 2 := by omega
  have h23 : ¬ op = 3 := by omega
  have h24 : ¬ op = 4 := by omega
  clear h2
  go_wp2_with fail
  go_ret
  exact ⟨_, rfl, by simp [HG.out], kw1⟩
end Go.Proofs.Ytlgeffinhbodeae

