/-
  The state of impl.EncodeRun's loop.
-/
import Derived.Test.YtlgeffinhbodeacQBbI
import Derived.Test.YtlgeffinhbodeacQChM
import Derived.Test.YtlgeffinhbodeacQFileS
import Derived.Test.YtlgeffinhbodeacQCrcI
namespace Go.Proofs.Ytlgeffinhbodeac
open Go.ChangeShapes Go.WideShapes Go.ChangeAt Go.RowKit Go.Deep
set_option linter.unusedVariables false
set_option linter.unusedSimpArgs false
set_option maxRecDepth 100000

structure EnS (w Wst : World) (SS : Nat → Prop) (T B6 B7 B8 : Nat) (F M : List UInt8) (c mf gf cpf mm gm cpm : Nat) (W : World) : Prop where
  file : BoxAt W w.heap.size 47 1 B6 [.slice (some ⟨gf, 0, none⟩) mf cpf]
  mfl : mf = F.length
  frow : OutB W w.heap.size gf cpf F
  marks : BoxAt W w.heap.size 47 1 B7 [.slice (some ⟨gm, 0, none⟩) mm cpm]
  mml : mm = M.length
  mrow : OwnY W w.heap.size gm cpm M
  cnt : BoxAt W w.heap.size 69 1 B8 [.int .u64 (c : Int)]
  tab : TabAt W T 0
  tlt : w.heap.size ≤ T ∧ T < W.heap.size
  n1 : ¬ B6 = B7 ∧ ¬ B6 = B8 ∧ ¬ B7 = B8 ∧ ¬ T = B6 ∧ ¬ T = B7 ∧ ¬ T = B8
  n2 : ¬ gf = B6 ∧ ¬ gf = B7 ∧ ¬ gf = B8 ∧ ¬ gf = gm ∧ ¬ gf = T
  n3 : ¬ gm = B6 ∧ ¬ gm = B7 ∧ ¬ gm = B8 ∧ ¬ gm = T
  below : Below w.heap.size w W
  ch : Chg SS Wst W
  ss : SS B6 ∧ SS B7 ∧ SS B8 ∧ (SS gf ∨ Wst.heap.size ≤ gf) ∧ (SS gm ∨ Wst.heap.size ≤ gm)
variable {w Wst : World} {SS : Nat → Prop} {T B6 B7 B8 : Nat} {F M : List UInt8} {c mf gf cpf mm gm cpm : Nat} {W W1 : World}
theorem ne_of {g' g S B : Nat} (hat : g' = g ∨ S ≤ g') (h : ¬ g = B) (hl : B < S) : ¬ g' = B := by
  rcases hat with rfl | q
  · exact h
  · omega
theorem Chg.takeIn {S T : Nat → Prop} {w w1 w2 : World} (h : Chg S w w1) (k : Chg T w1 w2) (hT : ∀ j, T j → S j ∨ w.heap.size ≤ j) : Chg S w w2 :=
  ⟨k.os.trans h.os, k.tape.trans h.tape, k.output.trans h.output, Nat.le_trans h.size k.size, fun i hi hn => (k.block i (Nat.lt_of_lt_of_le hi h.size) (fun q => by rcases hT i q with q | q; exact hn q; omega)).trans (h.block i hi hn)⟩
theorem tab_chg {S : Nat → Prop} {w w' : World} {T : Nat} (h : TabAt w T 0) (hc : Chg S w w') (hl : T < w.heap.size) (hn : ¬ S T) : TabAt w' T 0 := fun i hi => by
  rw [hc.cell (p := ⟨T, 0 + i, none⟩) hl hn]; exact h i hi
theorem EnS.move (h : EnS w Wst SS T B6 B7 B8 F M c mf gf cpf mm gm cpm W) (hb : Below W.heap.size W W1) : EnS w Wst SS T B6 B7 B8 F M c mf gf cpf mm gm cpm W1 :=
  ⟨h.file.below hb, h.mfl, h.frow.chg (Chg.of_below hb) (S := fun _ => False) (fun q => q), h.marks.below hb, h.mml, h.mrow.below hb, h.cnt.below hb, h.tab.below hb h.tlt.2, ⟨h.tlt.1, Nat.lt_of_lt_of_le h.tlt.2 hb.size⟩, h.n1, h.n2, h.n3, h.below.trans (hb.mono h.below.size), h.ch.trans (Chg.of_below hb), h.ss⟩
/-- The file's row grown, then its variable set. -/
theorem EnS.newFile (h : EnS w Wst SS T B6 B7 B8 F M c mf gf cpf mm gm cpm W) {gf' cpf' mf' : Nat} {F' : List UInt8} (hO : OwnY W1 w.heap.size gf' cpf' F') (hC : Chg (fun k => k = gf) W W1) (hat : gf' = gf ∨ W.heap.size ≤ gf') (hm : mf' = F'.length) :
    EnS w Wst SS T B6 B7 B8 F' M c mf' gf' cpf' mm gm cpm (W1.setCell ⟨B6, 0, none⟩ (.slice (some ⟨gf', 0, none⟩) mf' cpf')) ∧ W1.cell? ⟨B6, 0, none⟩ = some (.slice (some ⟨gf, 0, none⟩) mf cpf) ∧ W1.frozen? ⟨B6, 0, none⟩ = false := by
  obtain ⟨a1, a2, a3, a4, a5, a6⟩ := h.n1
  obtain ⟨b1, b2, b3, b4, b5⟩ := h.n2
  obtain ⟨c1, c2, c3, c4⟩ := h.n3
  have l6 := h.file.lt
  have l7 := h.marks.lt
  have l8 := h.cnt.lt
  have lm := h.mrow.lt
  have lf := h.frow.lt
  have lt := h.tlt
  have hs := Chg.of_set W1 B6 0 (.slice (some ⟨gf', 0, none⟩) mf' cpf') (S := fun k => k = B6) rfl
  have hsz := hC.size
  have hbx := h.file.chg hC (fun q => b1 q.symm)
  have e6 := ne_of hat b1 l6.2
  have e7 := ne_of hat b2 l7.2
  have e8 := ne_of hat b3 l8.2
  have em := ne_of hat b4 lm.2
  have eT := ne_of hat b5 lt.2
  have hsz2 := hs.size
  refine ⟨⟨hbx.set 0 _, hm, .inl (hO.chg hs e6), (h.marks.chg hC (fun q => b2 q.symm)).chg hs (fun q => a1 q.symm), h.mml, (h.mrow.chg hC (fun q => b4 q.symm)).chg hs c1, (h.cnt.chg hC (fun q => b3 q.symm)).chg hs (fun q => a2 q.symm), tab_chg (tab_chg h.tab hC lt.2 (fun q => b5 q.symm)) hs (Nat.lt_of_lt_of_le lt.2 hsz) a4, ⟨lt.1, Nat.lt_of_lt_of_le lt.2 (Nat.le_trans hsz hsz2)⟩, h.n1, ⟨e6, e7, e8, em, eT⟩, h.n3, ?_, ?_, ?_⟩, hbx.cell (j := 0) rfl, hbx.frozen 0⟩
  · exact below_set (Chg.below h.below hC h.below.size (fun k q => by subst q; exact lf.1)) l6.1 0 _
  · exact (h.ch.takeIn hC (fun k q => by subst q; exact h.ss.2.2.2.1)).takeIn hs (fun k q => by subst q; exact .inl h.ss.1)
  · obtain ⟨s1, s2, s3, s4, s5⟩ := h.ss
    refine ⟨s1, s2, s3, ?_, s5⟩
    rcases hat with q | q
    · rw [q]; exact s4
    · exact .inr (Nat.le_trans h.ch.size q)
theorem EnS.newMarks (h : EnS w Wst SS T B6 B7 B8 F M c mf gf cpf mm gm cpm W) {gm' cpm' mm' : Nat} {M' : List UInt8} (hO : OwnY W1 w.heap.size gm' cpm' M') (hC : Chg (fun k => k = gm) W W1) (hat : gm' = gm ∨ W.heap.size ≤ gm') (hm : mm' = M'.length) :
    EnS w Wst SS T B6 B7 B8 F M' c mf gf cpf mm' gm' cpm' (W1.setCell ⟨B7, 0, none⟩ (.slice (some ⟨gm', 0, none⟩) mm' cpm')) ∧ W1.cell? ⟨B7, 0, none⟩ = some (.slice (some ⟨gm, 0, none⟩) mm cpm) ∧ W1.frozen? ⟨B7, 0, none⟩ = false := by
  obtain ⟨a1, a2, a3, a4, a5, a6⟩ := h.n1
  obtain ⟨b1, b2, b3, b4, b5⟩ := h.n2
  obtain ⟨c1, c2, c3, c4⟩ := h.n3
  have l6 := h.file.lt
  have l7 := h.marks.lt
  have l8 := h.cnt.lt
  have lm := h.mrow.lt
  have lf := h.frow.lt
  have lt := h.tlt
  have hs := Chg.of_set W1 B7 0 (.slice (some ⟨gm', 0, none⟩) mm' cpm') (S := fun k => k = B7) rfl
  have hsz := hC.size
  have hbx := h.marks.chg hC (fun q => c2 q.symm)
  have e6 := ne_of hat c1 l6.2
  have e7 := ne_of hat c2 l7.2
  have e8 := ne_of hat c3 l8.2
  have ef := ne_of hat (fun q => b4 q.symm) lf.2
  have eT := ne_of hat c4 lt.2
  have hsz2 := hs.size
  refine ⟨⟨(h.file.chg hC (fun q => c1 q.symm)).chg hs a1, h.mfl, (h.frow.chg hC b4).chg hs b2, hbx.set 0 _, hm, hO.chg hs e7, (h.cnt.chg hC (fun q => c3 q.symm)).chg hs (fun q => a3 q.symm), tab_chg (tab_chg h.tab hC lt.2 (fun q => c4 q.symm)) hs (Nat.lt_of_lt_of_le lt.2 hsz) a5, ⟨lt.1, Nat.lt_of_lt_of_le lt.2 (Nat.le_trans hsz hsz2)⟩, h.n1, ⟨b1, b2, b3, fun q => ef q.symm, b5⟩, ⟨e6, e7, e8, eT⟩, ?_, ?_, ?_⟩, hbx.cell (j := 0) rfl, hbx.frozen 0⟩
  · exact below_set (Chg.below h.below hC h.below.size (fun k q => by subst q; exact lm.1)) l7.1 0 _
  · exact (h.ch.takeIn hC (fun k q => by subst q; exact h.ss.2.2.2.2)).takeIn hs (fun k q => by subst q; exact .inl h.ss.2.1)
  · obtain ⟨s1, s2, s3, s4, s5⟩ := h.ss
    refine ⟨s1, s2, s3, s4, ?_⟩
    rcases hat with q | q
    · rw [q]; exact s5
    · exact .inr (Nat.le_trans h.ch.size q)
theorem EnS.incr (h : EnS w Wst SS T B6 B7 B8 F M c mf gf cpf mm gm cpm W) : EnS w Wst SS T B6 B7 B8 F M (c + 1) mf gf cpf mm gm cpm (W.setCell ⟨B8, 0, none⟩ (.int .u64 ((c : Int) + 1))) := by
  obtain ⟨a1, a2, a3, a4, a5, a6⟩ := h.n1
  obtain ⟨b1, b2, b3, b4, b5⟩ := h.n2
  obtain ⟨c1, c2, c3, c4⟩ := h.n3
  have l8 := h.cnt.lt
  have lt := h.tlt
  have hs := Chg.of_set W B8 0 (.int .u64 ((c : Int) + 1)) (S := fun k => k = B8) rfl
  exact ⟨h.file.chg hs a2, h.mfl, h.frow.chg hs b3, h.marks.chg hs a3, h.mml, h.mrow.chg hs c3, h.cnt.set 0 _, tab_chg h.tab hs lt.2 a6, ⟨lt.1, Nat.lt_of_lt_of_le lt.2 hs.size⟩, h.n1, h.n2, h.n3, below_set h.below l8.1 0 _, h.ch.takeIn hs (fun k q => by subst q; exact .inl h.ss.2.2.1), h.ss⟩
end Go.Proofs.Ytlgeffinhbodeac
